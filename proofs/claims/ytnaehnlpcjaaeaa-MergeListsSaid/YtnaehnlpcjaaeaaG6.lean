/- merge's queue: plain mathematics of what waits for what. -/
import Derived.Test.YtnaehnlpcjaaeaaG5
import Derived.Shelf.Bits.Mul64
import Derived.Laws.CopyOwn
namespace Go.Proofs.Ytnaehnlpcjaaeaa
open Go.RowKit

theorem sum_upd {f g : Nat → Nat} {a : Nat} (h : ∀ k, k ≠ a → g k = f k) : ∀ n, a < n → ((List.range n).map g).sum + f a = ((List.range n).map f).sum + g a
  | 0, ha => absurd ha (by omega)
  | n + 1, ha => by
    simp only [List.range_succ, List.map_append, List.sum_append, List.map_cons, List.map_nil, List.sum_cons, List.sum_nil]
    by_cases e : a = n
    · subst e
      have : ((List.range a).map g).sum = ((List.range a).map f).sum := by
        congr 1
        exact List.map_congr_left fun k hk => h k (by have := List.mem_range.1 hk; omega)
      omega
    · have h1 := sum_upd h n (by omega)
      have h2 := h n (fun e2 => e e2.symm)
      omega
theorem sum_pos {f : Nat → Nat} : ∀ n, 0 < ((List.range n).map f).sum → ∃ k, k < n ∧ 0 < f k
  | 0, h => by simp at h
  | n + 1, h => by
    simp only [List.range_succ, List.map_append, List.sum_append, List.map_cons, List.map_nil, List.sum_cons, List.sum_nil] at h
    by_cases e : 0 < f n
    · exact ⟨n, by omega, e⟩
    · obtain ⟨k, hk, h1⟩ := sum_pos n (f := f) (by omega)
      exact ⟨k, by omega, h1⟩
theorem sum_ge {f : Nat → Nat} {k : Nat} : ∀ n, k < n → f k ≤ ((List.range n).map f).sum
  | 0, h => absurd h (by omega)
  | n + 1, h => by
    simp only [List.range_succ, List.map_append, List.sum_append, List.map_cons, List.map_nil, List.sum_cons, List.sum_nil]
    by_cases e : k = n
    · subst e; omega
    · have := sum_ge (f := f) n (show k < n by omega); omega
/-- how often x waits for one that has not come -/
def cntW (cm : List Bool) (wl : List (List Int)) (ln : Nat) (x : Int) : Nat := ((List.range ln).map fun a => if cm.getD a false = true then 0 else (wl.getD a []).count x).sum
/-- of things that come behind others: o have come, ns may, lim are to be looked at, all others wait for one that has not come -/
structure QI (LL : List (List Int)) (ln : Nat) (o : List Int) (cm : List Bool) (sn : List Int) (wl : List (List Int)) (ns lim : List Int) : Prop where
  lc : cm.length = ln
  ls : sn.length = ln
  lw : wl.length = ln
  ll : LL.length = ln
  one : ∀ x : Int, o.count x + ns.count x + lim.count x + cntW cm wl ln x = if 0 ≤ x ∧ x < ln then 1 else 0
  come : ∀ a : Nat, a < ln → (cm.getD a false = true ↔ (a : Int) ∈ o)
  seen : ∀ k : Nat, k < ln → (k : Int) ∉ o → 0 ≤ sn.getD k 0 ∧ (sn.getD k 0).toNat ≤ (LL.getD k []).length ∧ ∀ y ∈ (LL.getD k []).take (sn.getD k 0).toNat, y ∈ o
  may : ∀ x ∈ ns, ∀ y ∈ LL.getD x.toNat [], y ∈ o
  wait : ∀ a : Nat, a < ln → cm.getD a false = false → ∀ x ∈ wl.getD a [], (a : Int) ∈ LL.getD x.toNat []
theorem getD_set {α : Type} (l : List α) (i k : Nat) (v d : α) (hi : i < l.length) : (l.set i v).getD k d = if k = i then v else l.getD k d := by
  simp only [List.getD_eq_getElem?_getD, List.getElem?_set]
  by_cases e : k = i
  · subst e; rw [if_pos rfl, if_pos hi]; simp
  · rw [if_neg (fun h => e h.symm), if_neg e]
section
variable {LL : List (List Int)} {ln : Nat} {o : List Int} {cm : List Bool} {sn : List Int} {wl : List (List Int)} {ns lim : List Int} {x : Int}
theorem QI.range (h : QI LL ln o cm sn wl ns lim) (hx : 0 < o.count x + ns.count x + lim.count x + cntW cm wl ln x) : ∃ k : Nat, x = (k : Int) ∧ k < ln := by
  have := h.one x
  split at this
  · exact ⟨x.toNat, by omega, by omega⟩
  · omega
theorem QI.ofLim (h : QI LL ln o cm sn wl ns (x :: lim)) : ∃ k : Nat, x = (k : Int) ∧ k < ln ∧ x ∉ o ∧ x ∉ ns ∧ x ∉ lim := by
  obtain ⟨k, hk, hl⟩ := h.range (x := x) (by simp; omega)
  have := h.one x
  rw [List.count_cons_self] at this
  have h2 : (if 0 ≤ x ∧ x < (ln : Int) then 1 else 0) ≤ 1 := by split <;> omega
  exact ⟨k, hk, hl, List.count_eq_zero.1 (by omega), List.count_eq_zero.1 (by omega), List.count_eq_zero.1 (by omega)⟩
theorem QI.ofNs (h : QI LL ln o cm sn wl ns lim) (hx : x ∈ ns) : ∃ k : Nat, x = (k : Int) ∧ k < ln ∧ x ∉ o := by
  have hp := List.count_pos_iff.2 hx
  obtain ⟨k, hk, hl⟩ := h.range (x := x) (by omega)
  have := h.one x
  have h2 : (if 0 ≤ x ∧ x < (ln : Int) then 1 else 0) ≤ 1 := by split <;> omega
  exact ⟨k, hk, hl, List.count_eq_zero.1 (by omega)⟩
theorem count_le_nodup {l : List Int} (h : ∀ x, l.count x ≤ 1) : l.Nodup := List.nodup_iff_count.2 h
theorem QI.le1 (h : QI LL ln o cm sn wl ns lim) (x : Int) : o.count x + ns.count x + lim.count x + cntW cm wl ln x ≤ 1 := by
  rw [h.one x]; split <;> omega
theorem QI.nodups (h : QI LL ln o cm sn wl ns lim) : o.Nodup ∧ ns.Nodup ∧ lim.Nodup :=
  ⟨count_le_nodup fun x => by have := h.le1 x; omega, count_le_nodup fun x => by have := h.le1 x; omega, count_le_nodup fun x => by have := h.le1 x; omega⟩
theorem QI.lenO (h : QI LL ln o cm sn wl ns lim) : o.length ≤ ln := nodup_le h.nodups.1 fun x hx => h.range (by have := List.count_pos_iff.2 hx; omega)
theorem QI.lenN (h : QI LL ln o cm sn wl ns lim) : ns.length ≤ ln := nodup_le h.nodups.2.1 fun x hx => h.range (by have := List.count_pos_iff.2 hx; omega)
theorem cnt_row {a : Nat} (ha : a < ln) (hc : cm.getD a false = false) (x : Int) : (wl.getD a []).count x ≤ cntW cm wl ln x := by
  have := sum_ge (f := fun a => if cm.getD a false = true then 0 else (wl.getD a []).count x) ln ha
  simp only [hc] at this
  simpa [cntW] using this
theorem QI.lenW (h : QI LL ln o cm sn wl ns lim) {a : Nat} (ha : a < ln) (hc : cm.getD a false = false) : (wl.getD a []).length ≤ ln := by
  refine nodup_le (count_le_nodup fun x => ?_) fun x hx => ?_
  · have := h.le1 x; have := cnt_row (wl := wl) ha hc x; omega
  · exact h.range (by have := List.count_pos_iff.2 hx; have := cnt_row (wl := wl) ha hc x; omega)
/-- one that is looked at waits -/
theorem QI.waits (h : QI LL ln o cm sn wl ns (x :: lim)) {j a : Nat} (ha : a < ln) (hc : cm.getD a false = false) (hj : (LL.getD x.toNat [])[j]? = some (a : Int)) (hal : ∀ y ∈ (LL.getD x.toNat []).take j, y ∈ o) :
    QI LL ln o cm (sn.set x.toNat (j : Int)) (wl.set a (wl.getD a [] ++ [x])) ns lim := by
  obtain ⟨k, rfl, hk, hxo, _⟩ := h.ofLim
  rw [Int.toNat_natCast] at hj hal ⊢
  refine ⟨h.lc, by rw [List.length_set]; exact h.ls, by rw [List.length_set]; exact h.lw, h.ll, fun z => ?_, h.come, fun i hi ho => ?_, h.may, fun b hb hcb z hz => ?_⟩
  · rw [← h.one z]
    have hs := sum_upd (f := fun a => if cm.getD a false = true then 0 else (wl.getD a []).count z) (g := fun b => if cm.getD b false = true then 0 else ((wl.set a (wl.getD a [] ++ [(k : Int)])).getD b []).count z) (a := a) (fun b hb => by rw [getD_set _ _ _ _ _ (by rw [h.lw]; exact ha), if_neg hb]) ln ha
    simp only [hc, getD_set _ _ _ _ _ (show a < wl.length by rw [h.lw]; exact ha), if_true, List.count_append, Bool.false_eq_true, if_false] at hs
    have e : List.count z ((k : Int) :: lim) = lim.count z + List.count z [(k : Int)] := by
      rw [List.count_cons, List.count_cons, List.count_nil]; omega
    rw [e]
    unfold cntW
    have hs' : ((List.range ln).map fun b => if cm.getD b false = true then 0 else ((wl.set a (wl.getD a [] ++ [(k : Int)])).getD b []).count z).sum = ((List.range ln).map fun b => if cm.getD b false = true then 0 else (if b = a then wl.getD a [] ++ [(k : Int)] else wl.getD b []).count z).sum := by
      congr 1
      exact List.map_congr_left fun b _ => by rw [getD_set _ _ _ _ _ (show a < wl.length by rw [h.lw]; exact ha)]
    rw [hs']
    omega
  · rw [getD_set _ _ _ _ _ (by rw [h.ls]; exact hk)]
    by_cases e : i = k
    · subst e
      rw [if_pos rfl]
      have := (List.getElem?_eq_some_iff.1 hj).1
      exact ⟨by omega, by omega, by rw [Int.toNat_natCast]; exact hal⟩
    · rw [if_neg e]; exact h.seen i hi ho
  · rw [getD_set _ _ _ _ _ (by rw [h.lw]; exact ha)] at hz
    by_cases e : b = a
    · subst e
      rw [if_pos rfl] at hz
      rcases List.mem_append.1 hz with hz | hz
      · exact h.wait b hb hcb z hz
      · rw [List.mem_singleton.1 hz, Int.toNat_natCast]
        exact List.mem_of_getElem? hj
    · rw [if_neg e] at hz; exact h.wait b hb hcb z hz
/-- one that is looked at may come -/
theorem QI.mays (h : QI LL ln o cm sn wl ns (x :: lim)) {ms : List Int} (hp : ms.Perm (ns ++ [x])) (hal : ∀ y ∈ LL.getD x.toNat [], y ∈ o) :
    QI LL ln o cm (sn.set x.toNat ((LL.getD x.toNat []).length : Int)) wl ms lim := by
  obtain ⟨k, rfl, hk, hxo, _⟩ := h.ofLim
  rw [Int.toNat_natCast] at hal ⊢
  refine ⟨h.lc, by rw [List.length_set]; exact h.ls, h.lw, h.ll, fun z => ?_, h.come, fun i hi ho => ?_, fun z hz => ?_, h.wait⟩
  · rw [← h.one z, hp.count_eq, List.count_append]
    have e : List.count z ((k : Int) :: lim) = lim.count z + List.count z [(k : Int)] := by
      rw [List.count_cons, List.count_cons, List.count_nil]; omega
    rw [e]; omega
  · rw [getD_set _ _ _ _ _ (by rw [h.ls]; exact hk)]
    by_cases e : i = k
    · subst e
      rw [if_pos rfl]
      exact ⟨by omega, by omega, fun y hy => hal y (List.mem_of_mem_take hy)⟩
    · rw [if_neg e]; exact h.seen i hi ho
  · rcases List.mem_append.1 (hp.mem_iff.1 hz) with hz | hz
    · exact h.may z hz
    · rw [List.mem_singleton.1 hz, Int.toNat_natCast]; exact hal
/-- one comes -/
theorem QI.comes (h : QI LL ln o cm sn wl ns []) {ms : List Int} (hp : (ms ++ [x]).Perm ns) :
    QI LL ln (o ++ [x]) (cm.set x.toNat true) sn wl ms (wl.getD x.toNat []) := by
  have hxn : x ∈ ns := hp.mem_iff.1 (by simp)
  obtain ⟨k, rfl, hk, hxo⟩ := h.ofNs hxn
  rw [Int.toNat_natCast]
  have hcf : cm.getD k false = false := by
    have := h.come k hk
    cases e : cm.getD k false
    · rfl
    · exact absurd (this.1 e) hxo
  refine ⟨by rw [List.length_set]; exact h.lc, h.ls, h.lw, h.ll, fun z => ?_, fun a ha => ?_, fun i hi ho => ?_, fun z hz y hy => ?_, fun b hb hcb z hz => ?_⟩
  · rw [← h.one z, ← hp.count_eq, List.count_append, List.count_append, List.count_nil]
    have hs := sum_upd (f := fun a => if cm.getD a false = true then 0 else (wl.getD a []).count z) (g := fun b => if (cm.set k true).getD b false = true then 0 else (wl.getD b []).count z) (a := k) (fun b hb => by rw [getD_set _ _ _ _ _ (by rw [h.lc]; exact hk), if_neg hb]) ln hk
    have e1 : (cm.set k true).getD k false = true := by rw [getD_set _ _ _ _ _ (by rw [h.lc]; exact hk), if_pos rfl]
    simp only [hcf, e1, if_true, Bool.false_eq_true, if_false] at hs
    unfold cntW
    omega
  · rw [getD_set _ _ _ _ _ (by rw [h.lc]; exact hk)]
    by_cases e : a = k
    · subst e; simp
    · rw [if_neg e, h.come a ha, List.mem_append]
      constructor
      · exact .inl
      · rintro (h1 | h1)
        · exact h1
        · rw [List.mem_singleton] at h1; omega
  · obtain ⟨h1, h2, h3⟩ := h.seen i hi (fun hh => ho (List.mem_append.2 (.inl hh)))
    exact ⟨h1, h2, fun y hy => List.mem_append.2 (.inl (h3 y hy))⟩
  · exact List.mem_append.2 (.inl (h.may z (hp.mem_iff.1 (List.mem_append.2 (.inl hz))) y hy))
  · rw [getD_set _ _ _ _ _ (by rw [h.lc]; exact hk)] at hcb
    by_cases e : b = k
    · subst e; rw [if_pos rfl] at hcb; cases hcb
    · rw [if_neg e] at hcb; exact h.wait b hb hcb z hz
/-- it may come: all that it names have come -/
def MayO (LL : List (List Int)) (ln : Nat) (o : List Int) (i : Nat) : Prop := i < ln ∧ (i : Int) ∉ o ∧ ∀ y ∈ LL.getD i [], y ∈ o
theorem QI.may_iff (h : QI LL ln o cm sn wl ns []) (i : Nat) : MayO LL ln o i ↔ (i : Int) ∈ ns := by
  constructor
  · rintro ⟨hi, ho, ha⟩
    have h1 := h.one (i : Int)
    rw [if_pos ⟨by omega, by omega⟩, List.count_eq_zero.2 ho, List.count_nil] at h1
    refine Decidable.byContradiction fun hn => ?_
    rw [List.count_eq_zero.2 hn] at h1
    obtain ⟨a, hal, hp⟩ := sum_pos (f := fun a => if cm.getD a false = true then 0 else (wl.getD a []).count (i : Int)) ln (by unfold cntW at h1; omega)
    have hc : cm.getD a false = false := by
      cases e : cm.getD a false
      · rfl
      · exact absurd hp (by simp only [e, if_true]; omega)
    simp only [hc, Bool.false_eq_true, if_false] at hp
    have h2 := h.wait a hal hc _ (List.count_pos_iff.1 hp)
    rw [Int.toNat_natCast] at h2
    have h3 := (h.come a hal).2 (ha _ h2)
    rw [hc] at h3
    cases h3
  · intro hn
    obtain ⟨k, e, hk, ho⟩ := h.ofNs hn
    obtain rfl : i = k := by omega
    exact ⟨hk, ho, fun y hy => h.may _ hn y (by rw [Int.toNat_natCast]; exact hy)⟩
end
/-- each of them is the least that may come behind those ahead of it -/
structure StepsO (LL : List (List Int)) (ln : Nat) (o : List Int) : Prop where
  nodup : o.Nodup
  rng : ∀ x ∈ o, ∃ k : Nat, x = (k : Int) ∧ k < ln
  step : ∀ (k i : Nat), o[k]? = some (i : Int) → MayO LL ln (o.take k) i ∧ ∀ j, MayO LL ln (o.take k) j → i ≤ j
theorem StepsO.nil_ (LL : List (List Int)) (ln : Nat) : StepsO LL ln [] := ⟨List.nodup_nil, fun x hx => (by cases hx), fun k i h => by simp at h⟩
theorem StepsO.snoc {LL : List (List Int)} {ln : Nat} {o : List Int} {i : Nat} (h : StepsO LL ln o) (hm : MayO LL ln o i) (hl : ∀ j, MayO LL ln o j → i ≤ j) : StepsO LL ln (o ++ [(i : Int)]) := by
  refine ⟨List.nodup_append.2 ⟨h.nodup, by simp, fun a ha b hb e => hm.2.1 (by rw [List.mem_singleton.1 hb] at e; rw [← e]; exact ha)⟩, fun x hx => ?_, fun k j hk => ?_⟩
  · rcases List.mem_append.1 hx with hx | hx
    · exact h.rng x hx
    · exact ⟨i, List.mem_singleton.1 hx, hm.1⟩
  · by_cases hlt : k < o.length
    · rw [List.getElem?_append_left hlt] at hk
      rw [List.take_append_of_le_length (Nat.le_of_lt hlt)]
      exact h.step k j hk
    · have hk2 := (List.getElem?_eq_some_iff.1 hk).1
      rw [List.length_append, List.length_singleton] at hk2
      obtain rfl : k = o.length := by omega
      rw [List.getElem?_append_right (Nat.le_refl _), Nat.sub_self] at hk
      simp at hk
      obtain rfl : i = j := by omega
      rw [List.take_left]
      exact ⟨hm, hl⟩
theorem cntW_nil (cm : List Bool) (ln : Nat) (x : Int) : cntW cm (List.replicate ln []) ln x = 0 := by
  unfold cntW
  have : (List.range ln).map (fun a => if cm.getD a false = true then 0 else ((List.replicate ln ([] : List Int)).getD a []).count x) = (List.range ln).map fun _ => 0 := List.map_congr_left fun a ha => by
    have ha := List.mem_range.1 ha
    simp [List.getD, ha]
  rw [this]
  have hz : ∀ n, ((List.range n).map fun _ => (0 : Nat)).sum = 0 := by
    intro n
    induction n with
    | zero => rfl
    | succ n ih => rw [List.range_succ, List.map_append, List.sum_append, ih]; rfl
  exact hz ln
theorem count_rangeI (ln : Nat) (x : Int) : ((List.range ln).map fun k : Nat => (k : Int)).count x = if 0 ≤ x ∧ x < ln then 1 else 0 := by
  have hn : ((List.range ln).map fun k : Nat => (k : Int)).Nodup := by
    unfold List.Nodup
    rw [List.pairwise_map]
    exact List.nodup_range.imp fun h e => h (by omega)
  rw [hn.count]
  by_cases h : 0 ≤ x ∧ x < ln
  · rw [if_pos h, if_pos (List.mem_map.2 ⟨x.toNat, List.mem_range.2 (by omega), by omega⟩)]
  · rw [if_neg h, if_neg (fun hm => by
      obtain ⟨k, hk, rfl⟩ := List.mem_map.1 hm
      have := List.mem_range.1 hk
      omega)]
theorem QI.start (LL : List (List Int)) (ln : Nat) (hl : LL.length = ln) : QI LL ln [] (List.replicate ln false) (List.replicate ln 0) (List.replicate ln []) [] ((List.range ln).map fun k : Nat => (k : Int)) := by
  refine ⟨by simp, by simp, by simp, hl, fun x => ?_, fun a ha => ?_, fun k hk _ => ?_, fun x hx => (by cases hx), fun a ha _ x hx => ?_⟩
  · rw [cntW_nil, count_rangeI]; simp
  · simp [List.getD, ha]
  · simp [List.getD, hk]
  · simp [List.getD, ha] at hx
end Go.Proofs.Ytnaehnlpcjaaeaa
/- merge.Both. -/
namespace Go.Proofs.Ytnaehnlpcjaaeaa
open Go.RowKit

set_option maxRecDepth 100000 in
set_option maxHeartbeats 8000000 in
theorem both_ok (LA : Option Addr) (ln lc : Nat) (LL : List (List Int)) (w : World) (h : IntsLL w w.heap.size LA ln LL) (hln : ln ≤ 1000) (hT : LL.flatten.length ≤ 100000) (hR : AllRise LL) :
    Calls Try.prog 15 #[.slice LA ln lc] w fun e w' => ∃ u A r c, e = .returned (.tuple #[.slice A r c, .int .i64 0]) ∧ u.length = r ∧ BothI LL u ∧ OwnI w' (w.heap.size + 2) 3 A c u ∧ Below w.heap.size w w' := by
  have hL : ∀ L ∈ LL, L.length ≤ 9223372036854775806 := fun L hL => by
    have : L.length ≤ LL.flatten.length := (List.sublist_flatten_of_mem hL).length_le
    omega
  have cO := open_go LA ln lc LL w h hL hln hR
  obtain ⟨i0, hi0, hz0, hz1, hz2⟩ := info_parts infoInt
  have HLL : Hid (LL.length = ln) := h.1
  have HL := Lib.hid hL
  have HR := Lib.hid hR
  obtain ⟨T, hT2⟩ : ∃ T, LL.flatten.length = T := ⟨_, rfl⟩
  rw [hT2] at hT
  have HT := Lib.hid hT2
  clear h hL hR hT2
  go_enter Try.func15, Try.ntmps15
  go_wp2_with (go_at_call 25; refine cO.mono ?_; rintro e w1 ⟨rfl, nx0, ns0, A0, c0, hF0, hI0, hB0, hz0_⟩; have HZ0 : Hid (FitsN LL nx0 ln) := (fun k hk => by rw [hz0_ k hk]; exact Nat.zero_le _); clear hz0_; have HF0 := Lib.hid hF0; have HI0 := Lib.hid hI0; have HB0 := Lib.hid hB0; clear hF0 hI0 hB0)
  go_loopw [6] (fun v wr => ∃ (u b : List Int) (r : Nat) (H : Option Addr) (ch : Nat) (nx ns : List Int) (A : Option Addr) (c : Nat), v = .slice H r ch ∧ b.length = r ∧ Hid (b = u.filter (allHave LL)) ∧ Hid (FitsN LL nx ln) ∧ Hid (HeadsF w.heap.size ln lc LA LL wr nx ns A c) ∧ Hid (MergeI LL nx ln u) ∧ Hid (OwnI wr (w.heap.size + 2) 3 H ch b) ∧ Hid (Apart H A) ∧ Hid (Below w.heap.size w wr)) (fun _ wr => T - goneN wr w.heap.size ln)
  case atStart => exact ⟨[], [], 0, none, 0, nx0, ns0, A0, c0, rfl, rfl, rfl, HZ0, HF0, HI0, OwnI.nil_ _ _ _, fun _ e => (by cases e), HB0⟩
  case round =>
    obtain ⟨u, b, r, H, ch, nx, ns, A, c, rfl, hr, HBU, HFN, HF, HI, HO, HA, HB⟩ := hrel
    have dcl := HF.out.heap.cell
    obtain ⟨N, hN⟩ : ∃ N, ns.length = N := ⟨_, rfl⟩
    rw [hN] at dcl
    have HRL := Lib.hid hr
    by_cases hlt : 0 < N
    · have y1 : (0 : Int) < (N : Int) := by omega
      have cP := pass_go w.heap.size (w.heap.size + 1) (w.heap.size + 2) ln ln lc ln LA A c ns LL nx wr HF.out (by omega) HR.out HL.out hln
      clear hr hN
      go_wp2_with (first | (go_at_call 26; refine (numLen _ _ _ _).mono ?_; rintro e w2 ⟨rfl, rfl⟩) | (go_at_call 27; refine cP.mono ?_; rintro e w3 ⟨at_, Hh, hs, chh, nx', ms, A', c', rfl, hF3, hS3, _, _, hQ3, ha1, ha2⟩; have hO3 := hQ3.own (by omega) (by omega) HO.out HA.out; have hI4 := HI.out.next hS3 HR.out HLL.out HF.out.nonneg; have hfl := hS3.full HI.out HR.out HLL.out; obtain ⟨hN3, hlt3⟩ := hS3.fits HF.out.nonneg HFN.out; rw [← gone_of HF.out.heads] at hlt3; have hT3 := hN3.le HLL.out; rw [HT.out] at hT3; have hB3 := HB.out.trans (hQ3.below (Nat.le_refl _) (by omega) (by omega)); obtain ⟨M, hM⟩ : ∃ M, hs.length = M := ⟨_, rfl⟩; rw [hM] at hfl; rw [hM]; have hr4 : r + 1 ≤ 1000000 := (by have h1 := hI4.le HLL.out; rw [HT.out, List.length_append, List.length_singleton] at h1; have h2 := List.length_filter_le (allHave LL) u; rw [← HBU.out, HRL.out] at h2; omega)) | (at_builtin; refine wpList_appendWhere _ rfl (.tmp 33) (.tmp 35) 25 rfl (w.heap.size + 2) 3 i0 Try.underlying25 hi0 hz0 hz1 hz2 H (some ⟨w3.heap.size, 0, none⟩) ch 1 1 (w3.heap.size + 1) r (r + 1) b [at_] rfl rfl (hO3.1.alloc _) HRL.out rfl (src_new w3 ⟨ha1, ha2⟩) (by omega) (by have := hF3.heap.sz; simp; omega) ?_; intro H4 c4 w4 HO4 HG4 HW4; obtain ⟨hF4, hA4, hB4⟩ := heads_beside hF3 hO3.1 HRL.out hO3.2 HO4 HG4 HW4; have hB5 := hB3.trans hB4))
      · have hml : M = ln := by
          have h : ((M : Int) == (ln : Int)) = true := by assumption
          have := eq_of_beq h
          omega
        have hbb : b ++ [at_] = (u ++ [at_]).filter (allHave LL) := by rw [List.filter_append, ← HBU.out, List.filter_cons_of_pos (hfl.1 hml)]; rfl
        go_roundw
        case rel => exact ⟨u ++ [at_], b ++ [at_], r + 1, H4, c4, nx', ms, A', c', rfl, by rw [List.length_append, HRL.out]; rfl, hbb, hN3, hF4, hI4, HO4, hA4, hB5⟩
        case measure =>
          rw [← gone_of hF4.heads] at hlt3 hT3
          omega
      · have hml : ¬ M = ln := by
          have h : ((M : Int) == (ln : Int)) = false := by assumption
          intro e
          rw [e, beq_self_eq_true] at h
          cases h
        have hbb : b = (u ++ [at_]).filter (allHave LL) := by rw [List.filter_append, ← HBU.out, List.filter_cons_of_neg (fun e => hml (hfl.2 e))]; simp
        go_roundw
        case rel => exact ⟨u ++ [at_], b, r, H, ch, nx', ms, A', c', rfl, HRL.out, hbb, hN3, hF3, hI4, hO3.1, hO3.2, hB3⟩
        case measure =>
          rw [← gone_of hF3.heads] at hlt3 hT3
          omega
    · obtain rfl : N = 0 := by omega
      have HE : Hid (ns = []) := List.eq_nil_of_length_eq_zero hN
      clear hlt hr hN
      go_wp2_with (first | (go_at_call 26; refine (numLen _ _ _ _).mono ?_; rintro e w2 ⟨rfl, rfl⟩))
      go_ret2
      exact ⟨b, H, r, ch, rfl, HRL.out, by rw [HBU.out]; exact (HI.out.union HLL.out (by have := HF.out.live; rwa [HE.out] at this)).both, HO.out, HB.out⟩
set_option maxRecDepth 100000 in
theorem both_err (LA : Option Addr) (ln lc : Nat) (LL : List (List Int)) (w : World) (h : IntsLL w w.heap.size LA ln LL) (hL : ∀ L ∈ LL, L.length ≤ 9223372036854775806) (hln : ln ≤ 1000) (hR : ¬ AllRise LL) :
    Calls Try.prog 15 #[.slice LA ln lc] w fun e w' => e = .returned (.tuple #[.slice none 0 0, .int .i64 1]) ∧ Below w.heap.size w w' := by
  have cO := open_err LA ln lc LL w h hL hln hR
  clear h hL hR
  go_enter Try.func15, Try.ntmps15
  go_wp2_with (go_at_call 25; refine cO.mono ?_; rintro e w1 ⟨rfl, hB0⟩)
  go_ret2
  exact ⟨rfl, hB0⟩
end Go.Proofs.Ytnaehnlpcjaaeaa
/- math/bits.Mul of one and a small number, at this program. -/
namespace Go.Proofs.Ytnaehnlpcjaaeaa
open Go.RowKit Go.Lib

set_option maxRecDepth 100000 in
set_option maxHeartbeats 4000000 in
theorem mul64_one (y : Nat) (hy : y ≤ 100000) (w : World) : Calls Try.prog 54 #[.int .u64 1, .int .u64 y] w fun e w' => e = .returned (.tuple #[.int .u64 0, .int .u64 y]) ∧ w' = w := by
  have m1 : bits .and .u64 (1 : Int) 4294967295 = 1 := by decide
  have my := Mul64.maskN y (by omega)
  rw [show y % 4294967296 = y by omega] at my
  have d0 : (y : Int) / 4294967296 = 0 := by omega
  have wy : IntKind.u64.wrap (y : Int) = (y : Int) := Mul64.wrapN y (by omega)
  go_enter Try.func54, Try.ntmps54
  go_wp2
  go_ret2
  have z0 : IntKind.u64.wrap (IntKind.u64.wrap (bits .and .u64 0 4294967295) / 4294967296) = 0 := by decide
  simp [z0]
set_option maxRecDepth 100000 in
theorem mul_one_ (y : Nat) (hy : y ≤ 100000) (w : World) : Calls Try.prog 45 #[.int .u64 1, .int .u64 y] w fun e w' => e = .returned (.tuple #[.int .u64 0, .int .u64 y]) ∧ w' = w := by
  have c64 := mul64_one y hy w
  go_enter Try.func45, Try.ntmps45
  go_wp2_with (go_at_call 54; refine c64.mono ?_; rintro e w' ⟨rfl, hw⟩; rw [hw])
  go_ret2
  exact ⟨rfl, rfl⟩
theorem run_dropI {w : World} (g n k : Nat) (hk : k < n) : (Instr.slice 25 (.slice (some ⟨g, 0, none⟩) n n) (some (.int .i64 (k : Int))) none none).run Try.prog w = .ok (.slice (some ⟨g, k, none⟩) (n - k) (n - k)) w := by
  rw [run_drop _ _ _ _ (Nat.le_of_lt hk), if_neg (by omega)]
  simp [Addr.add]
  exact fun h => h.symm
theorem made_repl (n : Nat) : madeCells #[Value.int .i64 0] n = (List.replicate n (Value.int .i64 0)).toArray := by rw [← toList_madeCells_one]
set_option maxRecDepth 100000 in
theorem info_size : (Try.prog.info? 3).map (·.size) = some 1 := by kernel_rfl
theorem repl_ones (v : Int) (m : Nat) : ∀ u ∈ List.replicate m (Value.int .i64 v), u.oneCell' = true := fun u hu => by rw [(List.mem_replicate.1 hu).2]; rfl
theorem own_repl {w : World} {g n base : Nat} {v : Int} {cur : List Value} (h : w.heap[g]? = some (.cells cur.toArray 3 (0, 0))) (hl : cur.length = n) (ht : cur.take n = List.replicate n (.int .i64 v)) (hb : base ≤ g) (hn : n ≤ 100000) (hv : -9223372036854775808 ≤ v ∧ v ≤ 9223372036854775807) : OwnI w base 3 (some ⟨g, 0, none⟩) n (List.replicate n v) := by
  refine ⟨⟨by simp, .inr ⟨g, n, cur.toArray, by simp, hb, h, by simp, by unfold maxLen; omega, by simpa using hl, ?_⟩⟩, fun x hx => by rw [(List.mem_replicate.1 hx).2]; exact hv⟩
  simpa using ht
theorem splice_repl {cur : List Value} {k m n : Nat} {x : Value} (hl : cur.length = n) (ht : cur.take k = List.replicate k x) (hkm : k + m ≤ n) : (splice cur k (List.replicate m x)).length = n ∧ (splice cur k (List.replicate m x)).take (k + m) = List.replicate (k + m) x := by
  refine ⟨by rw [length_splice _ _ _ (by simp; omega), hl], ?_⟩
  unfold splice
  rw [ht, ← List.append_assoc, List.replicate_append_replicate, List.take_left' (by simp)]
theorem repl_cell {w : World} {cur : List Value} {g k m : Nat} {x : Value} (h : w.heap[g]? = some (.cells cur.toArray 3 (0, 0))) (ht : cur.take k = List.replicate k x) (hm : m ≤ k) : ∀ j v, (List.replicate m x)[j]? = some v → w.cell? ((⟨g, 0, none⟩ : Addr).add j) = some v := fun j v hj => by
  rw [List.getElem?_replicate] at hj
  split at hj
  · rename_i hjm
    have h1 : (cur.take k)[j]? = some v := by rw [ht, List.getElem?_replicate, if_pos (by omega)]; exact hj
    rw [List.getElem?_take, if_pos (by omega)] at h1
    have := cell_of_row _ _ j _ _ (0, 0) h
    have e : (⟨g, 0, none⟩ : Addr).add j = ⟨g, j, none⟩ := by
      by_cases h0 : j = 0
      · subst h0; simp [Addr.add]
      · simp [Addr.add, h0]
    rw [e, this]
    simpa using h1
  · cases hj
end Go.Proofs.Ytnaehnlpcjaaeaa
/- slices.Repeat of one number. -/
namespace Go.Proofs.Ytnaehnlpcjaaeaa
open Go.RowKit Go.Lib

set_option maxRecDepth 100000 in
set_option maxHeartbeats 800000 in
/-- slices.Repeat of one number -/
theorem repeat_one (v : Int) (n B c1 : Nat) (b : Nat) (off : Nat) (w : World) (h : Ints w B (some ⟨b, off, none⟩) 1 [v]) (hB : B ≤ w.heap.size) (hn0 : 0 < n) (hn : n ≤ 1000) :
    Calls Try.prog 30 #[.slice (some ⟨b, off, none⟩) 1 c1, .int .i64 n] w fun e w' => e = .returned (.slice (some ⟨w.heap.size, 0, none⟩) n n) ∧ OwnI w' w.heap.size 3 (some ⟨w.heap.size, 0, none⟩) n (List.replicate n v) ∧ Below w.heap.size w w' := by
  have cM := mul_one_ n (by omega) w
  obtain ⟨i0, hi0, hz0, hz1, hz2⟩ := info_parts infoInt
  have hmk := fun W => run_makeAll (P := Try.prog) 25 3 i0 Try.underlying25 hi0 hz0 hz1 hz2 n (by omega) W
  have wn : IntKind.u64.wrap (n : Int) = (n : Int) := Mul64.wrapN n (by omega)
  have wn2 : IntKind.i64.wrap (n : Int) = (n : Int) := wrap_natM n (by omega)
  have w1 : IntKind.u64.wrap (1 : Int) = 1 := by decide
  have n0 : (0 : Int) ≤ (n : Int) := by omega
  have dn : decide ((n : Int) < 0) = false := decide_eq_false (by omega)
  have dn2 : decide ((9223372036854775807 : Int) < (n : Int)) = false := decide_eq_false (by omega)
  have hb0 := (Below.refl w.heap.size w).alloc (Nat.le_refl _) (.cells (madeCells #[.int .i64 0] n) 3)
  have HB0 := Lib.hid hb0
  have HC : Hid (∀ j u, [Value.int .i64 v][j]? = some u → (w.alloc (.cells (madeCells #[.int .i64 0] n) 3)).cell? ((⟨b, off, none⟩ : Addr).add j) = some u) := by
    unfold Hid
    have := (h.below (hb0.mono hB)).cells_
    simpa using this
  have HG0 : Hid ((w.alloc (.cells (madeCells #[.int .i64 0] n) 3)).heap[w.heap.size]? = some (.cells (List.replicate n (Value.int .i64 0)).toArray 3 (0, 0))) := by
    unfold Hid
    rw [← made_repl]
    exact heap_alloc_new w _
  have HV : Hid (-9223372036854775808 ≤ v ∧ v ≤ 9223372036854775807) := by
    obtain ⟨_, _, x, _, _, hX, _, y1, y2⟩ := h.at_ (k := 0) (by omega)
    have e : v = x := by have := hX.out; simpa using this
    rw [e]; exact ⟨y1, y2⟩
  have HN1 : Hid ([Value.int .i64 v].length = Nat.min 1 n) := by
    unfold Hid
    show 1 = min 1 n
    omega
  clear h hb0
  go_enter Try.func30, Try.ntmps30
  go_wp2_with (first | (go_at_call 45; refine cM.mono ?_; rintro e w' ⟨rfl, hw⟩; rw [hw]) | (refine wpList_copy_splice rfl (.tmp 31) (.tmp 32) 25 25 rfl 3 Try.underlying25 info_size (some ⟨w.heap.size, 0, none⟩) (some ⟨b, off, none⟩) n n 1 c1 rfl rfl w.heap.size 0 (List.replicate n (.int .i64 0)) 3 HG0.out [.int .i64 v] HN1.out (fun _ => ⟨rfl, _, rfl, HC.out⟩) (by simp; omega) (repl_ones v 1) w.heap.size w HB0.out (Nat.le_refl _) ?_; intro w2 hG2 hB2))
  go_loopw [8] (fun u wr => ∃ (k : Nat) (cur : List Value), u = .int .i64 (k : Int) ∧ 1 ≤ k ∧ k ≤ n ∧ Hid (wr.heap[w.heap.size]? = some (.cells cur.toArray 3 (0, 0))) ∧ Hid (cur.length = n) ∧ Hid (cur.take k = List.replicate k (.int .i64 v)) ∧ Hid (Below w.heap.size w wr)) (fun u _ => n - (intOf u).toNat)
  case atStart =>
    obtain ⟨s1, s2⟩ := splice_repl (cur := List.replicate n (Value.int .i64 0)) (k := 0) (m := 1) (n := n) (x := .int .i64 v) (by simp) (by simp) (by omega)
    exact ⟨1, _, rfl, Nat.le_refl _, hn0, hG2, s1, s2, hB2⟩
  case round =>
    obtain ⟨k, cur, rfl, hk1, hkn, HG, HL, HT, HB⟩ := hrel
    by_cases hlt : k < n
    · obtain ⟨m, hm⟩ : ∃ m, Nat.min k (n - k) = m := ⟨_, rfl⟩
      have hmk2 : m ≤ k ∧ k + m ≤ n ∧ 0 < m := by
        have h1 := Nat.min_le_left k (n - k)
        have h2 := Nat.min_le_right k (n - k)
        have h3 : 0 < min k (n - k) := Nat.lt_min.2 ⟨by omega, by omega⟩
        simp only [Nat.min_def] at h1 h2 h3 hm ⊢
        have hm' : (if k ≤ n - k then k else n - k) = m := by simpa [Nat.min_def] using hm
        split at hm' <;> omega
      have hd := fun W : World => run_dropI (w := W) w.heap.size n k hlt
      have ht := fun W : World => run_take (w := W) (some ⟨w.heap.size, 0, none⟩) n n k (by omega) (Nat.le_refl _)
      obtain ⟨s1, s2⟩ := splice_repl HL.out HT.out hmk2.2.1
      have HS1 := Lib.hid s1
      have HS2 := Lib.hid s2
      have HM : Hid ((List.replicate m (Value.int .i64 v)).length = Nat.min k (n - k)) := by unfold Hid; rw [List.length_replicate, hm]
      have wk : IntKind.i64.wrap ((k : Int) + (m : Int)) = (k : Int) + (m : Int) := by have := wrap_natM (k + m) (by omega); simpa using this
      have k0 : (0 : Int) ≤ (k : Int) := by omega
      have HGd : Hid (wr.drew.heap[w.heap.size]? = some (.cells cur.toArray 3 (0, 0))) := HG.out
      have HCd : Hid (∀ j u, (List.replicate m (Value.int .i64 v))[j]? = some u → wr.drew.cell? ((⟨w.heap.size, 0, none⟩ : Addr).add j) = some u) := repl_cell HGd.out HT.out hmk2.1
      have HBd : Hid (Below w.heap.size w wr.drew) := HB.out.drew
      have HFd : Hid (k + (List.replicate m (Value.int .i64 v)).length ≤ cur.length) := by unfold Hid; rw [List.length_replicate, HL.out]; omega
      have HOd : Hid (∀ u ∈ List.replicate m (Value.int .i64 v), u.oneCell' = true) := repl_ones v m
      clear s1 s2 hm
      go_wp2_with fail
      go_region_law (refine step_copy_splice rfl (.tmp 41) (.tmp 44) 25 25 rfl 3 Try.underlying25 info_size (some ⟨w.heap.size, k, none⟩) (some ⟨w.heap.size, 0, none⟩) (n - k) (n - k) k n (by simp [Act.eval, Act.put]) (by simp [Act.eval, Act.put]) w.heap.size k cur 3 HGd.out (List.replicate m (.int .i64 v)) HM.out (fun _ => ⟨rfl, _, rfl, HCd.out⟩) HFd.out HOd.out w.heap.size w HBd.out (Nat.le_refl _) ?_; intro w3 hG3 hB3)
      all_goals
        simp [Act.put]
        go_wp2_with fail
        go_roundw
        case rel => exact ⟨k + m, _, by go_num, by omega, hmk2.2.1, hG3, HS1.out, HS2.out, hB3⟩
        case measure => simp [intOf]; omega
    · have hkn2 : k = n := by omega
      subst hkn2
      go_wp2_with fail
      go_ret
      exact ⟨rfl, own_repl HG.out HL.out HT.out (Nat.le_refl _) (by omega) HV.out, HB.out⟩
end Go.Proofs.Ytnaehnlpcjaaeaa
/- Stops: how they read; slices of the call's own of them, and one more behind them. -/
namespace Go.Proofs.Ytnaehnlpcjaaeaa
open Go.RowKit

/-- a stop: its number, its places' header, the places -/
structure St where
  at_ : Int
  A : Option Addr
  n : Nat
  c : Nat
  ins : List Int
def cellsS : List St → List Value
  | [] => []
  | x :: ss => .int .i64 x.at_ :: .slice x.A x.n x.c :: cellsS ss
theorem cellsS_length (ss : List St) : (cellsS ss).length = 2 * ss.length := by
  induction ss with
  | nil => rfl
  | cons x ss ih => simp only [cellsS, List.length_cons, ih]; omega
theorem cellsS_append (a b : List St) : cellsS (a ++ b) = cellsS a ++ cellsS b := by
  induction a with
  | nil => rfl
  | cons x a ih => simp only [List.cons_append, cellsS, ih]
theorem cellsS_one (ss : List St) : ∀ u ∈ cellsS ss, u.oneCell' = true := by
  induction ss with
  | nil => intro u hu; cases hu
  | cons x ss ih =>
    intro u hu
    simp only [cellsS, List.mem_cons] at hu
    rcases hu with rfl | rfl | hu
    · rfl
    · rfl
    · exact ih u hu
theorem cellsS_at {ss : List St} {k : Nat} {x : St} (h : ss[k]? = some x) : (cellsS ss)[2 * k]? = some (.int .i64 x.at_) ∧ (cellsS ss)[2 * k + 1]? = some (.slice x.A x.n x.c) := by
  induction ss generalizing k with
  | nil => simp at h
  | cons y ss ih =>
    cases k with
    | zero => simp at h; subst h; exact ⟨rfl, rfl⟩
    | succ k =>
      have := ih (k := k) (by simpa using h)
      exact ⟨by rw [← this.1]; rfl, by rw [← this.2]; rfl⟩
/-- the header (A, n) leads to the stops ss, in blocks below B -/
def Stops (w : World) (B : Nat) (A : Option Addr) (n : Nat) (ss : List St) : Prop :=
  ss.length = n ∧ (∀ x ∈ ss, Ints w B x.A x.n x.ins ∧ x.n ≤ x.c ∧ -9223372036854775808 ≤ x.at_ ∧ x.at_ ≤ 9223372036854775807) ∧
  (0 < n → ∃ b off, A = some ⟨b, off, none⟩ ∧ b < B ∧ ∀ (k : Nat) (x : St), ss[k]? = some x → w.cell? ⟨b, off + k * 2, none⟩ = some (.int .i64 x.at_) ∧ w.cell? ⟨b, off + k * 2 + 1, none⟩ = some (.slice x.A x.n x.c))
section
variable {w w' : World} {B B' n : Nat} {A : Option Addr} {ss : List St}
theorem Stops.nil_ : Stops w B A 0 [] := ⟨rfl, by simp, fun h => absurd h (by omega)⟩
theorem Stops.keep (h : Stops w B A n ss) (hk : ∀ p : Addr, p.block < B → w'.cell? p = w.cell? p) : Stops w' B A n ss := by
  obtain ⟨hl, hb, hc⟩ := h
  refine ⟨hl, fun x hx => ⟨(hb x hx).1.keep hk, (hb x hx).2⟩, fun hn => ?_⟩
  obtain ⟨b, off, e, hB, hx⟩ := hc hn
  exact ⟨b, off, e, hB, fun k x hx' => ⟨(hk _ hB).trans (hx k x hx').1, (hk _ hB).trans (hx k x hx').2⟩⟩
theorem Stops.more (h : Stops w B A n ss) (hB : B ≤ B') : Stops w B' A n ss := by
  obtain ⟨hl, hb, hc⟩ := h
  refine ⟨hl, fun x hx => ⟨(hb x hx).1.more hB, (hb x hx).2⟩, fun hn => ?_⟩
  obtain ⟨b, off, e, hB', hx⟩ := hc hn
  exact ⟨b, off, e, by omega, hx⟩
theorem Stops.below (h : Stops w B A n ss) (hb : Below B w w') : Stops w' B A n ss := h.keep fun _ hp => hb.cell hp
theorem Stops.at_ {k : Nat} (h : Stops w B A n ss) (hk : k < n) :
    ∃ b off x, A = some ⟨b, off, none⟩ ∧ b < B ∧ Hid (ss[k]? = some x) ∧ w.cell? ⟨b, off + k * 2, none⟩ = some (.int .i64 x.at_) ∧ w.cell? ⟨b, off + k * 2 + 1, none⟩ = some (.slice x.A x.n x.c) ∧ Ints w B x.A x.n x.ins ∧ x.n ≤ x.c ∧ -9223372036854775808 ≤ x.at_ ∧ x.at_ ≤ 9223372036854775807 := by
  obtain ⟨hl, hb, hc⟩ := h
  obtain ⟨b, off, rfl, hB, hx⟩ := hc (by omega)
  have hk' : k < ss.length := by omega
  have hm := hb _ (List.getElem_mem hk')
  have hx' := hx k _ (List.getElem?_eq_getElem hk')
  exact ⟨b, off, ss[k], rfl, hB, List.getElem?_eq_getElem hk', hx'.1, hx'.2, hm.1, hm.2.1, hm.2.2.1, hm.2.2.2⟩
end
set_option maxRecDepth 100000 in
theorem infoStop : (Try.prog.info? 36).map (fun i => (i.zero, i.size, i.bytes)) = some (some (.agg #[.int .i64 0, .slice none 0 0]), 2, 32) := by kernel_rfl
/-- a slice of the call's own, of stops -/
def OwnS (w : World) (base : Nat) (A : Option Addr) (c : Nat) (ss : List St) : Prop := w.ownsRow base 36 2 (.slice A ss.length c) ss.length (cellsS ss)
section
variable {w w' : World} {base B c : Nat} {A : Option Addr} {ss : List St}
theorem OwnS.nil_ (w : World) (base : Nat) : OwnS w base none 0 [] := w.ownsRow_nil base _ 2
theorem OwnS.below (h : OwnS w base A c ss) (hb : Below B w w') (hB : w.heap.size ≤ B) : OwnS w' base A c ss :=
  World.ownsRow.kept h ⟨hb.os, hb.tape, hb.output, hb.size, fun i hi _ => hb.block i (by omega)⟩ (row := none) (by cases hh : (Value.slice A ss.length c).ownBlock with | none => exact .inl rfl | some k => exact .inr (by simp))
theorem OwnS.alloc (h : OwnS w base A c ss) (o : Obj) : OwnS (w.alloc o) base A c ss := World.ownsRow.alloc h o
theorem OwnS.lt {g : Nat} (h : OwnS w base (some ⟨g, 0, none⟩) c ss) : base ≤ g ∧ g < w.heap.size := World.ownsRow.lt h g rfl
theorem OwnS.heap (h : OwnS w base A c ss) : A = none ∨ ∃ g cur, A = some ⟨g, 0, none⟩ ∧ base ≤ g ∧ w.heap[g]? = some (.cells cur 36 (0, 0)) := by
  rcases h.2 with ⟨h1, _⟩ | ⟨g, cap, cur, h1, h2, h3, _⟩
  · injection h1 with h1; exact .inl h1
  · injection h1 with h1; exact .inr ⟨g, cur, h1, h2, h3⟩
theorem OwnS.same (h : OwnS w base A c ss) (hq : ∀ b, A = some ⟨b, 0, none⟩ → w'.heap[b]? = w.heap[b]?) : OwnS w' base A c ss := by
  refine ⟨h.1, ?_⟩
  rcases h.2 with h1 | ⟨b, cap, cur, h1, h2, h3, h4⟩
  · exact .inl h1
  · refine .inr ⟨b, cap, cur, h1, h2, ?_, h4⟩
    injection h1 with h1
    rw [hq b h1]; exact h3
/-- numbers' slices and stops' slices share no block -/
theorem OwnS.apart {base' c' : Nat} {A' : Option Addr} {xs : List Int} (h : OwnS w base A c ss) (h2 : OwnI w base' 3 A' c' xs) : ∀ g, A' = some ⟨g, 0, none⟩ → A ≠ some ⟨g, 0, none⟩ := by
  intro g e e2
  rcases h.heap with h1 | ⟨g1, cur, h1, _, h3⟩
  · rw [h1] at e2; cases e2
  · rw [h1] at e2
    injection e2 with e2; injection e2 with e2
    subst e2
    rcases h2.1.2 with ⟨h4, _⟩ | ⟨g2, cap, cur2, h4, _, h5, _⟩
    · injection h4 with h4; rw [h4] at e; cases e
    · injection h4 with h4
      rw [h4] at e
      injection e with e; injection e with e
      subst e
      rw [h3] at h5
      injection h5 with h5; injection h5 with _ h5
      exact absurd h5 (by decide)
theorem OwnS.rows (h : OwnS w base A c ss) : ∀ (k : Nat) (x : St), ss[k]? = some x → ∃ g, A = some ⟨g, 0, none⟩ ∧ base ≤ g ∧ g < w.heap.size ∧ w.cell? ⟨g, 2 * k, none⟩ = some (.int .i64 x.at_) ∧ w.cell? ⟨g, 2 * k + 1, none⟩ = some (.slice x.A x.n x.c) := by
  intro k x hx
  have hk := (List.getElem?_eq_some_iff.1 hx).1
  rcases h.2 with ⟨_, h1⟩ | ⟨g, cap, cur, hv, hb, hg, _, _, _, hr⟩
  · omega
  · have hA : A = some ⟨g, 0, none⟩ := by injection hv
    obtain ⟨c1, c2⟩ := cellsS_at hx
    have hl := cellsS_length ss
    refine ⟨g, hA, hb, (Array.getElem?_eq_some_iff.1 hg).1, (cell_of_row _ _ _ _ _ _ hg).trans ?_, (cell_of_row _ _ _ _ _ _ hg).trans ?_⟩
    · rw [← hr, List.getElem?_take] at c1
      split at c1
      · simpa using c1
      · cases c1
    · rw [← hr, List.getElem?_take] at c2
      split at c2
      · simpa using c2
      · cases c2
/-- stops of the call's own, and their places too, read as stops -/
theorem OwnS.stops (h : OwnS w base A c ss) (hx : ∀ x ∈ ss, Ints w w.heap.size x.A x.n x.ins ∧ x.n ≤ x.c ∧ -9223372036854775808 ≤ x.at_ ∧ x.at_ ≤ 9223372036854775807) : Stops w w.heap.size A ss.length ss := by
  refine ⟨rfl, hx, fun h0 => ?_⟩
  obtain ⟨g, e, _, hlt, _⟩ := h.rows 0 _ (List.getElem?_eq_getElem h0)
  refine ⟨g, 0, e, hlt, fun k x hk => ?_⟩
  obtain ⟨g', e', _, _, a1, a2⟩ := h.rows k x hk
  rw [e] at e'
  injection e' with e'; injection e' with e'
  subst e'
  rw [Nat.zero_add, Nat.mul_comm k 2]
  exact ⟨a1, a2⟩
theorem OwnS.lenCap (h : OwnS w base A c ss) : ss.length ≤ c := by
  rcases h.2 with ⟨h1, h2⟩ | ⟨g, cap, cur, h1, _, _, h5, _⟩
  · omega
  · injection h1 with _ _ h1; omega
end
/-- one stop more, and what was written -/
theorem wpList_appendStop {ops : Array Oper} {rest : List Oper} {o : Oper} {a : Act} {w : World} {Q : Exit → Act → World → Prop}
    (hg : o.guard = none) (s x : Operand) (hop : o.op = Op.call { callee := Callee.builtin Builtin.append, args := #[s, x], argTypes := #[30, 30] })
    (base : Nat) (A : Option Addr) (c p r : Nat) (y : St) (L : List St) (hs : a.eval s = .slice A p c) (hx : a.eval x = .slice (some ⟨w.heap.size, 0, none⟩) 1 1)
    (ho : OwnS w base A c L) (hp : L.length = p) (hr : p + 1 = r) (hl : r ≤ 1000000) (hb : base ≤ w.heap.size)
    (hK : ∀ A' c' w', OwnS w' base A' c' (L ++ [y]) → w.grownBy w' (Value.slice A p c).ownBlock → wpList Try.prog ops Q rest (a.put o.dst (.slice A' r c')) w') :
    wpList Try.prog ops Q (o :: rest) a (w.alloc (.cells #[.int .i64 y.at_, .slice y.A y.n y.c] 36)) := by
  obtain ⟨i, hi, hz, h1, h2⟩ := info_parts infoStop
  subst hp
  subst hr
  refine wpList_append_own _ hg s x 30 hop base 36 i (.agg #[.int .i64 0, .slice none 0 0]) 2 32 Try.underlying30 hi hz h1 h2 (by rfl) (by decide) _ L.length (cellsS L) hs (World.ownsRow.alloc ho _) ⟨w.heap.size, 0, none⟩ 1 1 [.int .i64 y.at_, .slice y.A y.n y.c] hx rfl ?_ (by simp [Value.oneCell']) (by unfold maxLen; omega) (by omega) (by simp; omega) ?_
  · intro j u hj
    match j, hj with
    | 0, hj => simp at hj; subst hj; simp [Addr.add]
    | 1, hj => simp at hj; subst hj; simp [Addr.add]
    | j + 2, hj => simp at hj
  · intro v' w' hown hgr _
    obtain ⟨A', c', rfl⟩ : ∃ A' c', v' = .slice A' (L.length + 1) c' := by
      rcases hown.2 with ⟨rfl, h0⟩ | ⟨g, cap, cur, rfl, _⟩
      · omega
      · exact ⟨_, _, rfl⟩
    refine hK A' c' w' ?_ ((World.grownBy_alloc w _ _).trans hgr)
    unfold OwnS
    rw [List.length_append, cellsS_append]
    exact hown
/-- numbers' slices stay as they were -/
theorem OwnI.keptS {w w' : World} {base base' c c' p : Nat} {A A' : Option Addr} {xs : List Int} {L : List St} (h : OwnI w base 3 A c xs) (hS : OwnS w base' A' c' L) (hg : w.grownBy w' (Value.slice A' p c').ownBlock) : OwnI w' base 3 A c xs := by
  refine h.same_ fun b hb => hg.block b ((show OwnI w base 3 (some ⟨b, 0, none⟩) c xs from hb ▸ h).ltL).2 ?_
  have hne := hS.apart h b hb
  rcases hS.heap with h1 | ⟨g, cur, h1, _⟩
  · rw [h1]; intro e; cases e
  · rw [h1] at hne ⊢
    intro e
    simp only [Value.ownBlock, Option.some.injEq] at e
    exact hne (by rw [e])
theorem block_keptS {w w' : World} {base' c' g p : Nat} {A' : Option Addr} {L : List St} {cs : Array Value} {t : TypeId} {fr : Nat × Nat} (h : w.heap[g]? = some (.cells cs t fr)) (ht : t ≠ 36) (hS : OwnS w base' A' c' L) (hg : w.grownBy w' (Value.slice A' p c').ownBlock) : w'.heap[g]? = some (.cells cs t fr) := by
  refine (hg.block g (Array.getElem?_eq_some_iff.1 h).1 ?_).trans h
  rcases hS.heap with h1 | ⟨g', cur, h1, _, hh⟩
  · rw [h1]; simp [Value.ownBlock]
  · rw [h1]
    intro e
    have : g' = g := by simpa [Value.ownBlock] using e.symm
    subst this
    rw [hh] at h
    injection h with h
    injection h with _ h
    exact ht h.symm
theorem below_appS {w1 W w3 : World} {base p c : Nat} {A : Option Addr} {xs : List St} (hb : Below base w1 W) (hg : W.grownBy w3 (Value.slice A p c).ownBlock) (ho : OwnS W base A c xs) (hs : base ≤ W.heap.size) : Below base w1 w3 :=
  hb.grown hg hs fun k hk => by
    rcases ho.heap with h1 | ⟨g', cur, h1, h2, _⟩
    · rw [h1] at hk; cases hk
    · rw [h1] at hk
      simp only [Value.ownBlock, Option.some.injEq] at hk
      omega
end Go.Proofs.Ytnaehnlpcjaaeaa
/- merge.Walk: its mathematics: at which places lists have a number. -/
namespace Go.Proofs.Ytnaehnlpcjaaeaa
open Go.RowKit

/-- the place of a number in a list; -1: it has it not -/
def placeI (L : List Int) (v : Int) : Int := if v ∈ L then ((L.idxOf v : Nat) : Int) else -1
theorem idx_rise {L : List Int} (hR : L.Pairwise (· < ·)) {i : Nat} {v : Int} (h : L[i]? = some v) : L.idxOf v = i := by
  obtain ⟨hi, e⟩ := List.getElem?_eq_some_iff.1 h
  have hm : v ∈ L := e ▸ List.getElem_mem hi
  have hlt := List.idxOf_lt_length_of_mem hm
  have he : L[L.idxOf v] = v := List.getElem_idxOf hlt
  rw [List.pairwise_iff_getElem] at hR
  rcases Nat.lt_trichotomy (L.idxOf v) i with h1 | h1 | h1
  · have := hR _ _ hlt hi h1; omega
  · exact h1
  · have := hR _ _ hi hlt h1; omega
theorem placeI_of {L : List Int} (hR : L.Pairwise (· < ·)) {i : Nat} {v : Int} (h : L[i]? = some v) : placeI L v = (i : Int) := by
  unfold placeI
  rw [if_pos (List.mem_of_getElem? h), idx_rise hR h]
theorem placeI_none {L : List Int} {v : Int} (h : v ∉ L) : placeI L v = -1 := if_neg h
/-- the places of those lists that have gone on so far -/
def insAt (nx : List Int) (ln : Nat) (hs : List Int) : List Int := (List.range ln).map fun i : Nat => if (i : Int) ∈ hs then nxN nx i else -1
theorem insAt_nil (nx : List Int) (ln : Nat) : insAt nx ln [] = List.replicate ln (-1) := by
  unfold insAt
  refine List.ext_getElem (by simp) fun k h1 h2 => ?_
  simp
theorem insAt_length (nx : List Int) (ln : Nat) (hs : List Int) : (insAt nx ln hs).length = ln := by simp [insAt]
theorem insAt_next (nx : List Int) (ln : Nat) (hs : List Int) (n : Nat) : insAt nx ln (hs ++ [(n : Int)]) = (insAt nx ln hs).set n (nxN nx n) := by
  refine List.ext_getElem (by simp [insAt]) fun k h1 h2 => ?_
  rw [List.getElem_set]
  simp only [insAt, List.getElem_map, List.getElem_range, List.mem_append, List.mem_singleton]
  by_cases e : n = k
  · subst e; simp
  · rw [if_neg e]
    have e2 : ¬ (k : Int) = (n : Int) := by omega
    simp [e2]
section
variable {LL : List (List Int)} {nx nx' : List Int} {ln : Nat} {at_ : Int} {hs u : List Int}
theorem PassS.ins (h : PassS LL nx ln at_ hs nx') (hI : MergeI LL nx ln u) (hR : AllRise LL) (hll : LL.length = ln) (hz : ∀ k, k < ln → 0 ≤ nxN nx k) : insAt nx ln hs = LL.map fun L => placeI L at_ := by
  refine List.ext_getElem (by simp [insAt, hll]) fun k h1 h2 => ?_
  have hk : k < ln := by simpa [insAt] using h1
  have hkl : k < LL.length := by omega
  have hg : LL.getD k [] = LL[k] := by simp [List.getD, List.getElem?_eq_getElem hkl]
  simp only [insAt, List.getElem_map, List.getElem_range]
  have hR' := hR _ (List.getElem_mem hkl)
  by_cases hh : (k : Int) ∈ hs
  · rw [if_pos hh]
    obtain ⟨k', e, _, hl, ha⟩ := (h.whole _).1 hh
    obtain rfl : k = k' := by omega
    rw [headF_nat, hg] at ha
    rw [live_iff, hg] at hl
    rw [placeI_of hR' (i := (nxN nx k).toNat) (by rw [List.getElem?_eq_getElem hl]; rw [← ha]; simp [List.getD, List.getElem?_eq_getElem hl])]
    have := hz k hk
    omega
  · rw [if_neg hh]
    have := fun hm => hh ((hI.has h hR hll hk).1 hm)
    rw [hg] at this
    exact (placeI_none this).symm
theorem PassS.nx_lt (h : PassS LL nx ln at_ hs nx') {m : Int} (hm : m ∈ hs) : ∃ k : Nat, m = (k : Int) ∧ k < ln ∧ nxN nx' k = nxN nx k + 1 := by
  obtain ⟨k, e, hk, _, _⟩ := (h.whole m).1 hm
  subst e
  exact ⟨k, rfl, hk, by rw [h.step.nx k hk, if_pos hm]⟩
end
end Go.Proofs.Ytnaehnlpcjaaeaa
