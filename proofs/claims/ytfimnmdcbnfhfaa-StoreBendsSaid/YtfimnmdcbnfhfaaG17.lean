/- Whether a form is one of a shape, as the document tells it: the same. Plain mathematics. -/
import Derived.Test.YtfimnmdcbnfhfaaG16
import Derived.Test.YtfimnmdcbnfhfaaG11
import Derived.BigQuiet
import Derived.Deep.QuietTactic
import Derived.Test.YtfimnmdcbnfhfaaRows
import Derived.Test.YtfimnmdcbnfhfaaG1
import Derived.WalkKit
import Derived.ProofKit
import Derived.OpenShut
import Derived.ChangeOld
import Derived.Below
import Derived.Lib.SmallJoins
import Derived.Test.YtfimnmdcbnfhfaaG8
import Derived.Deep.Slices
import Derived.Deep.Fields
import Derived.Test.YtfimnmdcbnfhfaaG5
namespace Go.Proofs.Ytfimnmdcbnfhfaa
open Go.RowKit

/-- how many plain levels, how many blocks a mode has -/
def plN (fs : List Sp) (m : Int) : Nat := fs.countP fun s => !(s.k == 4) && s.m == m
def blN (fs : List Sp) (m : Int) : Nat := fs.countP fun s => s.k == 4 && s.m == m
def prevL (fs : List Sp) : Prop := ∃ y, fs.getLast? = some y ∧ (y.k = 2 ∨ y.k = 3)
def IsStep (xs : List Int) (pre : List Sp) (x : Sp) : Prop :=
  0 ≤ x.m ∧ x.m < xs.length ∧ 0 ≤ x.k ∧ x.k ≤ 4 ∧ (prevL pre ↔ x.k = 3) ∧ (x.k = 4 → plN pre x.m ≠ 0 ∧ 1 ≤ x.s ∧ Int.tmod (xs.getD x.m.toNat 0) x.s = 0) ∧ (x.k ≠ 4 → x.s = 0)
def IsP (xs : List Int) (fs : List Sp) : Prop := fs.length ≤ 2 * xs.length ∧ (∀ i x, fs[i]? = some x → IsStep xs (fs.take i) x) ∧ ∀ m : Nat, m < xs.length → plN fs m = 1 ∧ blN fs m ≤ 1
theorem cntS_split (fs : List Sp) (m : Int) : cntS fs m = plN fs m + blN fs m := by
  unfold cntS plN blN
  induction fs with
  | nil => rfl
  | cons x fs ih =>
    simp only [List.countP_cons]
    by_cases h4 : x.k = 4 <;> by_cases hm : x.m = m <;> simp [h4, hm] at ih ⊢ <;> omega
theorem plN_snoc (fs : List Sp) (x : Sp) (m : Int) : plN (fs ++ [x]) m = plN fs m + if x.k ≠ 4 ∧ x.m = m then 1 else 0 := by
  unfold plN
  rw [List.countP_append]
  by_cases h : x.k = 4 <;> by_cases hm : x.m = m <;> simp [h, hm]
theorem blN_snoc (fs : List Sp) (x : Sp) (m : Int) : blN (fs ++ [x]) m = blN fs m + if x.k = 4 ∧ x.m = m then 1 else 0 := by
  unfold blN
  rw [List.countP_append]
  by_cases h : x.k = 4 <;> by_cases hm : x.m = m <;> simp [h, hm]
theorem countP_take_le {α : Type} (p : α → Bool) (l : List α) (i : Nat) : (l.take i).countP p ≤ l.countP p := by
  have e := List.countP_append (p := p) (l₁ := l.take i) (l₂ := l.drop i)
  rw [List.take_append_drop] at e
  omega
theorem countP_take_mono {α : Type} (p : α → Bool) (l : List α) {i j : Nat} (h : i ≤ j) : (l.take i).countP p ≤ (l.take j).countP p := by
  have := countP_take_le p (l.take j) i
  rwa [List.take_take, Nat.min_eq_left h] at this
theorem plN_pos {fs : List Sp} {m : Int} {i : Nat} {x : Sp} (h : fs[i]? = some x) (h4 : x.k ≠ 4) (hm : x.m = m) : 1 ≤ plN fs m := by
  unfold plN
  exact List.countP_pos_iff.2 ⟨x, List.mem_of_getElem? h, by simp [h4, hm]⟩
theorem goesB_iff {fs : List Sp} {k : Int} : goesB fs k = true ↔ (0 ≤ k ∧ k ≤ 4) ∧ (prevL fs ↔ k = 3) := by
  unfold goesB prevL
  cases hl : fs.getLast? with
  | none => simp; omega
  | some y =>
    simp only [Option.some.injEq, exists_eq_left']
    by_cases hy : y.k = 2 ∨ y.k = 3
    · rw [if_pos hy]; simp [hy]; omega
    · rw [if_neg hy]; simp [hy]; omega
theorem len_le {n : Nat} {fs : List Sp} (h1 : ∀ x ∈ fs, 0 ≤ x.m ∧ x.m < n) (h2 : ∀ m : Nat, m < n → cntS fs m ≤ 2) : fs.length ≤ 2 * n := by
  induction n generalizing fs with
  | zero =>
    cases fs with
    | nil => simp
    | cons x fs => have := h1 x (by simp); omega
  | succ n ih =>
    have hsp : fs.length = (fs.filter fun x => !(x.m == (n : Int))).length + cntS fs n := by
      unfold cntS
      rw [List.countP_eq_length_filter]
      clear h1 h2 ih
      induction fs with
      | nil => rfl
      | cons x fs ih =>
        by_cases hx : x.m = n
        · simp [hx] at ih ⊢; omega
        · simp [hx] at ih ⊢; omega
    have := ih (fs := fs.filter fun x => !(x.m == (n : Int))) (fun x hx => by
      rw [List.mem_filter] at hx
      have h := h1 x hx.1
      have h3 : x.m ≠ n := by simpa using hx.2
      omega) (fun m hm => by
      refine Nat.le_trans ?_ (h2 m (by omega))
      unfold cntS
      exact List.Sublist.countP_le List.filter_sublist)
    have := h2 n (by omega)
    omega
theorem isP_iff {xs : List Int} {fs : List Sp} : IsP xs fs ↔ formOK xs fs := by
  constructor
  · rintro ⟨_, h2, h3⟩
    refine ⟨fun i x hx => ?_, fun m hm => ?_⟩
    · obtain ⟨m0, m1, k0, k1, hp, hb, hs⟩ := h2 i x hx
      obtain ⟨m, hm⟩ : ∃ m : Nat, x.m = (m : Int) := ⟨x.m.toNat, by omega⟩
      have hml : m < xs.length := by omega
      obtain ⟨q1, q2⟩ := h3 m hml
      have ht := take_succ_of hx
      have p1 : plN (fs.take (i + 1)) m ≤ 1 := by rw [← q1]; exact countP_take_le _ _ _
      have p2 : blN (fs.take (i + 1)) m ≤ 1 := Nat.le_trans (countP_take_le _ _ _) q2
      rw [ht, plN_snoc] at p1
      rw [ht, blN_snoc] at p2
      refine ⟨m0, m1, goesB_iff.2 ⟨⟨k0, k1⟩, hp⟩, ?_⟩
      rw [hm] at hb ⊢
      rw [cntS_split]
      by_cases h4 : x.k = 4
      · obtain ⟨b1, b2, b3⟩ := hb h4
        rw [if_pos ⟨h4, hm⟩] at p2
        rw [if_neg (fun h => h.1 h4)] at p1
        exact .inr ⟨by omega, h4, b2, b3⟩
      · rw [if_pos ⟨h4, hm⟩] at p1
        have hbl : blN (fs.take i) m = 0 := by
          unfold blN
          rw [List.countP_eq_zero]
          intro y hy he
          obtain ⟨j, hj, hyj⟩ := mem_take_at hy
          simp at he
          have h5 := (h2 j y hyj).2.2.2.2.2.1 he.1
          rw [he.2] at h5
          have h6 : plN (fs.take j) m ≤ plN (fs.take i) m := countP_take_mono _ _ (by omega)
          omega
        exact .inl ⟨by omega, h4, hs h4⟩
    · have := (h3 m hm).1
      rw [cntS_split]
      omega
  · intro hf
    have hone : ∀ m : Nat, m < xs.length → plN fs m = 1 ∧ blN fs m ≤ 1 := by
      intro m hm
      have hc := hf.2 m hm
      refine ⟨?_, ?_⟩
      · have h1 : 1 ≤ plN fs m := by
          obtain ⟨i, x, hx, hxm⟩ := cntS_find (fs := fs) (m := m) (by omega)
          by_cases h4 : x.k = 4
          · obtain ⟨j, y, _, _, hy, hym, hy4, _⟩ := block_first hf hx h4
            exact plN_pos hy hy4 (by rw [hym, hxm])
          · exact plN_pos hx h4 hxm
        have h2 : plN fs m ≤ 1 := by
          apply Nat.le_of_not_lt
          intro h
          have key : ∀ k, k ≤ fs.length → plN (fs.take k) m ≤ 1 := by
            intro k
            induction k with
            | zero => intro _; simp [plN]
            | succ k ih =>
              intro hk
              obtain ⟨x, hx⟩ : ∃ x, fs[k]? = some x := ⟨_, List.getElem?_eq_getElem (by omega)⟩
              rw [take_succ_of hx, plN_snoc]
              split
              · next hh =>
                have hz : plN (fs.take k) m = 0 := by
                  unfold plN
                  rw [List.countP_eq_zero]
                  intro y hy he
                  obtain ⟨j, hj, hyj⟩ := mem_take_at hy
                  simp at he
                  exact plain_first hf hx hh.1 j y hj hyj (by rw [he.2, hh.2])
                omega
              · exact ih (by omega)
          have := key fs.length (Nat.le_refl _)
          rw [List.take_length] at this
          omega
        omega
      · have key : ∀ k, k ≤ fs.length → blN (fs.take k) m ≤ 1 := by
          intro k
          induction k with
          | zero => intro _; simp [blN]
          | succ k ih =>
            intro hk
            obtain ⟨x, hx⟩ : ∃ x, fs[k]? = some x := ⟨_, List.getElem?_eq_getElem (by omega)⟩
            rw [take_succ_of hx, blN_snoc]
            split
            · next hh =>
              obtain ⟨j, y, _, hjk, hy, hym, hy4, hu⟩ := block_first hf hx hh.1
              have hz : blN (fs.take k) m = 0 := by
                unfold blN
                rw [List.countP_eq_zero]
                intro z hz he
                obtain ⟨q, hq, hzq⟩ := mem_take_at hz
                simp at he
                obtain rfl := hu q z hq hzq (by rw [he.2, hh.2])
                rw [hy] at hzq; cases hzq
                exact hy4 he.1
              omega
            · exact ih (by omega)
        have := key fs.length (Nat.le_refl _)
        rwa [List.take_length] at this
    refine ⟨?_, fun i x hx => ?_, hone⟩
    · refine len_le (n := xs.length) (fun x hx => ?_) (fun m hm => ?_)
      · obtain ⟨i, hi⟩ := List.mem_iff_getElem?.1 hx
        have := hf.1 i x hi
        exact ⟨this.1, this.2.1⟩
      · have := hone m hm
        rw [cntS_split]
        omega
    · have hs := hf.1 i x hx
      have hg := goesB_iff.1 hs.2.2.1
      refine ⟨hs.1, hs.2.1, hg.1.1, hg.1.2, hg.2, fun h4 => ?_, fun h4 => ?_⟩
      · obtain ⟨j, y, _, hji, hy, hym, hy4, _⟩ := block_first hf hx h4
        have h1 : (fs.take i)[j]? = some y := by rw [List.getElem?_take, if_pos hji]; exact hy
        have h2 := plN_pos h1 hy4 hym
        rcases hs.2.2.2 with hh | hh
        · exact absurd h4 hh.2.1
        · exact ⟨by omega, hh.2.2.1, hh.2.2.2⟩
      · rcases hs.2.2.2 with hh | hh
        · exact hh.2.2
        · exact absurd hh.2.1 h4
end Go.Proofs.Ytfimnmdcbnfhfaa
/- The document's Is: whether a form is one of a shape. -/
namespace Go.Proofs.Ytfimnmdcbnfhfaa
open Go.RowKit

/-- numbers of each mode, in a block -/
def nC (n : Nat) (f : Int → Nat) : List Value := (List.range n).map fun (j : Nat) => .int .i64 ((f (j : Int) : Nat) : Int)
theorem nC_zero (n : Nat) (f : Int → Nat) (h : ∀ m, f m = 0) : nC n f = List.replicate n (.int .i64 0) := by
  apply List.ext_getElem?
  intro j
  unfold nC
  rw [List.getElem?_map, List.getElem?_replicate]
  by_cases hj : j < n
  · rw [if_pos hj, List.getElem?_range hj]; simp [h]
  · rw [if_neg hj, List.getElem?_eq_none (by simp; omega)]; rfl
theorem nC_at {n j : Nat} (f : Int → Nat) (h : j < n) : (nC n f)[j]? = some (.int .i64 ((f (j : Int) : Nat) : Int)) := by
  unfold nC
  rw [List.getElem?_map, List.getElem?_range h]
  rfl
theorem nC_set {n j : Nat} (f g : Int → Nat) (hj : g (j : Int) = f (j : Int) + 1) (ho : ∀ i : Nat, i ≠ j → g (i : Int) = f (i : Int)) : (nC n f).set j (.int .i64 (((f (j : Int) : Nat) : Int) + 1)) = nC n g := by
  apply List.ext_getElem?
  intro i
  by_cases hi : i < n
  · by_cases e : i = j
    · subst e
      rw [List.getElem?_set_self (by unfold nC; simpa using hi), nC_at _ hi, hj]
      rfl
    · rw [List.getElem?_set_ne (by omega), nC_at _ hi, nC_at _ hi, ho i e]
  · rw [List.getElem?_eq_none (by unfold nC; simp; omega), List.getElem?_eq_none (by unfold nC; simp; omega)]
theorem nC_same {n : Nat} {f g : Int → Nat} (h : ∀ i : Nat, g (i : Int) = f (i : Int)) : nC n f = nC n g := by
  unfold nC
  exact List.map_congr_left fun j _ => by rw [h j]
theorem plN_le (fs : List Sp) (m : Int) : plN fs m ≤ fs.length := List.countP_le_length
theorem blN_le (fs : List Sp) (m : Int) : blN fs m ≤ fs.length := List.countP_le_length
set_option maxRecDepth 100000 in
set_option maxHeartbeats 8000000 in
theorem refIs_any (A : Option Addr) (n c : Nat) (xs : List Int) (Bf : Option Addr) (m e : Nat) (fs : List Sp) (w : World) (h : Ints w w.heap.size A n xs) (hn : n ≤ 100000) (hf : Specs w w.heap.size Bf m fs) (hm : m ≤ 100000) :
    Calls Try.prog 42 #[.slice A n c, .slice Bf m e] w fun r w' => r = .returned (.bool (formB xs fs)) ∧ Below w.heap.size w w' := by
  have HN := Lib.hid h.1
  have HM := Lib.hid hf.1
  have hmk := fun W => vrun_make n hn W
  have hfp : formB xs fs = pB (IsP xs fs) := by
    by_cases hh : formOK xs fs
    · rw [formB_yes hh, pB_t (isP_iff.2 hh)]
    · rw [formB_no hh, pB_f (fun hp => hh (isP_iff.1 hp))]
  obtain ⟨FB, HFB⟩ : ∃ b, Hid (pB (IsP xs fs) = b) := ⟨_, Lib.hid rfl⟩
  rw [hfp, HFB.out]
  clear hfp
  by_cases hlen : 2 * n < m
  · have HF : Hid (FB = false) := HFB.out.symm.trans (pB_f fun hp => by have := hp.1; rw [HN.out, HM.out] at this; omega)
    have e0 : decide (2 * (n : Int) < (m : Int)) = true := by simp; omega
    have e1 : decide (2 * n < m) = true := by simp; omega
    go_enter Try.func42, Try.ntmps42
    go_wp2
    go_ret
    exact ⟨by rw [HF.out]; rfl, Below.refl _ _⟩
  · have e0 : decide (2 * (n : Int) < (m : Int)) = false := by simp; omega
    have e1 : decide (2 * n < m) = false := by simp; omega
    have HLE : Hid (fs.length ≤ 2 * xs.length) := by unfold Hid; rw [HN.out, HM.out]; omega
    have hz1 := nC_zero n (plN (fs.take 0)) (fun m => by simp [plN])
    have hz2 := nC_zero n (blN (fs.take 0)) (fun m => by simp [blN])
    clear hlen
    go_enter Try.func42, Try.ntmps42
    go_wp2
    clear hmk
    go_loopw [25] (fun i wr => ∃ k : Nat, k ≤ m ∧ i = .int .i64 k ∧ Hid (∀ j s, j < k → fs[j]? = some s → IsStep xs (fs.take j) s) ∧ Hid (wr.heap[w.heap.size]? = some (.cells (nC n (plN (fs.take k))).toArray 3 (0, 0))) ∧ Hid (wr.heap[w.heap.size + 1]? = some (.cells (nC n (blN (fs.take k))).toArray 3 (0, 0))) ∧ Hid (Below w.heap.size w wr)) (fun i _ => m - (intOf i).toNat)
    case atStart => exact ⟨0, Nat.zero_le _, rfl, fun j _ hj => absurd hj (by omega), by unfold Hid; rw [hz1, List.toArray_replicate]; exact (Below.heap_alloc _ _ _ (by simp)).trans (heap_alloc_new _ _), by unfold Hid; rw [hz2, List.toArray_replicate]; exact zf_snd w _ _, ((Below.refl _ w).alloc (Nat.le_refl _) _).alloc (by simp) _⟩
    case round =>
      obtain ⟨k, hk, rfl, HA, HP, HQ, HB⟩ := hrel
      have hbw : w.heap.size ≤ wr.heap.size := HB.out.size
      have hl1 := lt_of_heap HQ.out
      by_cases hlt : k < m
      · obtain ⟨b, off, x, rfl, hbl, HX, c0, c1, c2, xo⟩ := (hf.on HB.out (Nat.le_refl _)).at_ hlt
        obtain ⟨w1, hw1⟩ : ∃ w1, wr.alloc (.cells #[.int .i64 x.k, .int .i64 x.m, .int .i64 x.s] 66) = w1 := ⟨_, rfl⟩
        have hal : Below wr.heap.size wr w1 := by rw [← hw1]; exact (Below.refl _ _).alloc (Nat.le_refl _) _
        have hb1 : w1.heap[wr.heap.size]? = some (.cells #[.int .i64 x.k, .int .i64 x.m, .int .i64 x.s] 66 (0, 0)) := by rw [← hw1]; exact heap_alloc_new _ _
        obtain ⟨q0, q1, q2⟩ : w1.cell? ⟨wr.heap.size, 0, none⟩ = some (.int .i64 x.k) ∧ w1.cell? ⟨wr.heap.size, 1, none⟩ = some (.int .i64 x.m) ∧ w1.cell? ⟨wr.heap.size, 2, none⟩ = some (.int .i64 x.s) := ⟨cell_of_row _ _ 0 _ _ _ hb1, cell_of_row _ _ 1 _ _ _ hb1, cell_of_row _ _ 2 _ _ _ hb1⟩
        have HB1 := Lib.hid (HB.out.trans (hal.mono hbw))
        have HP1 := Lib.hid (keep_b hal HP.out)
        have HQ1 := Lib.hid (keep_b hal HQ.out)
        have HBad : Hid (¬ IsStep xs (fs.take k) x → FB = false) := fun hn => HFB.out.symm.trans (pB_f fun hp => hn (hp.2.1 k x HX.out))
        have HGood : Hid (IsStep xs (fs.take k) x → ∀ j s, j < k + 1 → fs[j]? = some s → IsStep xs (fs.take j) s) := fun hg j s hj hs => by
            rcases Nat.lt_or_ge j k with hh | hh
            · exact HA.out j s hh hs
            · obtain rfl : j = k := by omega
              rw [HX.out] at hs; cases hs; exact hg
        obtain ⟨x1, x2, x3, x4, x5, x6⟩ := xo
        have HBq : Hid (∀ q, Below w.heap.size w (w1.drewN q)) := fun q => ⟨HB1.out.os, HB1.out.tape, HB1.out.output, HB1.out.size, HB1.out.block⟩
        clear HB hal hb1 HP HQ HA
        by_cases a1 : x.m < 0
        · have HF := Lib.hid (HBad.out fun hs => by have := hs.1; omega)
          have e2 : decide (x.m < 0) = true := by simpa using a1
          clear a1
          go_wp2
          go_ret
          exact ⟨by rw [HF.out]; rfl, HB1.out⟩
        have e2 : decide (x.m < 0) = false := by simpa using a1
        by_cases a2 : (n : Int) ≤ x.m
        · have HF := Lib.hid (HBad.out fun hs => by have := hs.2.1; have := HN.out; omega)
          have e3 : decide ((n : Int) ≤ x.m) = true := by simpa using a2
          clear a1 a2
          go_wp2
          go_ret
          exact ⟨by rw [HF.out]; rfl, HB1.out⟩
        obtain ⟨j, hj⟩ : ∃ j : Nat, x.m = (j : Int) := ⟨x.m.toNat, by omega⟩
        have hjn : j < n := by omega
        have HJ := Lib.hid hj
        rw [hj] at c1 q1 hw1 e2 a2
        have e3 : decide ((n : Int) ≤ (j : Int)) = false := by simpa using a2
        have e3' : decide (n ≤ j) = false := by simpa using hjn
        clear a1 a2 hj x3 x4
        by_cases a3 : x.k < 0
        · have HF := Lib.hid (HBad.out fun hs => by have := hs.2.2.1; omega)
          have e4 : decide (x.k < 0) = true := by simpa using a3
          clear a3
          go_wp2
          go_ret
          exact ⟨by rw [HF.out]; rfl, HB1.out⟩
        have e4 : decide (x.k < 0) = false := by simpa using a3
        by_cases a4 : 4 < x.k
        · have HF := Lib.hid (HBad.out fun hs => by have := hs.2.2.2.1; omega)
          have e5 : decide (4 < x.k) = true := by simpa using a4
          clear a3 a4
          go_wp2
          go_ret
          exact ⟨by rw [HF.out]; rfl, HB1.out⟩
        have e5 : decide (4 < x.k) = false := by simpa using a4
        have HKR : Hid (0 ≤ x.k ∧ x.k ≤ 4) := ⟨by omega, by omega⟩
        clear a3 a4
        obtain ⟨pl, hpl⟩ : ∃ z, plN (fs.take k) (j : Int) = z := ⟨_, rfl⟩
        obtain ⟨bl, hbl2⟩ : ∃ z, blN (fs.take k) (j : Int) = z := ⟨_, rfl⟩
        have hv1 := vblk_cell HP1.out (nC_at (plN (fs.take k)) hjn)
        have hv2 := vblk_cell HQ1.out (nC_at (blN (fs.take k)) hjn)
        rw [hpl] at hv1
        rw [hbl2] at hv2
        obtain ⟨p1, p2⟩ := hv1
        obtain ⟨r1, r2⟩ := hv2
        have hplk : pl ≤ k := by rw [← hpl]; exact Nat.le_trans (plN_le _ _) (by rw [List.length_take]; omega)
        have hblk : bl ≤ k := by rw [← hbl2]; exact Nat.le_trans (blN_le _ _) (by rw [List.length_take]; omega)
        have HPL := Lib.hid hpl
        have HBL := Lib.hid hbl2
        clear hpl hbl2
        have HPS : Hid (x.k ≠ 4 → (w1.setCell ⟨w.heap.size, j, none⟩ (.int .i64 ((pl : Int) + 1))).heap[w.heap.size]? = some (.cells (nC n (plN (fs.take (k + 1)))).toArray 3 (0, 0)) ∧ (w1.setCell ⟨w.heap.size, j, none⟩ (.int .i64 ((pl : Int) + 1))).heap[w.heap.size + 1]? = some (.cells (nC n (blN (fs.take (k + 1)))).toArray 3 (0, 0))) := by
          intro h4
          rw [take_succ_of HX.out]
          refine ⟨?_, ?_⟩
          · rw [vblk_set HP1.out, ← HPL.out, nC_set (plN (fs.take k)) (plN (fs.take k ++ [x])) (by rw [plN_snoc, if_pos ⟨h4, HJ.out⟩]) (fun i hi => by rw [plN_snoc, if_neg (fun hh => hi (by have := HJ.out; omega))]; rfl)]
          · rw [Below.heap_setCell _ _ _ _ (by show w.heap.size + 1 ≠ w.heap.size; omega), HQ1.out, nC_same (f := blN (fs.take k)) (g := blN (fs.take k ++ [x])) (fun i => by rw [blN_snoc, if_neg (fun hh => h4 hh.1)]; rfl)]
        have HQS : Hid (x.k = 4 → ∀ q, ((w1.drewN q).setCell ⟨w.heap.size + 1, j, none⟩ (.int .i64 ((bl : Int) + 1))).heap[w.heap.size]? = some (.cells (nC n (plN (fs.take (k + 1)))).toArray 3 (0, 0)) ∧ ((w1.drewN q).setCell ⟨w.heap.size + 1, j, none⟩ (.int .i64 ((bl : Int) + 1))).heap[w.heap.size + 1]? = some (.cells (nC n (blN (fs.take (k + 1)))).toArray 3 (0, 0))) := by
          intro h4 q
          rw [take_succ_of HX.out]
          refine ⟨?_, ?_⟩
          · rw [Below.heap_setCell _ _ _ _ (by show w.heap.size ≠ w.heap.size + 1; omega)]; refine HP1.out.trans ?_; rw [nC_same (f := plN (fs.take k)) (g := plN (fs.take k ++ [x])) (fun i => by rw [plN_snoc, if_neg (fun hh => hh.1 h4)]; rfl)]
          · rw [vblk_set (w := w1.drewN q) HQ1.out, ← HBL.out, nC_set (blN (fs.take k)) (blN (fs.take k ++ [x])) (by rw [blN_snoc, if_pos ⟨h4, HJ.out⟩]) (fun i hi => by rw [blN_snoc, if_neg (fun hh => hi (by have := HJ.out; omega))]; rfl)]
        rcases Nat.eq_zero_or_pos k with hk0 | hk0
        · have HLo : Hid (¬ prevL (fs.take k)) := by rw [hk0]; rintro ⟨y, hy, _⟩; simp at hy
          have g1 : decide (0 < (k : Int)) = false := by simp; omega
          have g2 : decide (0 < k) = false := by simp; omega
          clear hk0
          by_cases a5 : x.k = 3
          · have HF := Lib.hid (HBad.out fun hs => HLo.out (hs.2.2.2.2.1.2 a5))
            have e6 : (x.k == 3) = true := by simpa using a5
            clear a5
            go_wp2
            go_ret
            exact ⟨by rw [HF.out]; rfl, HB1.out⟩
          · have e6 : (x.k == 3) = false := by simpa using a5
            have HPK : Hid (prevL (fs.take k) ↔ x.k = 3) := by unfold Hid; simp [HLo.out, a5]
            clear a5
            by_cases h4 : x.k = 4
            · have e7 : (x.k == 4) = true := by simpa using h4
              by_cases a7 : pl = 0
              · have HF := Lib.hid (HBad.out fun hs => (hs.2.2.2.2.2.1 h4).1 (by rw [HJ.out, HPL.out]; exact a7))
                subst a7
                clear h4
                go_wp2
                go_quiet (fail)
                go_wp2
                go_ret
                exact ⟨by rw [HF.out]; rfl, HBq.out _⟩
              · have e8 : ((pl : Int) == 0) = false := by simp; omega
                have e8' : (pl == 0) = false := by simpa using a7
                by_cases a8 : x.s < 1
                · have HF := Lib.hid (HBad.out fun hs => by have := (hs.2.2.2.2.2.1 h4).2.1; omega)
                  have e9 : decide (x.s < 1) = true := by simpa using a8
                  have e9' : decide (x.s ≤ 0) = true := by simp; omega
                  clear a8 h4
                  go_wp2
                  go_quiet (fail)
                  go_wp2
                  go_ret
                  exact ⟨by rw [HF.out]; rfl, HBq.out _⟩
                · have e9 : decide (x.s < 1) = false := by simpa using a8
                  have e9' : decide (x.s ≤ 0) = false := by simp; omega
                  have hs1 : (x.s == 0) = false := by simp; omega
                  obtain ⟨bA, oA, v, rfl, _, HV, cv, v1, v2⟩ := (h.below HB1.out).at_ hjn
                  obtain ⟨rr, hrr⟩ : ∃ z, v.tmod x.s = z := ⟨_, rfl⟩
                  have hxd : xs.getD x.m.toNat 0 = v := by rw [HJ.out, Int.toNat_natCast]; exact getD_of HV.out
                  by_cases a9 : rr = 0
                  · have e10 : (rr != 0) = false := by simpa using a9
                    have HG := Lib.hid (HGood.out ⟨by rw [HJ.out]; omega, by rw [HJ.out, HN.out]; omega, HKR.out.1, HKR.out.2, HPK.out, fun _ => ⟨by rw [HJ.out, HPL.out]; exact a7, by omega, by rw [hxd, hrr]; exact a9⟩, fun h => absurd h4 h⟩)
                    have HQs := HQS.out h4
                    clear a7 a9 h4 hxd HV
                    go_wp2
                    go_quiet (fail)
                    go_wp2
                    go_roundw
                    case rel => exact ⟨k + 1, by omega, by go_num, HG, (HQs _).1, (HQs _).2, (HBq.out _).setCell (by show w.heap.size ≤ w.heap.size + 1; omega) _⟩
                    case measure => simp [intOf]; omega
                  · have e10 : (rr != 0) = true := by simpa using a9
                    have HF := Lib.hid (HBad.out fun hs => a9 (by rw [← hrr, ← hxd]; exact (hs.2.2.2.2.2.1 h4).2.2))
                    clear a7 a9 h4 hxd HV
                    go_wp2
                    go_quiet (fail)
                    go_wp2
                    go_ret
                    exact ⟨by rw [HF.out]; rfl, HBq.out _⟩
            · have e7 : (x.k == 4) = false := by simpa using h4
              by_cases a6 : x.s = 0
              · have e8 : (x.s != 0) = false := by simpa using a6
                have HG := Lib.hid (HGood.out ⟨by rw [HJ.out]; omega, by rw [HJ.out, HN.out]; omega, HKR.out.1, HKR.out.2, HPK.out, fun h => absurd h h4, fun _ => a6⟩)
                have HPs := HPS.out h4
                clear a6 h4
                go_wp2
                go_roundw
                case rel => exact ⟨k + 1, by omega, by go_num, HG, HPs.1, HPs.2, HB1.out.setCell (Nat.le_refl _) _⟩
                case measure => simp [intOf]; omega
              · have HF := Lib.hid (HBad.out fun hs => a6 (hs.2.2.2.2.2.2 h4))
                have e8 : (x.s != 0) = true := by simpa using a6
                clear a6 h4
                go_wp2
                go_ret
                exact ⟨by rw [HF.out]; rfl, HB1.out⟩
        · obtain ⟨b2, off2, y, e2', _, HY, cy, _, _, _⟩ := (hf.on HB1.out (Nat.le_refl _)).at_ (k := k - 1) (by omega)
          obtain ⟨rfl, rfl⟩ : b2 = b ∧ off2 = off := by injection e2' with e2'; injection e2' with h1 h2; exact ⟨h1.symm, h2.symm⟩
          have HPr : Hid (prevL (fs.take k) ↔ (y.k = 2 ∨ y.k = 3)) := by
            have hlast : (fs.take k).getLast? = some y := by
              rw [List.getLast?_eq_getElem?, List.length_take, Nat.min_eq_left (by rw [HM.out]; omega), List.getElem?_take, if_pos (by omega)]
              exact HY.out
            unfold Hid prevL
            rw [hlast]
            simp
          have g1 : IntKind.i64.wrap ((k : Int) - 1) = (k : Int) - 1 := by rw [IntWalk.i64_in _ (by omega)]
          have g3 : (0 : Int) ≤ (k : Int) - 1 := by omega
          have g4 : ((k : Int) - 1).toNat = k - 1 := by omega
          have g5 : (1 : Int) ≤ k := by omega
          have g6 : (k : Int) - 1 < m := by omega
          have g7 : (k : Int) < m + 1 := by omega
          have g8 : (0 : Int) < k := by omega
          clear e2'
          by_cases y2 : y.k = 2
          · have HLo : Hid (prevL (fs.take k)) := HPr.out.2 (.inl y2)
            have g9 : (y.k == 2) = true := by simpa using y2
            clear y2
            by_cases a5 : x.k = 3
            · have e6 : (x.k == 3) = true := by simpa using a5
              have e7 : (x.k == 4) = false := by simp; omega
              have h4 : x.k ≠ 4 := by omega
              have HPK : Hid (prevL (fs.take k) ↔ x.k = 3) := by unfold Hid; simp [HLo.out, a5]
              clear a5
              by_cases a6 : x.s = 0
              · have e8 : (x.s != 0) = false := by simpa using a6
                have HG := Lib.hid (HGood.out ⟨by rw [HJ.out]; omega, by rw [HJ.out, HN.out]; omega, HKR.out.1, HKR.out.2, HPK.out, fun h => absurd h h4, fun _ => a6⟩)
                have HPs := HPS.out h4
                clear a6 h4
                go_wp2
                go_roundw
                case rel => exact ⟨k + 1, by omega, by go_num, HG, HPs.1, HPs.2, HB1.out.setCell (Nat.le_refl _) _⟩
                case measure => simp [intOf]; omega
              · have HF := Lib.hid (HBad.out fun hs => a6 (hs.2.2.2.2.2.2 h4))
                have e8 : (x.s != 0) = true := by simpa using a6
                clear a6 h4
                go_wp2
                go_ret
                exact ⟨by rw [HF.out]; rfl, HB1.out⟩
            · have HF := Lib.hid (HBad.out fun hs => a5 (hs.2.2.2.2.1.1 HLo.out))
              have e6 : (x.k == 3) = false := by simpa using a5
              clear a5
              go_wp2
              go_ret
              exact ⟨by rw [HF.out]; rfl, HB1.out⟩
          · have g9 : (y.k == 2) = false := by simpa using y2
            by_cases y3 : y.k = 3
            · have HLo : Hid (prevL (fs.take k)) := HPr.out.2 (.inr y3)
              have g10 : (y.k == 3) = true := by simpa using y3
              clear y2 y3
              by_cases a5 : x.k = 3
              · have e6 : (x.k == 3) = true := by simpa using a5
                have e7 : (x.k == 4) = false := by simp; omega
                have h4 : x.k ≠ 4 := by omega
                have HPK : Hid (prevL (fs.take k) ↔ x.k = 3) := by unfold Hid; simp [HLo.out, a5]
                clear a5
                by_cases a6 : x.s = 0
                · have e8 : (x.s != 0) = false := by simpa using a6
                  have HG := Lib.hid (HGood.out ⟨by rw [HJ.out]; omega, by rw [HJ.out, HN.out]; omega, HKR.out.1, HKR.out.2, HPK.out, fun h => absurd h h4, fun _ => a6⟩)
                  have HPs := HPS.out h4
                  clear a6 h4
                  go_wp2
                  go_roundw
                  case rel => exact ⟨k + 1, by omega, by go_num, HG, HPs.1, HPs.2, HB1.out.setCell (Nat.le_refl _) _⟩
                  case measure => simp [intOf]; omega
                · have HF := Lib.hid (HBad.out fun hs => a6 (hs.2.2.2.2.2.2 h4))
                  have e8 : (x.s != 0) = true := by simpa using a6
                  clear a6 h4
                  go_wp2
                  go_ret
                  exact ⟨by rw [HF.out]; rfl, HB1.out⟩
              · have HF := Lib.hid (HBad.out fun hs => a5 (hs.2.2.2.2.1.1 HLo.out))
                have e6 : (x.k == 3) = false := by simpa using a5
                clear a5
                go_wp2
                go_ret
                exact ⟨by rw [HF.out]; rfl, HB1.out⟩
            · have HLo : Hid (¬ prevL (fs.take k)) := fun hh => by rcases HPr.out.1 hh with h | h; exact y2 h; exact y3 h
              have g10 : (y.k == 3) = false := by simpa using y3
              clear y2 y3
              by_cases a5 : x.k = 3
              · have HF := Lib.hid (HBad.out fun hs => HLo.out (hs.2.2.2.2.1.2 a5))
                have e6 : (x.k == 3) = true := by simpa using a5
                clear a5
                go_wp2
                go_ret
                exact ⟨by rw [HF.out]; rfl, HB1.out⟩
              · have e6 : (x.k == 3) = false := by simpa using a5
                have HPK : Hid (prevL (fs.take k) ↔ x.k = 3) := by unfold Hid; simp [HLo.out, a5]
                clear a5
                by_cases h4 : x.k = 4
                · have e7 : (x.k == 4) = true := by simpa using h4
                  by_cases a7 : pl = 0
                  · have HF := Lib.hid (HBad.out fun hs => (hs.2.2.2.2.2.1 h4).1 (by rw [HJ.out, HPL.out]; exact a7))
                    subst a7
                    clear h4
                    go_wp2
                    go_quiet (fail)
                    go_wp2
                    go_ret
                    exact ⟨by rw [HF.out]; rfl, HBq.out _⟩
                  · have e8 : ((pl : Int) == 0) = false := by simp; omega
                    have e8' : (pl == 0) = false := by simpa using a7
                    by_cases a8 : x.s < 1
                    · have HF := Lib.hid (HBad.out fun hs => by have := (hs.2.2.2.2.2.1 h4).2.1; omega)
                      have e9 : decide (x.s < 1) = true := by simpa using a8
                      have e9' : decide (x.s ≤ 0) = true := by simp; omega
                      clear a8 h4
                      go_wp2
                      go_quiet (fail)
                      go_wp2
                      go_ret
                      exact ⟨by rw [HF.out]; rfl, HBq.out _⟩
                    · have e9 : decide (x.s < 1) = false := by simpa using a8
                      have e9' : decide (x.s ≤ 0) = false := by simp; omega
                      have hs1 : (x.s == 0) = false := by simp; omega
                      obtain ⟨bA, oA, v, rfl, _, HV, cv, v1, v2⟩ := (h.below HB1.out).at_ hjn
                      obtain ⟨rr, hrr⟩ : ∃ z, v.tmod x.s = z := ⟨_, rfl⟩
                      have hxd : xs.getD x.m.toNat 0 = v := by rw [HJ.out, Int.toNat_natCast]; exact getD_of HV.out
                      by_cases a9 : rr = 0
                      · have e10 : (rr != 0) = false := by simpa using a9
                        have HG := Lib.hid (HGood.out ⟨by rw [HJ.out]; omega, by rw [HJ.out, HN.out]; omega, HKR.out.1, HKR.out.2, HPK.out, fun _ => ⟨by rw [HJ.out, HPL.out]; exact a7, by omega, by rw [hxd, hrr]; exact a9⟩, fun h => absurd h4 h⟩)
                        have HQs := HQS.out h4
                        clear a7 a9 h4 hxd HV
                        go_wp2
                        go_quiet (fail)
                        go_wp2
                        go_roundw
                        case rel => exact ⟨k + 1, by omega, by go_num, HG, (HQs _).1, (HQs _).2, (HBq.out _).setCell (by show w.heap.size ≤ w.heap.size + 1; omega) _⟩
                        case measure => simp [intOf]; omega
                      · have e10 : (rr != 0) = true := by simpa using a9
                        have HF := Lib.hid (HBad.out fun hs => a9 (by rw [← hrr, ← hxd]; exact (hs.2.2.2.2.2.1 h4).2.2))
                        clear a7 a9 h4 hxd HV
                        go_wp2
                        go_quiet (fail)
                        go_wp2
                        go_ret
                        exact ⟨by rw [HF.out]; rfl, HBq.out _⟩
                · have e7 : (x.k == 4) = false := by simpa using h4
                  by_cases a6 : x.s = 0
                  · have e8 : (x.s != 0) = false := by simpa using a6
                    have HG := Lib.hid (HGood.out ⟨by rw [HJ.out]; omega, by rw [HJ.out, HN.out]; omega, HKR.out.1, HKR.out.2, HPK.out, fun h => absurd h h4, fun _ => a6⟩)
                    have HPs := HPS.out h4
                    clear a6 h4
                    go_wp2
                    go_roundw
                    case rel => exact ⟨k + 1, by omega, by go_num, HG, HPs.1, HPs.2, HB1.out.setCell (Nat.le_refl _) _⟩
                    case measure => simp [intOf]; omega
                  · have HF := Lib.hid (HBad.out fun hs => a6 (hs.2.2.2.2.2.2 h4))
                    have e8 : (x.s != 0) = true := by simpa using a6
                    clear a6 h4
                    go_wp2
                    go_ret
                    exact ⟨by rw [HF.out]; rfl, HB1.out⟩
      · obtain rfl : k = m := by omega
        have htk : fs.take k = fs := List.take_of_length_le (by rw [HM.out]; omega)
        rw [htk] at HP HQ
        have HAll : Hid (∀ i s, fs[i]? = some s → IsStep xs (fs.take i) s) := fun i s hs => HA.out i s (by have := (List.getElem?_eq_some_iff.1 hs).1; rw [HM.out] at this; exact this) hs
        clear HA htk
        obtain ⟨wo, rfl⟩ : ∃ wo : World, wo = wr := ⟨_, rfl⟩
        go_wp2
        go_loopw [120] (fun i wr => ∃ q : Nat, q ≤ n ∧ i = .int .i64 q ∧ wr = wo ∧ Hid (∀ j : Nat, j < q → plN fs j = 1 ∧ blN fs j ≤ 1)) (fun i _ => n - (intOf i).toNat)
        case atStart => exact ⟨0, Nat.zero_le _, rfl, rfl, fun j hj => absurd hj (by omega)⟩
        case round =>
          obtain ⟨q, hq, rfl, hwr, HA⟩ := hrel
          subst hwr
          by_cases hqn : q < n
          · obtain ⟨a, ha⟩ : ∃ z, plN fs (q : Int) = z := ⟨_, rfl⟩
            obtain ⟨b, hb⟩ : ∃ z, blN fs (q : Int) = z := ⟨_, rfl⟩
            have hv1 := (vblk_cell HP.out (nC_at (plN fs) hqn)).1
            have hv2 := (vblk_cell HQ.out (nC_at (blN fs) hqn)).1
            rw [ha] at hv1
            rw [hb] at hv2
            have HBad : Hid (¬ (a = 1 ∧ b ≤ 1) → FB = false) := fun hn => HFB.out.symm.trans (pB_f fun hp => hn (by have := hp.2.2 q (by rw [HN.out]; exact hqn); rw [ha, hb] at this; exact this))
            have HGd : Hid (a = 1 ∧ b ≤ 1 → ∀ j : Nat, j < q + 1 → plN fs j = 1 ∧ blN fs j ≤ 1) := fun hg j hj => by
              rcases Nat.lt_or_ge j q with hh | hh
              · exact HA.out j hh
              · obtain rfl : j = q := by omega
                rw [ha, hb]; exact hg
            clear ha hb HA
            by_cases a1 : a = 1
            · have e2 : ((a : Int) != 1) = false := by simp; omega
              have e2' : (a != 1) = false := by simpa using a1
              by_cases a2 : b ≤ 1
              · have e3 : decide (1 < (b : Int)) = false := by simp; omega
                have e3' : decide (1 < b) = false := by simpa using a2
                have HG := Lib.hid (HGd.out ⟨a1, a2⟩)
                clear a1 a2
                go_wp2
                go_roundw
                case rel => exact ⟨q + 1, by omega, by go_num, by first | trivial | rfl, HG⟩
                case measure => simp [intOf]; omega
              · have e3 : decide (1 < (b : Int)) = true := by simp; omega
                have e3' : decide (1 < b) = true := by simp; omega
                have HF := Lib.hid (HBad.out fun hh => a2 hh.2)
                clear a1 a2
                go_wp2
                go_ret
                exact ⟨by rw [HF.out]; rfl, HB.out⟩
            · have e2 : ((a : Int) != 1) = true := bne_iff_ne.2 (by omega)
              have e2' : (a != 1) = true := bne_iff_ne.2 a1
              have HF := Lib.hid (HBad.out fun hh => a1 hh.1)
              clear a1
              go_wp2
              go_ret
              exact ⟨by rw [HF.out]; rfl, HB.out⟩
          · have HF : Hid (FB = true) := HFB.out.symm.trans (pB_t ⟨HLE.out, HAll.out, fun j hj => HA.out j (by have := HN.out; omega)⟩)
            go_wp2
            go_ret
            exact ⟨by rw [HF.out]; rfl, HB.out⟩
end Go.Proofs.Ytfimnmdcbnfhfaa
/- How the arguments of the statements read: slices of integers, dense tensors, integers. -/
namespace Go.Proofs.Ytfimnmdcbnfhfaa
open Go.ChangeShapes Go.WideShapes Go.ChangeAt Go.RowKit

set_option maxRecDepth 100000 in
theorem own : ownKnob Try.prog.godebug = none := by kernel_rfl
set_option maxRecDepth 100000 in
theorem laidOut : laidOutB Try.prog = true := by kernel_rfl

theorem lt_of_cell {w : World} {a : Addr} {v : Value} (h : w.cell? a = some v) : a.block < w.heap.size := by
  rcases Nat.lt_or_ge a.block w.heap.size with hlt | hge
  · exact hlt
  · have : w.heap[a.block]? = none := Array.getElem?_eq_none hge
    simp [World.cell?, this] at h

theorem wf_bounds {n : Int} (h : (Lit.int .i64 n).wf = true) : -9223372036854775808 ≤ n ∧ n ≤ 9223372036854775807 := by
  simp [Lit.wf, IntKind.min, IntKind.max, IntKind.signed, IntKind.bits] at h
  omega

theorem ints_of_row {w : World} {x : Addr} {len : Nat} {zs : List Int} (hz : len ≤ zs.length) (hcell : ∀ i, i < zs.length → w.cell? (x.add i) = some (.int .i64 (zs.getD i 0))) (hwz : ∀ n ∈ zs, (Lit.int .i64 n).wf = true) :
    Ints w w.heap.size (some x) len (zs.take len) := by
  refine ⟨by rw [List.length_take]; omega, fun n hn => wf_bounds (hwz n (List.mem_of_mem_take hn)), fun h0 => ?_⟩
  obtain ⟨b, off, spot⟩ := x
  have hc := hcell 0 (by omega)
  have hspot : spot = none := by simpa [Addr.add] using World.cell?_spot hc
  subst hspot
  have hlt : b < w.heap.size := by have := lt_of_cell hc; simpa [Addr.add] using this
  refine ⟨b, off, rfl, hlt, fun k y hy => ?_⟩
  have hk : k < len := by have := (List.getElem?_eq_some_iff.1 hy).1; rw [List.length_take] at this; omega
  have h1 := hcell k (by omega)
  have h2 : zs.getD k 0 = y := by
    rw [List.getElem?_take, if_pos hk] at hy
    simp [List.getD, hy]
  rw [h2] at h1
  by_cases hk0 : k = 0
  · subst hk0; simpa [Addr.add] using h1
  · simpa [Addr.add, hk0] using h1

section
variable {H : Type} {enc : TypeId × Value → H} {w : World} {base : Nat} {spare : Nat → Bool} {held : Bool}
/-- a []int, or a []int64, that came in -/
theorem open_nums {t e : TypeId} {v : Value} {d : DataW H} {p : List MemPlace} (ht : Try.prog.underlying t = some (.slice e)) (he : Try.prog.underlying e = some (.int .i64)) (hC : Try.prog.cellsOf e = 1) (hf : ∃ a n c, v = .slice a n c) (h : DataW.Trod enc Try.prog w base spare held t v d p) :
    ∃ A n c xs, v = .slice A n c ∧ Ints w w.heap.size A n xs ∧ n ≤ 9223372036854775807 := by
  obtain ⟨a0, len0, cap0, rfl⟩ := hf
  obtain ⟨fuel, hf⟩ := h
  rcases open_ints ht he hC hf with ⟨hcs, _⟩ | ⟨x, l, c, zs, hcs, _, hl, hm, hz, _, hcell, hwz⟩
  · simp [Value.cells] at hcs
    obtain ⟨rfl, rfl, rfl⟩ := hcs
    exact ⟨none, 0, 0, [], rfl, Ints.nil_, by omega⟩
  · simp [Value.cells] at hcs
    obtain ⟨rfl, rfl, rfl⟩ := hcs
    have hz' : len0 ≤ zs.length := by split at hz <;> omega
    refine ⟨_, _, _, _, rfl, ints_of_row hz' hcell hwz, ?_⟩
    unfold maxLen at hm
    omega
set_option maxRecDepth 100000 in
/-- an api.Dense that came in -/
theorem open_dense {r : Reach} {b0 : Nat} {v : Value} {d : DataW H} {p : List MemPlace} (hv : Value.okWide Try.prog w r b0 45 v) (h : DataW.Trod enc Try.prog w base spare held 45 v d p) :
    ∃ A n c B m e xs ys, v = .agg #[.slice A n c, .slice B m e] ∧ Ints w w.heap.size A n xs ∧ n ≤ 9223372036854775807 ∧ Ints w w.heap.size B m ys ∧ m ≤ 9223372036854775807 := by
  obtain ⟨v0, v1, y0, y1, k, rfl, _, _, h0, h1⟩ := Go.Joins.open_agg2 Try.underlying45 (by kernel_rfl) (by kernel_rfl) hv h
  obtain ⟨a0, l0, c0, e0⟩ := Go.Joins.slice_form Try.underlying22 h0
  obtain ⟨a1, l1, c1, e1⟩ := Go.Joins.slice_form Try.underlying32 h1
  simp only [List.cons.injEq, and_true] at e0 e1
  have t0 : DataW.Trod enc Try.prog w base spare held 22 v0 y0.1 y0.2 := ⟨k, by rw [e0] at h0 ⊢; exact h0⟩
  have t1 : DataW.Trod enc Try.prog w base spare held 32 v1 y1.1 y1.2 := ⟨k, by rw [e1] at h1 ⊢; exact h1⟩
  obtain ⟨A, n, c, xs, f0, i0, b0⟩ := open_nums Try.underlying22 Try.underlying3 (by kernel_rfl) ⟨_, _, _, e0⟩ t0
  obtain ⟨B, m, e, ys, f1, i1, b1⟩ := open_nums Try.underlying32 Try.underlying2 (by kernel_rfl) ⟨_, _, _, e1⟩ t1
  exact ⟨A, n, c, B, m, e, xs, ys, by rw [f0, f1], i0, b0, i1, b1⟩
end
end Go.Proofs.Ytfimnmdcbnfhfaa
/- How a slice of integers that came in reads, with its room. -/
namespace Go.Proofs.Ytfimnmdcbnfhfaa
open Go.ChangeShapes Go.WideShapes Go.ChangeAt Go.RowKit

section
variable {H : Type} {enc : TypeId × Value → H} {w : World} {base : Nat} {spare : Nat → Bool} {held : Bool}
/-- the same, and its room -/
theorem open_numsc {t e : TypeId} {v : Value} {d : DataW H} {p : List MemPlace} (ht : Try.prog.underlying t = some (.slice e)) (he : Try.prog.underlying e = some (.int .i64)) (hC : Try.prog.cellsOf e = 1) (hf : ∃ a n c, v = .slice a n c) (h : DataW.Trod enc Try.prog w base spare held t v d p) :
    ∃ A n c xs, v = .slice A n c ∧ Ints w w.heap.size A n xs ∧ n ≤ 9223372036854775807 ∧ n ≤ c := by
  obtain ⟨a0, len0, cap0, rfl⟩ := hf
  obtain ⟨fuel, hf⟩ := h
  rcases open_ints ht he hC hf with ⟨hcs, _⟩ | ⟨x, l, c, zs, hcs, _, hl, hm, hz, _, hcell, hwz⟩
  · simp [Value.cells] at hcs
    obtain ⟨rfl, rfl, rfl⟩ := hcs
    exact ⟨none, 0, 0, [], rfl, Ints.nil_, by omega, Nat.le_refl _⟩
  · simp [Value.cells] at hcs
    obtain ⟨rfl, rfl, rfl⟩ := hcs
    have hz' : len0 ≤ zs.length := by split at hz <;> omega
    refine ⟨_, _, _, _, rfl, ints_of_row hz' hcell hwz, ?_, hl⟩
    unfold maxLen at hm
    omega
end
end Go.Proofs.Ytfimnmdcbnfhfaa
/- How a slice of entries that came in reads. -/
namespace Go.Proofs.Ytfimnmdcbnfhfaa
open Go.ChangeShapes Go.WideShapes Go.ChangeAt Go.RowKit Go.Deep

section
variable {H : Type} {enc : TypeId × Value → H} {w : World} {base : Nat} {spare : Nat → Bool} {held : Bool}
set_option maxRecDepth 100000 in
/-- one entry's cells -/
theorem open_entry {f0 f1 : Field} {fuel : Nat} {a : Addr} {cs : List Value} {x : DataW H × List MemPlace} (hs : Try.prog.underlying 56 = some (.struct #[f0, f1])) (hone : oneCellFields Try.prog #[f0, f1] = true) (ht0 : f0.type = 22) (ht1 : f1.type = 2) (hl : cs.length = 2)
    (hc : ∀ i, i < 2 → w.cell? (a.add i) = cs[i]?) (h : DataW.trod enc Try.prog w base spare held fuel 56 cs = some x) :
    ∃ y : Ent, w.cell? (a.add 0) = some (.slice y.A y.n y.c) ∧ w.cell? (a.add 1) = some (.int .i64 y.v) ∧ Ints w w.heap.size y.A y.n y.cs ∧ y.n ≤ 9223372036854775807 ∧ y.n ≤ y.c ∧ -9223372036854775808 ≤ y.v ∧ y.v ≤ 9223372036854775807 := by
  obtain ⟨ys, k, _, _, _, hyl, hf⟩ := DataW.trod_struct hs h
  match cs, hl with
  | [v0, v1], _ =>
    match ys, hyl with
    | [y0, y1], _ =>
      obtain ⟨o0, k0⟩ := hone_of hone 0 f0 rfl
      obtain ⟨o1, k1⟩ := hone_of hone 1 f1 rfl
      have h0 := hf 0 f0 rfl
      have h1 := hf 1 f1 rfl
      rw [o0, k0, ht0] at h0
      rw [o1, k1, ht1] at h1
      simp only [List.drop_zero, List.take_succ_cons, List.take_zero, List.drop_succ_cons, List.getElem?_cons_zero, List.getElem?_cons_succ] at h0 h1
      obtain ⟨a0, l0, c0, e0⟩ := Go.Joins.slice_form Try.underlying22 h0
      simp only [List.cons.injEq, and_true] at e0
      subst e0
      have t0 : DataW.Trod enc Try.prog w base spare held 22 (.slice a0 l0 c0) y0.1 y0.2 := ⟨k, h0⟩
      obtain ⟨A, n, c, zs, f0', i0, b0, g0⟩ := open_numsc Try.underlying22 Try.underlying3 (by kernel_rfl) ⟨_, _, _, rfl⟩ t0
      obtain ⟨v, e1, _, hw⟩ := DataW.trod_int Try.underlying2 h1
      simp only [List.cons.injEq, and_true] at e1
      subst e1
      have hb := wf_bounds hw
      refine ⟨⟨A, n, c, zs, v⟩, ?_, ?_, i0, b0, g0, hb.1, hb.2⟩
      · have := hc 0 (by omega); rw [this, ← f0']; rfl
      · have := hc 1 (by omega); rw [this]; rfl
theorem add_two (b off i : Nat) : (Addr.add ⟨b, off, none⟩ i : Addr) = ⟨b, off + i, none⟩ := by
  by_cases h : i = 0
  · subst h; simp [Addr.add]
  · simp [Addr.add, h]
set_option maxRecDepth 100000 in
/-- a []api.Entry that came in -/
theorem open_ents {v : Value} {d : DataW H} {p : List MemPlace} (hf : ∃ a n c, v = .slice a n c) (h : DataW.Trod enc Try.prog w base spare held 39 v d p) :
    ∃ A n c es, v = .slice A n c ∧ Ents w w.heap.size A n es ∧ n ≤ 9223372036854775807 ∧ n ≤ c := by
  obtain ⟨a0, len0, cap0, rfl⟩ := hf
  obtain ⟨fuel, hf⟩ := h
  rcases open_slice Try.underlying39 hf with ⟨hcs, _⟩ | ⟨x, l, c, m, k, D, Pl, hcs, _, hl, hm, hmm, _, hi⟩
  · simp [Value.cells] at hcs
    obtain ⟨rfl, rfl, rfl⟩ := hcs
    exact ⟨none, 0, 0, [], rfl, Ents.nil_, by omega, Nat.le_refl _⟩
  · simp [Value.cells] at hcs
    obtain ⟨rfl, rfl, rfl⟩ := hcs
    have hC : Try.prog.cellsOf 56 = 2 := by kernel_rfl
    have key : ∀ i, i < len0 → ∃ y : Ent, w.cell? ((x.add (i * 2)).add 0) = some (.slice y.A y.n y.c) ∧ w.cell? ((x.add (i * 2)).add 1) = some (.int .i64 y.v) ∧ Ints w w.heap.size y.A y.n y.cs ∧ y.n ≤ 9223372036854775807 ∧ y.n ≤ y.c ∧ -9223372036854775808 ≤ y.v ∧ y.v ≤ 9223372036854775807 := by
      intro i hil
      have hml : len0 ≤ m := by rw [hmm]; split <;> omega
      obtain ⟨cs', hc, ht'⟩ := hi i (by omega)
      rw [hC] at hc
      obtain ⟨_, hlen, hat⟩ := World.cells?_some hc
      exact open_entry Try.underlying56 (by kernel_rfl) (by kernel_rfl) (by kernel_rfl) hlen hat ht'
    refine ⟨_, _, _, (List.range len0).map fun i => if hh : i < len0 then Classical.choose (key i hh) else ⟨none, 0, 0, [], 0⟩, rfl, ⟨by simp, ?_, ?_⟩, by unfold maxLen at hm; omega, hl⟩
    · intro y hy
      rw [List.mem_map] at hy
      obtain ⟨i, hir, rfl⟩ := hy
      have hil := List.mem_range.1 hir
      rw [dif_pos hil]
      exact (Classical.choose_spec (key i hil)).2.2
    · intro h0
      obtain ⟨b, off, spot⟩ := x
      have hs := (Classical.choose_spec (key 0 h0)).1
      have hspot : spot = none := by simpa [Addr.add] using World.cell?_spot hs
      subst hspot
      have hlt : b < w.heap.size := by have := lt_of_cell hs; simpa [Addr.add] using this
      refine ⟨b, off, rfl, hlt, fun q y hy => ?_⟩
      rw [List.getElem?_map, Option.map_eq_some_iff] at hy
      obtain ⟨i, hir, hiy⟩ := hy
      have hq : q < len0 := by have := (List.getElem?_eq_some_iff.1 hir).1; simpa using this
      have hqi : i = q := by have := (List.getElem?_eq_some_iff.1 hir).2; simpa using this.symm
      subst hqi
      rw [dif_pos hq] at hiy
      have hk := Classical.choose_spec (key i hq)
      rw [hiy] at hk
      obtain ⟨k0, k1, _⟩ := hk
      rw [add_two, add_two] at k0 k1
      rw [show off + 2 * i = off + i * 2 + 0 by omega]
      exact ⟨k0, k1⟩
set_option maxRecDepth 100000 in
/-- an api.Coo that came in -/
theorem open_coo {r : Reach} {b0 : Nat} {v : Value} {d : DataW H} {p : List MemPlace} (hv : Value.okWide Try.prog w r b0 41 v) (h : DataW.Trod enc Try.prog w base spare held 41 v d p) :
    ∃ A n c B m e xs es, v = .agg #[.slice A n c, .slice B m e] ∧ Ints w w.heap.size A n xs ∧ n ≤ 9223372036854775807 ∧ Ents w w.heap.size B m es ∧ m ≤ 9223372036854775807 ∧ n ≤ c ∧ m ≤ e := by
  obtain ⟨v0, v1, y0, y1, k, rfl, _, _, h0, h1⟩ := Go.Joins.open_agg2 Try.underlying41 (by kernel_rfl) (by kernel_rfl) hv h
  obtain ⟨a0, l0, c0, e0⟩ := Go.Joins.slice_form Try.underlying22 h0
  obtain ⟨a1, l1, c1, e1⟩ := Go.Joins.slice_form Try.underlying39 h1
  simp only [List.cons.injEq, and_true] at e0 e1
  have t0 : DataW.Trod enc Try.prog w base spare held 22 v0 y0.1 y0.2 := ⟨k, by rw [e0] at h0 ⊢; exact h0⟩
  have t1 : DataW.Trod enc Try.prog w base spare held 39 v1 y1.1 y1.2 := ⟨k, by rw [e1] at h1 ⊢; exact h1⟩
  obtain ⟨A, n, c, xs, f0, i0, b0, g0⟩ := open_numsc Try.underlying22 Try.underlying3 (by kernel_rfl) ⟨_, _, _, e0⟩ t0
  obtain ⟨B, m, e, es, f1, i1, b1, g1⟩ := open_ents ⟨_, _, _, e1⟩ t1
  exact ⟨A, n, c, B, m, e, xs, es, by rw [f0, f1], i0, b0, i1, b1, g0, g1⟩
end
end Go.Proofs.Ytfimnmdcbnfhfaa
/- How a slice of specs that came in reads. -/
namespace Go.Proofs.Ytfimnmdcbnfhfaa
open Go.ChangeShapes Go.WideShapes Go.ChangeAt Go.RowKit Go.Deep

section
variable {H : Type} {enc : TypeId × Value → H} {w : World} {base : Nat} {spare : Nat → Bool} {held : Bool}
set_option maxRecDepth 100000 in
/-- one spec's cells -/
theorem open_spec {f0 f1 f2 : Field} {fuel : Nat} {a : Addr} {cs : List Value} {x : DataW H × List MemPlace} (hs : Try.prog.underlying 66 = some (.struct #[f0, f1, f2])) (hone : oneCellFields Try.prog #[f0, f1, f2] = true) (ht0 : f0.type = 3) (ht1 : f1.type = 3) (ht2 : f2.type = 3) (hl : cs.length = 3)
    (hc : ∀ i, i < 3 → w.cell? (a.add i) = cs[i]?) (h : DataW.trod enc Try.prog w base spare held fuel 66 cs = some x) :
    ∃ y : Sp, w.cell? (a.add 0) = some (.int .i64 y.k) ∧ w.cell? (a.add 1) = some (.int .i64 y.m) ∧ w.cell? (a.add 2) = some (.int .i64 y.s) ∧ y.ok := by
  obtain ⟨ys, k, _, _, _, hyl, hf⟩ := DataW.trod_struct hs h
  match cs, hl with
  | [v0, v1, v2], _ =>
    match ys, hyl with
    | [y0, y1, y2], _ =>
      obtain ⟨o0, k0⟩ := hone_of hone 0 f0 rfl
      obtain ⟨o1, k1⟩ := hone_of hone 1 f1 rfl
      obtain ⟨o2, k2⟩ := hone_of hone 2 f2 rfl
      have h0 := hf 0 f0 rfl
      have h1 := hf 1 f1 rfl
      have h2 := hf 2 f2 rfl
      rw [o0, k0, ht0] at h0
      rw [o1, k1, ht1] at h1
      rw [o2, k2, ht2] at h2
      simp only [List.drop_zero, List.take_succ_cons, List.take_zero, List.drop_succ_cons, List.getElem?_cons_zero, List.getElem?_cons_succ] at h0 h1 h2
      obtain ⟨u0, e0, _, hw0⟩ := DataW.trod_int Try.underlying3 h0
      obtain ⟨u1, e1, _, hw1⟩ := DataW.trod_int Try.underlying3 h1
      obtain ⟨u2, e2, _, hw2⟩ := DataW.trod_int Try.underlying3 h2
      simp only [List.cons.injEq, and_true] at e0 e1 e2
      subst e0 e1 e2
      have b0 := wf_bounds hw0
      have b1 := wf_bounds hw1
      have b2 := wf_bounds hw2
      refine ⟨⟨u0, u1, u2⟩, ?_, ?_, ?_, ⟨b0.1, b0.2, b1.1, b1.2, b2.1, b2.2⟩⟩
      · have := hc 0 (by omega); rw [this]; rfl
      · have := hc 1 (by omega); rw [this]; rfl
      · have := hc 2 (by omega); rw [this]; rfl
set_option maxRecDepth 100000 in
/-- a []api.Spec that came in -/
theorem open_specs {v : Value} {d : DataW H} {p : List MemPlace} (hf : ∃ a n c, v = .slice a n c) (h : DataW.Trod enc Try.prog w base spare held 23 v d p) :
    ∃ A n c fs, v = .slice A n c ∧ Specs w w.heap.size A n fs ∧ n ≤ 9223372036854775807 ∧ n ≤ c := by
  obtain ⟨a0, len0, cap0, rfl⟩ := hf
  obtain ⟨fuel, hf⟩ := h
  rcases open_slice Try.underlying23 hf with ⟨hcs, _⟩ | ⟨x, l, c, m, k, D, Pl, hcs, _, hl, hm, hmm, _, hi⟩
  · simp [Value.cells] at hcs
    obtain ⟨rfl, rfl, rfl⟩ := hcs
    exact ⟨none, 0, 0, [], rfl, Specs.nil_, by omega, Nat.le_refl _⟩
  · simp [Value.cells] at hcs
    obtain ⟨rfl, rfl, rfl⟩ := hcs
    have hC : Try.prog.cellsOf 66 = 3 := by kernel_rfl
    have key : ∀ i, i < len0 → ∃ y : Sp, w.cell? ((x.add (i * 3)).add 0) = some (.int .i64 y.k) ∧ w.cell? ((x.add (i * 3)).add 1) = some (.int .i64 y.m) ∧ w.cell? ((x.add (i * 3)).add 2) = some (.int .i64 y.s) ∧ y.ok := by
      intro i hil
      have hml : len0 ≤ m := by rw [hmm]; split <;> omega
      obtain ⟨cs', hc, ht'⟩ := hi i (by omega)
      rw [hC] at hc
      obtain ⟨_, hlen, hat⟩ := World.cells?_some hc
      exact open_spec Try.underlying66 (by kernel_rfl) (by kernel_rfl) (by kernel_rfl) (by kernel_rfl) hlen hat ht'
    refine ⟨_, _, _, (List.range len0).map fun i => if hh : i < len0 then Classical.choose (key i hh) else ⟨0, 0, 0⟩, rfl, ⟨by simp, ?_, ?_⟩, by unfold maxLen at hm; omega, hl⟩
    · intro y hy
      rw [List.mem_map] at hy
      obtain ⟨i, hir, rfl⟩ := hy
      have hil := List.mem_range.1 hir
      rw [dif_pos hil]
      exact (Classical.choose_spec (key i hil)).2.2.2
    · intro h0
      obtain ⟨b, off, spot⟩ := x
      have hs := (Classical.choose_spec (key 0 h0)).1
      have hspot : spot = none := by simpa [Addr.add] using World.cell?_spot hs
      subst hspot
      have hlt : b < w.heap.size := by have := lt_of_cell hs; simpa [Addr.add] using this
      refine ⟨b, off, rfl, hlt, fun q y hy => ?_⟩
      rw [List.getElem?_map, Option.map_eq_some_iff] at hy
      obtain ⟨i, hir, hiy⟩ := hy
      have hq : q < len0 := by have := (List.getElem?_eq_some_iff.1 hir).1; simpa using this
      have hqi : i = q := by have := (List.getElem?_eq_some_iff.1 hir).2; simpa using this.symm
      subst hqi
      rw [dif_pos hq] at hiy
      have hk := Classical.choose_spec (key i hq)
      rw [hiy] at hk
      obtain ⟨k0, k1, k2, _⟩ := hk
      rw [add_two, add_two] at k0 k1 k2
      exact ⟨k0, k1, k2⟩
end
end Go.Proofs.Ytfimnmdcbnfhfaa
