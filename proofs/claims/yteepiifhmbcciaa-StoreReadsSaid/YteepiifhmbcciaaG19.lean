/- Whether a form is one of a shape, as the document tells it: the same. Plain mathematics. -/
import Derived.Test.YteepiifhmbcciaaG16
import Derived.Test.YteepiifhmbcciaaG10
import Derived.BigQuiet
import Derived.Deep.QuietTactic
import Derived.Test.YteepiifhmbcciaaG13
namespace Go.Proofs.Yteepiifhmbcciaa
open Go.RowKit

/-- how many plain levels, how many blocks a mode has -/
def plN (fs : List Sp) (m : Int) : Nat := fs.countP fun s => !(s.k == 4) && s.m == m
def blN (fs : List Sp) (m : Int) : Nat := fs.countP fun s => s.k == 4 && s.m == m
def prevL (fs : List Sp) : Prop := ∃ y, fs.getLast? = some y ∧ (y.k = 2 ∨ y.k = 3)
def IsStep (xs : List Int) (pre : List Sp) (x : Sp) : Prop :=
  0 ≤ x.m ∧ x.m < xs.length ∧ 0 ≤ x.k ∧ x.k ≤ 4 ∧ (prevL pre ↔ x.k = 3) ∧ (x.k = 4 → plN pre x.m ≠ 0 ∧ 1 ≤ x.s ∧ Int.tmod (xs.getD x.m.toNat 0) x.s = 0) ∧ (x.k ≠ 4 → x.s = 0)
def IsP (xs : List Int) (fs : List Sp) : Prop := fs.length ≤ 2 * xs.length ∧ (∀ i x, fs[i]? = some x → IsStep xs (fs.take i) x) ∧ ∀ m : Nat, m < xs.length → plN fs m = 1 ∧ blN fs m ≤ 1
theorem cntS_split (fs : List Sp) (m : Int) : cntS fs m = plN fs m + blN fs m := by
  unfold cntS plN blN
  induction fs with
  | nil => rfl
  | cons x fs ih =>
    simp only [List.countP_cons]
    by_cases h4 : x.k = 4 <;> by_cases hm : x.m = m <;> simp [h4, hm] at ih ⊢ <;> omega
theorem plN_snoc (fs : List Sp) (x : Sp) (m : Int) : plN (fs ++ [x]) m = plN fs m + if x.k ≠ 4 ∧ x.m = m then 1 else 0 := by
  unfold plN
  rw [List.countP_append]
  by_cases h : x.k = 4 <;> by_cases hm : x.m = m <;> simp [h, hm]
theorem blN_snoc (fs : List Sp) (x : Sp) (m : Int) : blN (fs ++ [x]) m = blN fs m + if x.k = 4 ∧ x.m = m then 1 else 0 := by
  unfold blN
  rw [List.countP_append]
  by_cases h : x.k = 4 <;> by_cases hm : x.m = m <;> simp [h, hm]
theorem countP_take_le {α : Type} (p : α → Bool) (l : List α) (i : Nat) : (l.take i).countP p ≤ l.countP p := by
  have e := List.countP_append (p := p) (l₁ := l.take i) (l₂ := l.drop i)
  rw [List.take_append_drop] at e
  omega
theorem countP_take_mono {α : Type} (p : α → Bool) (l : List α) {i j : Nat} (h : i ≤ j) : (l.take i).countP p ≤ (l.take j).countP p := by
  have := countP_take_le p (l.take j) i
  rwa [List.take_take, Nat.min_eq_left h] at this
theorem plN_pos {fs : List Sp} {m : Int} {i : Nat} {x : Sp} (h : fs[i]? = some x) (h4 : x.k ≠ 4) (hm : x.m = m) : 1 ≤ plN fs m := by
  unfold plN
  exact List.countP_pos_iff.2 ⟨x, List.mem_of_getElem? h, by simp [h4, hm]⟩
theorem goesB_iff {fs : List Sp} {k : Int} : goesB fs k = true ↔ (0 ≤ k ∧ k ≤ 4) ∧ (prevL fs ↔ k = 3) := by
  unfold goesB prevL
  cases hl : fs.getLast? with
  | none => simp; omega
  | some y =>
    simp only [Option.some.injEq, exists_eq_left']
    by_cases hy : y.k = 2 ∨ y.k = 3
    · rw [if_pos hy]; simp [hy]; omega
    · rw [if_neg hy]; simp [hy]; omega
theorem len_le {n : Nat} {fs : List Sp} (h1 : ∀ x ∈ fs, 0 ≤ x.m ∧ x.m < n) (h2 : ∀ m : Nat, m < n → cntS fs m ≤ 2) : fs.length ≤ 2 * n := by
  induction n generalizing fs with
  | zero =>
    cases fs with
    | nil => simp
    | cons x fs => have := h1 x (by simp); omega
  | succ n ih =>
    have hsp : fs.length = (fs.filter fun x => !(x.m == (n : Int))).length + cntS fs n := by
      unfold cntS
      rw [List.countP_eq_length_filter]
      clear h1 h2 ih
      induction fs with
      | nil => rfl
      | cons x fs ih =>
        by_cases hx : x.m = n
        · simp [hx] at ih ⊢; omega
        · simp [hx] at ih ⊢; omega
    have := ih (fs := fs.filter fun x => !(x.m == (n : Int))) (fun x hx => by
      rw [List.mem_filter] at hx
      have h := h1 x hx.1
      have h3 : x.m ≠ n := by simpa using hx.2
      omega) (fun m hm => by
      refine Nat.le_trans ?_ (h2 m (by omega))
      unfold cntS
      exact List.Sublist.countP_le List.filter_sublist)
    have := h2 n (by omega)
    omega
theorem isP_iff {xs : List Int} {fs : List Sp} : IsP xs fs ↔ formOK xs fs := by
  constructor
  · rintro ⟨_, h2, h3⟩
    refine ⟨fun i x hx => ?_, fun m hm => ?_⟩
    · obtain ⟨m0, m1, k0, k1, hp, hb, hs⟩ := h2 i x hx
      obtain ⟨m, hm⟩ : ∃ m : Nat, x.m = (m : Int) := ⟨x.m.toNat, by omega⟩
      have hml : m < xs.length := by omega
      obtain ⟨q1, q2⟩ := h3 m hml
      have ht := take_succ_of hx
      have p1 : plN (fs.take (i + 1)) m ≤ 1 := by rw [← q1]; exact countP_take_le _ _ _
      have p2 : blN (fs.take (i + 1)) m ≤ 1 := Nat.le_trans (countP_take_le _ _ _) q2
      rw [ht, plN_snoc] at p1
      rw [ht, blN_snoc] at p2
      refine ⟨m0, m1, goesB_iff.2 ⟨⟨k0, k1⟩, hp⟩, ?_⟩
      rw [hm] at hb ⊢
      rw [cntS_split]
      by_cases h4 : x.k = 4
      · obtain ⟨b1, b2, b3⟩ := hb h4
        rw [if_pos ⟨h4, hm⟩] at p2
        rw [if_neg (fun h => h.1 h4)] at p1
        exact .inr ⟨by omega, h4, b2, b3⟩
      · rw [if_pos ⟨h4, hm⟩] at p1
        have hbl : blN (fs.take i) m = 0 := by
          unfold blN
          rw [List.countP_eq_zero]
          intro y hy he
          obtain ⟨j, hj, hyj⟩ := mem_take_at hy
          simp at he
          have h5 := (h2 j y hyj).2.2.2.2.2.1 he.1
          rw [he.2] at h5
          have h6 : plN (fs.take j) m ≤ plN (fs.take i) m := countP_take_mono _ _ (by omega)
          omega
        exact .inl ⟨by omega, h4, hs h4⟩
    · have := (h3 m hm).1
      rw [cntS_split]
      omega
  · intro hf
    have hone : ∀ m : Nat, m < xs.length → plN fs m = 1 ∧ blN fs m ≤ 1 := by
      intro m hm
      have hc := hf.2 m hm
      refine ⟨?_, ?_⟩
      · have h1 : 1 ≤ plN fs m := by
          obtain ⟨i, x, hx, hxm⟩ := cntS_find (fs := fs) (m := m) (by omega)
          by_cases h4 : x.k = 4
          · obtain ⟨j, y, _, _, hy, hym, hy4, _⟩ := block_first hf hx h4
            exact plN_pos hy hy4 (by rw [hym, hxm])
          · exact plN_pos hx h4 hxm
        have h2 : plN fs m ≤ 1 := by
          apply Nat.le_of_not_lt
          intro h
          have key : ∀ k, k ≤ fs.length → plN (fs.take k) m ≤ 1 := by
            intro k
            induction k with
            | zero => intro _; simp [plN]
            | succ k ih =>
              intro hk
              obtain ⟨x, hx⟩ : ∃ x, fs[k]? = some x := ⟨_, List.getElem?_eq_getElem (by omega)⟩
              rw [take_succ_of hx, plN_snoc]
              split
              · next hh =>
                have hz : plN (fs.take k) m = 0 := by
                  unfold plN
                  rw [List.countP_eq_zero]
                  intro y hy he
                  obtain ⟨j, hj, hyj⟩ := mem_take_at hy
                  simp at he
                  exact plain_first hf hx hh.1 j y hj hyj (by rw [he.2, hh.2])
                omega
              · exact ih (by omega)
          have := key fs.length (Nat.le_refl _)
          rw [List.take_length] at this
          omega
        omega
      · have key : ∀ k, k ≤ fs.length → blN (fs.take k) m ≤ 1 := by
          intro k
          induction k with
          | zero => intro _; simp [blN]
          | succ k ih =>
            intro hk
            obtain ⟨x, hx⟩ : ∃ x, fs[k]? = some x := ⟨_, List.getElem?_eq_getElem (by omega)⟩
            rw [take_succ_of hx, blN_snoc]
            split
            · next hh =>
              obtain ⟨j, y, _, hjk, hy, hym, hy4, hu⟩ := block_first hf hx hh.1
              have hz : blN (fs.take k) m = 0 := by
                unfold blN
                rw [List.countP_eq_zero]
                intro z hz he
                obtain ⟨q, hq, hzq⟩ := mem_take_at hz
                simp at he
                obtain rfl := hu q z hq hzq (by rw [he.2, hh.2])
                rw [hy] at hzq; cases hzq
                exact hy4 he.1
              omega
            · exact ih (by omega)
        have := key fs.length (Nat.le_refl _)
        rwa [List.take_length] at this
    refine ⟨?_, fun i x hx => ?_, hone⟩
    · refine len_le (n := xs.length) (fun x hx => ?_) (fun m hm => ?_)
      · obtain ⟨i, hi⟩ := List.mem_iff_getElem?.1 hx
        have := hf.1 i x hi
        exact ⟨this.1, this.2.1⟩
      · have := hone m hm
        rw [cntS_split]
        omega
    · have hs := hf.1 i x hx
      have hg := goesB_iff.1 hs.2.2.1
      refine ⟨hs.1, hs.2.1, hg.1.1, hg.1.2, hg.2, fun h4 => ?_, fun h4 => ?_⟩
      · obtain ⟨j, y, _, hji, hy, hym, hy4, _⟩ := block_first hf hx h4
        have h1 : (fs.take i)[j]? = some y := by rw [List.getElem?_take, if_pos hji]; exact hy
        have h2 := plN_pos h1 hy4 hym
        rcases hs.2.2.2 with hh | hh
        · exact absurd h4 hh.2.1
        · exact ⟨by omega, hh.2.2.1, hh.2.2.2⟩
      · rcases hs.2.2.2 with hh | hh
        · exact hh.2.2
        · exact absurd hh.2.1 h4
end Go.Proofs.Yteepiifhmbcciaa
/- The document's Is: whether a form is one of a shape. -/
namespace Go.Proofs.Yteepiifhmbcciaa
open Go.RowKit

/-- numbers of each mode, in a block -/
def nC (n : Nat) (f : Int → Nat) : List Value := (List.range n).map fun (j : Nat) => .int .i64 ((f (j : Int) : Nat) : Int)
theorem nC_zero (n : Nat) (f : Int → Nat) (h : ∀ m, f m = 0) : nC n f = List.replicate n (.int .i64 0) := by
  apply List.ext_getElem?
  intro j
  unfold nC
  rw [List.getElem?_map, List.getElem?_replicate]
  by_cases hj : j < n
  · rw [if_pos hj, List.getElem?_range hj]; simp [h]
  · rw [if_neg hj, List.getElem?_eq_none (by simp; omega)]; rfl
theorem nC_at {n j : Nat} (f : Int → Nat) (h : j < n) : (nC n f)[j]? = some (.int .i64 ((f (j : Int) : Nat) : Int)) := by
  unfold nC
  rw [List.getElem?_map, List.getElem?_range h]
  rfl
theorem nC_set {n j : Nat} (f g : Int → Nat) (hj : g (j : Int) = f (j : Int) + 1) (ho : ∀ i : Nat, i ≠ j → g (i : Int) = f (i : Int)) : (nC n f).set j (.int .i64 (((f (j : Int) : Nat) : Int) + 1)) = nC n g := by
  apply List.ext_getElem?
  intro i
  by_cases hi : i < n
  · by_cases e : i = j
    · subst e
      rw [List.getElem?_set_self (by unfold nC; simpa using hi), nC_at _ hi, hj]
      rfl
    · rw [List.getElem?_set_ne (by omega), nC_at _ hi, nC_at _ hi, ho i e]
  · rw [List.getElem?_eq_none (by unfold nC; simp; omega), List.getElem?_eq_none (by unfold nC; simp; omega)]
theorem nC_same {n : Nat} {f g : Int → Nat} (h : ∀ i : Nat, g (i : Int) = f (i : Int)) : nC n f = nC n g := by
  unfold nC
  exact List.map_congr_left fun j _ => by rw [h j]
theorem plN_le (fs : List Sp) (m : Int) : plN fs m ≤ fs.length := List.countP_le_length
theorem blN_le (fs : List Sp) (m : Int) : blN fs m ≤ fs.length := List.countP_le_length
set_option maxRecDepth 100000 in
set_option maxHeartbeats 8000000 in
theorem refIs_any (A : Option Addr) (n c : Nat) (xs : List Int) (Bf : Option Addr) (m e : Nat) (fs : List Sp) (w : World) (h : Ints w w.heap.size A n xs) (hn : n ≤ 100000) (hf : Specs w w.heap.size Bf m fs) (hm : m ≤ 100000) :
    Calls Try.prog 78 #[.slice A n c, .slice Bf m e] w fun r w' => r = .returned (.bool (formB xs fs)) ∧ Below w.heap.size w w' := by
  have HN := Lib.hid h.1
  have HM := Lib.hid hf.1
  have hmk := fun W => vrun_make n hn W
  have hfp : formB xs fs = pB (IsP xs fs) := by
    by_cases hh : formOK xs fs
    · rw [formB_yes hh, pB_t (isP_iff.2 hh)]
    · rw [formB_no hh, pB_f (fun hp => hh (isP_iff.1 hp))]
  obtain ⟨FB, HFB⟩ : ∃ b, Hid (pB (IsP xs fs) = b) := ⟨_, Lib.hid rfl⟩
  rw [hfp, HFB.out]
  clear hfp
  by_cases hlen : 2 * n < m
  · have HF : Hid (FB = false) := HFB.out.symm.trans (pB_f fun hp => by have := hp.1; rw [HN.out, HM.out] at this; omega)
    have e0 : decide (2 * (n : Int) < (m : Int)) = true := by simp; omega
    have e1 : decide (2 * n < m) = true := by simp; omega
    go_enter Try.func78, Try.ntmps78
    go_wp2
    go_ret
    exact ⟨by rw [HF.out]; rfl, Below.refl _ _⟩
  · have e0 : decide (2 * (n : Int) < (m : Int)) = false := by simp; omega
    have e1 : decide (2 * n < m) = false := by simp; omega
    have HLE : Hid (fs.length ≤ 2 * xs.length) := by unfold Hid; rw [HN.out, HM.out]; omega
    have hz1 := nC_zero n (plN (fs.take 0)) (fun m => by simp [plN])
    have hz2 := nC_zero n (blN (fs.take 0)) (fun m => by simp [blN])
    clear hlen
    go_enter Try.func78, Try.ntmps78
    go_wp2
    clear hmk
    go_loopw [25] (fun i wr => ∃ k : Nat, k ≤ m ∧ i = .int .i64 k ∧ Hid (∀ j s, j < k → fs[j]? = some s → IsStep xs (fs.take j) s) ∧ Hid (wr.heap[w.heap.size]? = some (.cells (nC n (plN (fs.take k))).toArray 3 (0, 0))) ∧ Hid (wr.heap[w.heap.size + 1]? = some (.cells (nC n (blN (fs.take k))).toArray 3 (0, 0))) ∧ Hid (Below w.heap.size w wr)) (fun i _ => m - (intOf i).toNat)
    case atStart => exact ⟨0, Nat.zero_le _, rfl, fun j _ hj => absurd hj (by omega), by unfold Hid; rw [hz1, List.toArray_replicate]; exact (Below.heap_alloc _ _ _ (by simp)).trans (heap_alloc_new _ _), by unfold Hid; rw [hz2, List.toArray_replicate]; exact zf_snd w _ _, ((Below.refl _ w).alloc (Nat.le_refl _) _).alloc (by simp) _⟩
    case round =>
      obtain ⟨k, hk, rfl, HA, HP, HQ, HB⟩ := hrel
      have hbw : w.heap.size ≤ wr.heap.size := HB.out.size
      have hl1 := lt_of_heap HQ.out
      by_cases hlt : k < m
      · obtain ⟨b, off, x, rfl, hbl, HX, c0, c1, c2, xo⟩ := (hf.on HB.out (Nat.le_refl _)).at_ hlt
        obtain ⟨w1, hw1⟩ : ∃ w1, wr.alloc (.cells #[.int .i64 x.k, .int .i64 x.m, .int .i64 x.s] 60) = w1 := ⟨_, rfl⟩
        have hal : Below wr.heap.size wr w1 := by rw [← hw1]; exact (Below.refl _ _).alloc (Nat.le_refl _) _
        have hb1 : w1.heap[wr.heap.size]? = some (.cells #[.int .i64 x.k, .int .i64 x.m, .int .i64 x.s] 60 (0, 0)) := by rw [← hw1]; exact heap_alloc_new _ _
        obtain ⟨q0, q1, q2⟩ : w1.cell? ⟨wr.heap.size, 0, none⟩ = some (.int .i64 x.k) ∧ w1.cell? ⟨wr.heap.size, 1, none⟩ = some (.int .i64 x.m) ∧ w1.cell? ⟨wr.heap.size, 2, none⟩ = some (.int .i64 x.s) := ⟨cell_of_row _ _ 0 _ _ _ hb1, cell_of_row _ _ 1 _ _ _ hb1, cell_of_row _ _ 2 _ _ _ hb1⟩
        have HB1 := Lib.hid (HB.out.trans (hal.mono hbw))
        have HP1 := Lib.hid (keep_b hal HP.out)
        have HQ1 := Lib.hid (keep_b hal HQ.out)
        have HBad : Hid (¬ IsStep xs (fs.take k) x → FB = false) := fun hn => HFB.out.symm.trans (pB_f fun hp => hn (hp.2.1 k x HX.out))
        have HGood : Hid (IsStep xs (fs.take k) x → ∀ j s, j < k + 1 → fs[j]? = some s → IsStep xs (fs.take j) s) := fun hg j s hj hs => by
            rcases Nat.lt_or_ge j k with hh | hh
            · exact HA.out j s hh hs
            · obtain rfl : j = k := by omega
              rw [HX.out] at hs; cases hs; exact hg
        obtain ⟨x1, x2, x3, x4, x5, x6⟩ := xo
        have HBq : Hid (∀ q, Below w.heap.size w (w1.drewN q)) := fun q => ⟨HB1.out.os, HB1.out.tape, HB1.out.output, HB1.out.size, HB1.out.block⟩
        clear HB hal hb1 HP HQ HA
        by_cases a1 : x.m < 0
        · have HF := Lib.hid (HBad.out fun hs => by have := hs.1; omega)
          have e2 : decide (x.m < 0) = true := by simpa using a1
          clear a1
          go_wp2
          go_ret
          exact ⟨by rw [HF.out]; rfl, HB1.out⟩
        have e2 : decide (x.m < 0) = false := by simpa using a1
        by_cases a2 : (n : Int) ≤ x.m
        · have HF := Lib.hid (HBad.out fun hs => by have := hs.2.1; have := HN.out; omega)
          have e3 : decide ((n : Int) ≤ x.m) = true := by simpa using a2
          clear a1 a2
          go_wp2
          go_ret
          exact ⟨by rw [HF.out]; rfl, HB1.out⟩
        obtain ⟨j, hj⟩ : ∃ j : Nat, x.m = (j : Int) := ⟨x.m.toNat, by omega⟩
        have hjn : j < n := by omega
        have HJ := Lib.hid hj
        rw [hj] at c1 q1 hw1 e2 a2
        have e3 : decide ((n : Int) ≤ (j : Int)) = false := by simpa using a2
        have e3' : decide (n ≤ j) = false := by simpa using hjn
        clear a1 a2 hj x3 x4
        by_cases a3 : x.k < 0
        · have HF := Lib.hid (HBad.out fun hs => by have := hs.2.2.1; omega)
          have e4 : decide (x.k < 0) = true := by simpa using a3
          clear a3
          go_wp2
          go_ret
          exact ⟨by rw [HF.out]; rfl, HB1.out⟩
        have e4 : decide (x.k < 0) = false := by simpa using a3
        by_cases a4 : 4 < x.k
        · have HF := Lib.hid (HBad.out fun hs => by have := hs.2.2.2.1; omega)
          have e5 : decide (4 < x.k) = true := by simpa using a4
          clear a3 a4
          go_wp2
          go_ret
          exact ⟨by rw [HF.out]; rfl, HB1.out⟩
        have e5 : decide (4 < x.k) = false := by simpa using a4
        have HKR : Hid (0 ≤ x.k ∧ x.k ≤ 4) := ⟨by omega, by omega⟩
        clear a3 a4
        obtain ⟨pl, hpl⟩ : ∃ z, plN (fs.take k) (j : Int) = z := ⟨_, rfl⟩
        obtain ⟨bl, hbl2⟩ : ∃ z, blN (fs.take k) (j : Int) = z := ⟨_, rfl⟩
        have hv1 := vblk_cell HP1.out (nC_at (plN (fs.take k)) hjn)
        have hv2 := vblk_cell HQ1.out (nC_at (blN (fs.take k)) hjn)
        rw [hpl] at hv1
        rw [hbl2] at hv2
        obtain ⟨p1, p2⟩ := hv1
        obtain ⟨r1, r2⟩ := hv2
        have hplk : pl ≤ k := by rw [← hpl]; exact Nat.le_trans (plN_le _ _) (by rw [List.length_take]; omega)
        have hblk : bl ≤ k := by rw [← hbl2]; exact Nat.le_trans (blN_le _ _) (by rw [List.length_take]; omega)
        have HPL := Lib.hid hpl
        have HBL := Lib.hid hbl2
        clear hpl hbl2
        have HPS : Hid (x.k ≠ 4 → (w1.setCell ⟨w.heap.size, j, none⟩ (.int .i64 ((pl : Int) + 1))).heap[w.heap.size]? = some (.cells (nC n (plN (fs.take (k + 1)))).toArray 3 (0, 0)) ∧ (w1.setCell ⟨w.heap.size, j, none⟩ (.int .i64 ((pl : Int) + 1))).heap[w.heap.size + 1]? = some (.cells (nC n (blN (fs.take (k + 1)))).toArray 3 (0, 0))) := by
          intro h4
          rw [take_succ_of HX.out]
          refine ⟨?_, ?_⟩
          · rw [vblk_set HP1.out, ← HPL.out, nC_set (plN (fs.take k)) (plN (fs.take k ++ [x])) (by rw [plN_snoc, if_pos ⟨h4, HJ.out⟩]) (fun i hi => by rw [plN_snoc, if_neg (fun hh => hi (by have := HJ.out; omega))]; rfl)]
          · rw [Below.heap_setCell _ _ _ _ (by show w.heap.size + 1 ≠ w.heap.size; omega), HQ1.out, nC_same (f := blN (fs.take k)) (g := blN (fs.take k ++ [x])) (fun i => by rw [blN_snoc, if_neg (fun hh => h4 hh.1)]; rfl)]
        have HQS : Hid (x.k = 4 → ∀ q, ((w1.drewN q).setCell ⟨w.heap.size + 1, j, none⟩ (.int .i64 ((bl : Int) + 1))).heap[w.heap.size]? = some (.cells (nC n (plN (fs.take (k + 1)))).toArray 3 (0, 0)) ∧ ((w1.drewN q).setCell ⟨w.heap.size + 1, j, none⟩ (.int .i64 ((bl : Int) + 1))).heap[w.heap.size + 1]? = some (.cells (nC n (blN (fs.take (k + 1)))).toArray 3 (0, 0))) := by
          intro h4 q
          rw [take_succ_of HX.out]
          refine ⟨?_, ?_⟩
          · rw [Below.heap_setCell _ _ _ _ (by show w.heap.size ≠ w.heap.size + 1; omega)]; refine HP1.out.trans ?_; rw [nC_same (f := plN (fs.take k)) (g := plN (fs.take k ++ [x])) (fun i => by rw [plN_snoc, if_neg (fun hh => hh.1 h4)]; rfl)]
          · rw [vblk_set (w := w1.drewN q) HQ1.out, ← HBL.out, nC_set (blN (fs.take k)) (blN (fs.take k ++ [x])) (by rw [blN_snoc, if_pos ⟨h4, HJ.out⟩]) (fun i hi => by rw [blN_snoc, if_neg (fun hh => hi (by have := HJ.out; omega))]; rfl)]
        rcases Nat.eq_zero_or_pos k with hk0 | hk0
        · have HLo : Hid (¬ prevL (fs.take k)) := by rw [hk0]; rintro ⟨y, hy, _⟩; simp at hy
          have g1 : decide (0 < (k : Int)) = false := by simp; omega
          have g2 : decide (0 < k) = false := by simp; omega
          clear hk0
          by_cases a5 : x.k = 3
          · have HF := Lib.hid (HBad.out fun hs => HLo.out (hs.2.2.2.2.1.2 a5))
            have e6 : (x.k == 3) = true := by simpa using a5
            clear a5
            go_wp2
            go_ret
            exact ⟨by rw [HF.out]; rfl, HB1.out⟩
          · have e6 : (x.k == 3) = false := by simpa using a5
            have HPK : Hid (prevL (fs.take k) ↔ x.k = 3) := by unfold Hid; simp [HLo.out, a5]
            clear a5
            by_cases h4 : x.k = 4
            · have e7 : (x.k == 4) = true := by simpa using h4
              by_cases a7 : pl = 0
              · have HF := Lib.hid (HBad.out fun hs => (hs.2.2.2.2.2.1 h4).1 (by rw [HJ.out, HPL.out]; exact a7))
                subst a7
                clear h4
                go_wp2
                go_quiet (fail)
                go_wp2
                go_ret
                exact ⟨by rw [HF.out]; rfl, HBq.out _⟩
              · have e8 : ((pl : Int) == 0) = false := by simp; omega
                have e8' : (pl == 0) = false := by simpa using a7
                by_cases a8 : x.s < 1
                · have HF := Lib.hid (HBad.out fun hs => by have := (hs.2.2.2.2.2.1 h4).2.1; omega)
                  have e9 : decide (x.s < 1) = true := by simpa using a8
                  have e9' : decide (x.s ≤ 0) = true := by simp; omega
                  clear a8 h4
                  go_wp2
                  go_quiet (fail)
                  go_wp2
                  go_ret
                  exact ⟨by rw [HF.out]; rfl, HBq.out _⟩
                · have e9 : decide (x.s < 1) = false := by simpa using a8
                  have e9' : decide (x.s ≤ 0) = false := by simp; omega
                  have hs1 : (x.s == 0) = false := by simp; omega
                  obtain ⟨bA, oA, v, rfl, _, HV, cv, v1, v2⟩ := (h.below HB1.out).at_ hjn
                  obtain ⟨rr, hrr⟩ : ∃ z, v.tmod x.s = z := ⟨_, rfl⟩
                  have hxd : xs.getD x.m.toNat 0 = v := by rw [HJ.out, Int.toNat_natCast]; exact getD_of HV.out
                  by_cases a9 : rr = 0
                  · have e10 : (rr != 0) = false := by simpa using a9
                    have HG := Lib.hid (HGood.out ⟨by rw [HJ.out]; omega, by rw [HJ.out, HN.out]; omega, HKR.out.1, HKR.out.2, HPK.out, fun _ => ⟨by rw [HJ.out, HPL.out]; exact a7, by omega, by rw [hxd, hrr]; exact a9⟩, fun h => absurd h4 h⟩)
                    have HQs := HQS.out h4
                    clear a7 a9 h4 hxd HV
                    go_wp2
                    go_quiet (fail)
                    go_wp2
                    go_roundw
                    case rel => exact ⟨k + 1, by omega, by go_num, HG, (HQs _).1, (HQs _).2, (HBq.out _).setCell (by show w.heap.size ≤ w.heap.size + 1; omega) _⟩
                    case measure => simp [intOf]; omega
                  · have e10 : (rr != 0) = true := by simpa using a9
                    have HF := Lib.hid (HBad.out fun hs => a9 (by rw [← hrr, ← hxd]; exact (hs.2.2.2.2.2.1 h4).2.2))
                    clear a7 a9 h4 hxd HV
                    go_wp2
                    go_quiet (fail)
                    go_wp2
                    go_ret
                    exact ⟨by rw [HF.out]; rfl, HBq.out _⟩
            · have e7 : (x.k == 4) = false := by simpa using h4
              by_cases a6 : x.s = 0
              · have e8 : (x.s != 0) = false := by simpa using a6
                have HG := Lib.hid (HGood.out ⟨by rw [HJ.out]; omega, by rw [HJ.out, HN.out]; omega, HKR.out.1, HKR.out.2, HPK.out, fun h => absurd h h4, fun _ => a6⟩)
                have HPs := HPS.out h4
                clear a6 h4
                go_wp2
                go_roundw
                case rel => exact ⟨k + 1, by omega, by go_num, HG, HPs.1, HPs.2, HB1.out.setCell (Nat.le_refl _) _⟩
                case measure => simp [intOf]; omega
              · have HF := Lib.hid (HBad.out fun hs => a6 (hs.2.2.2.2.2.2 h4))
                have e8 : (x.s != 0) = true := by simpa using a6
                clear a6 h4
                go_wp2
                go_ret
                exact ⟨by rw [HF.out]; rfl, HB1.out⟩
        · obtain ⟨b2, off2, y, e2', _, HY, cy, _, _, _⟩ := (hf.on HB1.out (Nat.le_refl _)).at_ (k := k - 1) (by omega)
          obtain ⟨rfl, rfl⟩ : b2 = b ∧ off2 = off := by injection e2' with e2'; injection e2' with h1 h2; exact ⟨h1.symm, h2.symm⟩
          have HPr : Hid (prevL (fs.take k) ↔ (y.k = 2 ∨ y.k = 3)) := by
            have hlast : (fs.take k).getLast? = some y := by
              rw [List.getLast?_eq_getElem?, List.length_take, Nat.min_eq_left (by rw [HM.out]; omega), List.getElem?_take, if_pos (by omega)]
              exact HY.out
            unfold Hid prevL
            rw [hlast]
            simp
          have g1 : IntKind.i64.wrap ((k : Int) - 1) = (k : Int) - 1 := by rw [IntWalk.i64_in _ (by omega)]
          have g3 : (0 : Int) ≤ (k : Int) - 1 := by omega
          have g4 : ((k : Int) - 1).toNat = k - 1 := by omega
          have g5 : (1 : Int) ≤ k := by omega
          have g6 : (k : Int) - 1 < m := by omega
          have g7 : (k : Int) < m + 1 := by omega
          have g8 : (0 : Int) < k := by omega
          clear e2'
          by_cases y2 : y.k = 2
          · have HLo : Hid (prevL (fs.take k)) := HPr.out.2 (.inl y2)
            have g9 : (y.k == 2) = true := by simpa using y2
            clear y2
            by_cases a5 : x.k = 3
            · have e6 : (x.k == 3) = true := by simpa using a5
              have e7 : (x.k == 4) = false := by simp; omega
              have h4 : x.k ≠ 4 := by omega
              have HPK : Hid (prevL (fs.take k) ↔ x.k = 3) := by unfold Hid; simp [HLo.out, a5]
              clear a5
              by_cases a6 : x.s = 0
              · have e8 : (x.s != 0) = false := by simpa using a6
                have HG := Lib.hid (HGood.out ⟨by rw [HJ.out]; omega, by rw [HJ.out, HN.out]; omega, HKR.out.1, HKR.out.2, HPK.out, fun h => absurd h h4, fun _ => a6⟩)
                have HPs := HPS.out h4
                clear a6 h4
                go_wp2
                go_roundw
                case rel => exact ⟨k + 1, by omega, by go_num, HG, HPs.1, HPs.2, HB1.out.setCell (Nat.le_refl _) _⟩
                case measure => simp [intOf]; omega
              · have HF := Lib.hid (HBad.out fun hs => a6 (hs.2.2.2.2.2.2 h4))
                have e8 : (x.s != 0) = true := by simpa using a6
                clear a6 h4
                go_wp2
                go_ret
                exact ⟨by rw [HF.out]; rfl, HB1.out⟩
            · have HF := Lib.hid (HBad.out fun hs => a5 (hs.2.2.2.2.1.1 HLo.out))
              have e6 : (x.k == 3) = false := by simpa using a5
              clear a5
              go_wp2
              go_ret
              exact ⟨by rw [HF.out]; rfl, HB1.out⟩
          · have g9 : (y.k == 2) = false := by simpa using y2
            by_cases y3 : y.k = 3
            · have HLo : Hid (prevL (fs.take k)) := HPr.out.2 (.inr y3)
              have g10 : (y.k == 3) = true := by simpa using y3
              clear y2 y3
              by_cases a5 : x.k = 3
              · have e6 : (x.k == 3) = true := by simpa using a5
                have e7 : (x.k == 4) = false := by simp; omega
                have h4 : x.k ≠ 4 := by omega
                have HPK : Hid (prevL (fs.take k) ↔ x.k = 3) := by unfold Hid; simp [HLo.out, a5]
                clear a5
                by_cases a6 : x.s = 0
                · have e8 : (x.s != 0) = false := by simpa using a6
                  have HG := Lib.hid (HGood.out ⟨by rw [HJ.out]; omega, by rw [HJ.out, HN.out]; omega, HKR.out.1, HKR.out.2, HPK.out, fun h => absurd h h4, fun _ => a6⟩)
                  have HPs := HPS.out h4
                  clear a6 h4
                  go_wp2
                  go_roundw
                  case rel => exact ⟨k + 1, by omega, by go_num, HG, HPs.1, HPs.2, HB1.out.setCell (Nat.le_refl _) _⟩
                  case measure => simp [intOf]; omega
                · have HF := Lib.hid (HBad.out fun hs => a6 (hs.2.2.2.2.2.2 h4))
                  have e8 : (x.s != 0) = true := by simpa using a6
                  clear a6 h4
                  go_wp2
                  go_ret
                  exact ⟨by rw [HF.out]; rfl, HB1.out⟩
              · have HF := Lib.hid (HBad.out fun hs => a5 (hs.2.2.2.2.1.1 HLo.out))
                have e6 : (x.k == 3) = false := by simpa using a5
                clear a5
                go_wp2
                go_ret
                exact ⟨by rw [HF.out]; rfl, HB1.out⟩
            · have HLo : Hid (¬ prevL (fs.take k)) := fun hh => by rcases HPr.out.1 hh with h | h; exact y2 h; exact y3 h
              have g10 : (y.k == 3) = false := by simpa using y3
              clear y2 y3
              by_cases a5 : x.k = 3
              · have HF := Lib.hid (HBad.out fun hs => HLo.out (hs.2.2.2.2.1.2 a5))
                have e6 : (x.k == 3) = true := by simpa using a5
                clear a5
                go_wp2
                go_ret
                exact ⟨by rw [HF.out]; rfl, HB1.out⟩
              · have e6 : (x.k == 3) = false := by simpa using a5
                have HPK : Hid (prevL (fs.take k) ↔ x.k = 3) := by unfold Hid; simp [HLo.out, a5]
                clear a5
                by_cases h4 : x.k = 4
                · have e7 : (x.k == 4) = true := by simpa using h4
                  by_cases a7 : pl = 0
                  · have HF := Lib.hid (HBad.out fun hs => (hs.2.2.2.2.2.1 h4).1 (by rw [HJ.out, HPL.out]; exact a7))
                    subst a7
                    clear h4
                    go_wp2
                    go_quiet (fail)
                    go_wp2
                    go_ret
                    exact ⟨by rw [HF.out]; rfl, HBq.out _⟩
                  · have e8 : ((pl : Int) == 0) = false := by simp; omega
                    have e8' : (pl == 0) = false := by simpa using a7
                    by_cases a8 : x.s < 1
                    · have HF := Lib.hid (HBad.out fun hs => by have := (hs.2.2.2.2.2.1 h4).2.1; omega)
                      have e9 : decide (x.s < 1) = true := by simpa using a8
                      have e9' : decide (x.s ≤ 0) = true := by simp; omega
                      clear a8 h4
                      go_wp2
                      go_quiet (fail)
                      go_wp2
                      go_ret
                      exact ⟨by rw [HF.out]; rfl, HBq.out _⟩
                    · have e9 : decide (x.s < 1) = false := by simpa using a8
                      have e9' : decide (x.s ≤ 0) = false := by simp; omega
                      have hs1 : (x.s == 0) = false := by simp; omega
                      obtain ⟨bA, oA, v, rfl, _, HV, cv, v1, v2⟩ := (h.below HB1.out).at_ hjn
                      obtain ⟨rr, hrr⟩ : ∃ z, v.tmod x.s = z := ⟨_, rfl⟩
                      have hxd : xs.getD x.m.toNat 0 = v := by rw [HJ.out, Int.toNat_natCast]; exact getD_of HV.out
                      by_cases a9 : rr = 0
                      · have e10 : (rr != 0) = false := by simpa using a9
                        have HG := Lib.hid (HGood.out ⟨by rw [HJ.out]; omega, by rw [HJ.out, HN.out]; omega, HKR.out.1, HKR.out.2, HPK.out, fun _ => ⟨by rw [HJ.out, HPL.out]; exact a7, by omega, by rw [hxd, hrr]; exact a9⟩, fun h => absurd h4 h⟩)
                        have HQs := HQS.out h4
                        clear a7 a9 h4 hxd HV
                        go_wp2
                        go_quiet (fail)
                        go_wp2
                        go_roundw
                        case rel => exact ⟨k + 1, by omega, by go_num, HG, (HQs _).1, (HQs _).2, (HBq.out _).setCell (by show w.heap.size ≤ w.heap.size + 1; omega) _⟩
                        case measure => simp [intOf]; omega
                      · have e10 : (rr != 0) = true := by simpa using a9
                        have HF := Lib.hid (HBad.out fun hs => a9 (by rw [← hrr, ← hxd]; exact (hs.2.2.2.2.2.1 h4).2.2))
                        clear a7 a9 h4 hxd HV
                        go_wp2
                        go_quiet (fail)
                        go_wp2
                        go_ret
                        exact ⟨by rw [HF.out]; rfl, HBq.out _⟩
                · have e7 : (x.k == 4) = false := by simpa using h4
                  by_cases a6 : x.s = 0
                  · have e8 : (x.s != 0) = false := by simpa using a6
                    have HG := Lib.hid (HGood.out ⟨by rw [HJ.out]; omega, by rw [HJ.out, HN.out]; omega, HKR.out.1, HKR.out.2, HPK.out, fun h => absurd h h4, fun _ => a6⟩)
                    have HPs := HPS.out h4
                    clear a6 h4
                    go_wp2
                    go_roundw
                    case rel => exact ⟨k + 1, by omega, by go_num, HG, HPs.1, HPs.2, HB1.out.setCell (Nat.le_refl _) _⟩
                    case measure => simp [intOf]; omega
                  · have HF := Lib.hid (HBad.out fun hs => a6 (hs.2.2.2.2.2.2 h4))
                    have e8 : (x.s != 0) = true := by simpa using a6
                    clear a6 h4
                    go_wp2
                    go_ret
                    exact ⟨by rw [HF.out]; rfl, HB1.out⟩
      · obtain rfl : k = m := by omega
        have htk : fs.take k = fs := List.take_of_length_le (by rw [HM.out]; omega)
        rw [htk] at HP HQ
        have HAll : Hid (∀ i s, fs[i]? = some s → IsStep xs (fs.take i) s) := fun i s hs => HA.out i s (by have := (List.getElem?_eq_some_iff.1 hs).1; rw [HM.out] at this; exact this) hs
        clear HA htk
        obtain ⟨wo, rfl⟩ : ∃ wo : World, wo = wr := ⟨_, rfl⟩
        go_wp2
        go_loopw [120] (fun i wr => ∃ q : Nat, q ≤ n ∧ i = .int .i64 q ∧ wr = wo ∧ Hid (∀ j : Nat, j < q → plN fs j = 1 ∧ blN fs j ≤ 1)) (fun i _ => n - (intOf i).toNat)
        case atStart => exact ⟨0, Nat.zero_le _, rfl, rfl, fun j hj => absurd hj (by omega)⟩
        case round =>
          obtain ⟨q, hq, rfl, hwr, HA⟩ := hrel
          subst hwr
          by_cases hqn : q < n
          · obtain ⟨a, ha⟩ : ∃ z, plN fs (q : Int) = z := ⟨_, rfl⟩
            obtain ⟨b, hb⟩ : ∃ z, blN fs (q : Int) = z := ⟨_, rfl⟩
            have hv1 := (vblk_cell HP.out (nC_at (plN fs) hqn)).1
            have hv2 := (vblk_cell HQ.out (nC_at (blN fs) hqn)).1
            rw [ha] at hv1
            rw [hb] at hv2
            have HBad : Hid (¬ (a = 1 ∧ b ≤ 1) → FB = false) := fun hn => HFB.out.symm.trans (pB_f fun hp => hn (by have := hp.2.2 q (by rw [HN.out]; exact hqn); rw [ha, hb] at this; exact this))
            have HGd : Hid (a = 1 ∧ b ≤ 1 → ∀ j : Nat, j < q + 1 → plN fs j = 1 ∧ blN fs j ≤ 1) := fun hg j hj => by
              rcases Nat.lt_or_ge j q with hh | hh
              · exact HA.out j hh
              · obtain rfl : j = q := by omega
                rw [ha, hb]; exact hg
            clear ha hb HA
            by_cases a1 : a = 1
            · have e2 : ((a : Int) != 1) = false := by simp; omega
              have e2' : (a != 1) = false := by simpa using a1
              by_cases a2 : b ≤ 1
              · have e3 : decide (1 < (b : Int)) = false := by simp; omega
                have e3' : decide (1 < b) = false := by simpa using a2
                have HG := Lib.hid (HGd.out ⟨a1, a2⟩)
                clear a1 a2
                go_wp2
                go_roundw
                case rel => exact ⟨q + 1, by omega, by go_num, by first | trivial | rfl, HG⟩
                case measure => simp [intOf]; omega
              · have e3 : decide (1 < (b : Int)) = true := by simp; omega
                have e3' : decide (1 < b) = true := by simp; omega
                have HF := Lib.hid (HBad.out fun hh => a2 hh.2)
                clear a1 a2
                go_wp2
                go_ret
                exact ⟨by rw [HF.out]; rfl, HB.out⟩
            · have e2 : ((a : Int) != 1) = true := bne_iff_ne.2 (by omega)
              have e2' : (a != 1) = true := bne_iff_ne.2 a1
              have HF := Lib.hid (HBad.out fun hh => a1 hh.1)
              clear a1
              go_wp2
              go_ret
              exact ⟨by rw [HF.out]; rfl, HB.out⟩
          · have HF : Hid (FB = true) := HFB.out.symm.trans (pB_t ⟨HLE.out, HAll.out, fun j hj => HA.out j (by have := HN.out; omega)⟩)
            go_wp2
            go_ret
            exact ⟨by rw [HF.out]; rfl, HB.out⟩
end Go.Proofs.Yteepiifhmbcciaa
/- The document's Form and Sizes. -/
namespace Go.Proofs.Yteepiifhmbcciaa
open Go.RowKit

theorem sizesE_cells {xs : List Int} {fs : List Sp} (h : (cellsF xs).2 ≠ 0) : sizesE xs fs = (cellsF xs).2 := by unfold sizesE; rw [if_pos h]
theorem sizesE_no {xs : List Int} {fs : List Sp} (h : (cellsF xs).2 = 0) (h1 : formB xs fs = false) : sizesE xs fs = 4 := by unfold sizesE; rw [h, h1]; rfl
set_option maxRecDepth 100000 in
set_option maxHeartbeats 4000000 in
theorem refForm5_any (A : Option Addr) (n c : Nat) (xs : List Int) (Bf : Option Addr) (m e : Nat) (fs : List Sp) (w : World) (h : Ints w w.heap.size A n xs) (hn : n ≤ 100000) (hf : Specs w w.heap.size Bf m fs) (hm : m ≤ 100000) :
    Calls Try.prog 54 #[.slice A n c, .slice Bf m e] w (IntPost (sizesE xs fs) w) := by
  have HC := refCells_any A n c xs w w.heap.size h (by omega)
  obtain ⟨c1, hc1⟩ : ∃ z, (cellsF xs).1 = z := ⟨_, rfl⟩
  obtain ⟨c2, hc2⟩ : ∃ z, (cellsF xs).2 = z := ⟨_, rfl⟩
  rw [hc1, hc2] at HC
  have HM := Lib.hid hf.1
  by_cases k0 : c2 = 0
  · have h0 : (cellsF xs).2 = 0 := hc2.trans k0
    subst k0
    have HI := refIs_any A n c xs Bf m e fs w h hn hf hm
    by_cases k1 : formB xs fs = true
    · rw [k1] at HI
      have hok : formOK xs fs := Classical.byContradiction fun hc => by rw [formB_no hc] at k1; cases k1
      have HSZ : Hid (∀ W, Below w.heap.size w W → Calls Try.prog 55 #[.slice A n c, .slice Bf m e] W fun r w' => ∃ A' c', r = .returned (.slice A' m c') ∧ OwnI w' W.heap.size 3 A' c' (sizesL xs fs) ∧ Below W.heap.size W w') := fun W hW => refSizesL_any A n c xs Bf m e fs W ((h.below hW).more hW.size) hn ((hf.on hW (Nat.le_refl _)).more hW.size) hm h0 hok
      have HL : Hid ((sizesL xs fs).length = m) := (sizesL_length xs fs).trans hf.1
      have HSm : Hid ((∀ k, k < fs.length → szAt xs fs k ≤ 2147483648) → sizesE xs fs = 0) := fun hh => sizes_small h0 k1 hh
      have HLg : Hid (∀ k, k < fs.length → 2147483648 < szAt xs fs k → sizesE xs fs = 2) := fun k hk hh => sizes_large h0 k1 hk hh
      obtain ⟨E, hE⟩ : ∃ E, Hid (sizesE xs fs = E) := ⟨_, Lib.hid rfl⟩
      rw [hE.out]
      clear k1 hok h0 hc1 hc2
      go_enter Try.func54, Try.ntmps54
      go_wp2_with (first | (go_at_call 64; refine HC.mono ?_; rintro e w' ⟨rfl, rfl⟩) | (go_at_call 78; refine HI.mono ?_; rintro e wa ⟨rfl, hba⟩; have HBA := Lib.hid hba; clear hba) | (go_at_call 55; refine (HSZ.out _ HBA.out).mono ?_; rintro e wb ⟨A', c', rfl, hO, hbb⟩; have HO := Lib.hid hO; have HBB := Lib.hid (HBA.out.trans (hbb.mono HBA.out.size)); clear hO hbb))
      obtain ⟨wo, rfl⟩ : ∃ wo : World, wo = wb := ⟨_, rfl⟩
      go_loopw [25] (fun i wr => ∃ k : Nat, k ≤ m ∧ i = .int .i64 k ∧ wr = wo ∧ Hid (∀ j, j < k → szAt xs fs j ≤ 2147483648)) (fun i _ => m - (intOf i).toNat)
      case atStart => exact ⟨0, Nat.zero_le _, rfl, rfl, fun j hj => absurd hj (by omega)⟩
      case round =>
        obtain ⟨k, hk, rfl, hwr, HS⟩ := hrel
        subst hwr
        by_cases hlt : k < m
        · have hi := HO.out.ints
          rw [HL.out] at hi
          obtain ⟨b, off, x, rfl, hbl, HX, c0, x1, x2⟩ := hi.at_ hlt
          have hkm : k < fs.length := by rw [HM.out]; exact hlt
          have hxs : x = szAt xs fs k := by
            have := HX.out
            unfold sizesL at this
            rw [List.getElem?_map, List.getElem?_range hkm] at this
            simpa using this.symm
          have HX2 := Lib.hid hxs
          clear hxs hi
          by_cases hbig : 2147483648 < x
          · have e2 : decide (2147483648 < x) = true := by simpa using hbig
            have HF : Hid (E = 2) := hE.out.symm.trans (HLg.out k hkm (by rw [← HX2.out]; exact hbig))
            clear hbig hkm
            go_wp2
            go_ret
            exact ⟨by rw [HF.out]; rfl, HBB.out⟩
          · have e2 : decide (2147483648 < x) = false := by simpa using hbig
            have HS2 : Hid (∀ j, j < k + 1 → szAt xs fs j ≤ 2147483648) := fun j hj => by
              rcases Nat.lt_or_ge j k with hh | hh
              · exact HS.out j hh
              · obtain rfl : j = k := by omega
                rw [← HX2.out]; omega
            clear hbig hkm
            go_wp2
            go_roundw
            case rel => exact ⟨k + 1, by omega, by go_num, by first | trivial | rfl, HS2⟩
            case measure => simp [intOf]; omega
        · have HF : Hid (E = 0) := hE.out.symm.trans (HSm.out fun j hj => HS.out j (by rw [HM.out] at hj; omega))
          go_wp2
          go_ret
          exact ⟨by rw [HF.out]; rfl, HBB.out⟩
    · have k1' : formB xs fs = false := by simpa using k1
      rw [k1'] at HI
      have HE : Hid (sizesE xs fs = 4) := sizesE_no h0 k1'
      rw [HE.out]
      clear k1 k1' hc1 hc2 h0
      go_enter Try.func54, Try.ntmps54
      go_wp2_with (first | (go_at_call 64; refine HC.mono ?_; rintro e w' ⟨rfl, rfl⟩) | (go_at_call 78; refine HI.mono ?_; rintro e wa ⟨rfl, hba⟩))
      go_ret
      exact ⟨rfl, by assumption⟩
  · have HE : Hid (sizesE xs fs = c2) := by unfold Hid; rw [sizesE_cells (by rw [hc2]; exact k0), hc2]
    rw [HE.out]
    have e1 : (c2 != 0) = true := by simpa using k0
    clear k0 hc1 hc2
    go_enter Try.func54, Try.ntmps54
    go_wp2_with (go_at_call 64; refine HC.mono ?_; rintro e w' ⟨rfl, rfl⟩)
    go_ret
    exact ⟨rfl, Below.refl _ _⟩
def RSizesPost (w : World) (xs : List Int) (fs : List Sp) (m : Nat) (e : Ending) (w' : World) : Prop :=
  Below w.heap.size w w' ∧ ((sizesE xs fs ≠ 0 ∧ e = .returned (.tuple #[.slice none 0 0, .int .i64 (sizesE xs fs)])) ∨ (sizesE xs fs = 0 ∧ ∃ A' c', e = .returned (.tuple #[.slice A' m c', .int .i64 0]) ∧ OwnI w' w.heap.size 3 A' c' (sizesL xs fs)))
set_option maxRecDepth 100000 in
set_option maxHeartbeats 2000000 in
theorem refSizes5_any (A : Option Addr) (n c : Nat) (xs : List Int) (Bf : Option Addr) (m e : Nat) (fs : List Sp) (w : World) (h : Ints w w.heap.size A n xs) (hn : n ≤ 100000) (hf : Specs w w.heap.size Bf m fs) (hm : m ≤ 100000) :
    Calls Try.prog 26 #[.slice A n c, .slice Bf m e] w (RSizesPost w xs fs m) := by
  have HF := refForm5_any A n c xs Bf m e fs w h hn hf hm
  by_cases k0 : sizesE xs fs = 0
  · have hp := sizesE_parts k0
    have HSZ : Hid (∀ W, Below w.heap.size w W → Calls Try.prog 55 #[.slice A n c, .slice Bf m e] W fun r w' => ∃ A' c', r = .returned (.slice A' m c') ∧ OwnI w' W.heap.size 3 A' c' (sizesL xs fs) ∧ Below W.heap.size W w') := fun W hW => refSizesL_any A n c xs Bf m e fs W ((h.below hW).more hW.size) hn ((hf.on hW (Nat.le_refl _)).more hW.size) hm hp.1 hp.2.1
    rw [k0] at HF
    have HE := Lib.hid k0
    clear k0 hp
    go_enter Try.func26, Try.ntmps26
    go_wp2_with fail
    refine HF.mono ?_
    rintro e wa ⟨rfl, hba⟩
    have HBA := Lib.hid hba
    clear hba
    go_wp2_with (go_at_call 55; refine (HSZ.out _ HBA.out).mono ?_; rintro e wb ⟨A', c', rfl, hO, hbb⟩; have HO := Lib.hid hO; have HBB := Lib.hid (HBA.out.trans (hbb.mono HBA.out.size)); clear hO hbb)
    go_ret2
    exact ⟨HBB.out, .inr ⟨HE.out, A', c', rfl, HO.out.mono HBA.out.size⟩⟩
  · obtain ⟨E, hE⟩ : ∃ E, sizesE xs fs = E := ⟨_, rfl⟩
    rw [hE] at HF k0
    have HE : Hid (sizesE xs fs = E ∧ E ≠ 0) := ⟨hE, k0⟩
    have e1 : (E != 0) = true := by simpa using k0
    clear k0 hE
    go_enter Try.func26, Try.ntmps26
    go_wp2_with fail
    refine HF.mono ?_
    rintro e wa ⟨rfl, hba⟩
    have HBA := Lib.hid hba
    clear hba
    go_wp2_with fail
    go_ret2
    exact ⟨HBA.out, .inl ⟨by rw [HE.out.1]; exact HE.out.2, by rw [HE.out.1]; rfl⟩⟩
end Go.Proofs.Yteepiifhmbcciaa
/- store.Empty: whether all numbers are 0. -/
namespace Go.Proofs.Yteepiifhmbcciaa
open Go.RowKit

def nzB (y : Int) : Bool := y != 0
set_option maxRecDepth 100000 in
theorem emptyClo_any (y : Int) (w : World) : Calls Try.prog 52 #[.int .i64 y] w fun e w' => e = .returned (.bool (nzB y)) ∧ w = w' := by
  by_cases h : y = 0
  · subst h
    go_enter Try.func52, Try.ntmps52
    go_wp2
    go_ret
    exact ⟨rfl, rfl⟩
  · have e1 : (y != 0) = true := by simpa using h
    have e2 : nzB y = true := e1
    rw [e2]
    clear h e2
    go_enter Try.func52, Try.ntmps52
    go_wp2
    go_ret
    exact ⟨rfl, rfl⟩
set_option maxRecDepth 100000 in
theorem indexNz_any (A : Option Addr) (n c : Nat) (zs : List Int) (w : World) (h : Ints w w.heap.size A n zs) (hn : n ≤ 100000) :
    Calls Try.prog 77 #[.slice A n c, .func (.func 52) #[] #[]] w fun x w' => ∃ r : Int, x = .returned (.int .i64 r) ∧ decide (0 ≤ r) = zs.any nzB ∧ Below w.heap.size w w' := by
  have HL : Hid (zs.length = n) := h.1
  go_enter Try.func77, Try.ntmps77
  go_wp2
  go_loopw [8] (fun i wr => ∃ k : Nat, k ≤ n ∧ i = .int .i64 k ∧ Hid ((zs.take k).any nzB = false) ∧ Below w.heap.size w wr) (fun i _ => n - (intOf i).toNat)
  case atStart => exact ⟨0, Nat.zero_le _, rfl, by unfold Hid; simp, Below.refl _ _⟩
  case round =>
    obtain ⟨k, hk, rfl, HK, hb⟩ := hrel
    by_cases hlt : k < n
    · obtain ⟨b, off, y, rfl, _, HX, hc, hx1, hx2⟩ := (h.below hb).at_ hlt
      have HC := emptyClo_any y wr
      by_cases ho : nzB y = true
      · rw [ho] at HC
        have HF : Hid (zs.any nzB = true) := any_hit HX.out ho
        clear ho
        go_wp2_with (go_at_call 52; refine HC.mono ?_; rintro x w1 ⟨rfl, rfl⟩)
        go_ret
        exact ⟨k, rfl, by rw [HF.out]; simp, hb⟩
      · have ho' : nzB y = false := by simpa using ho
        rw [ho'] at HC
        have HN : Hid ((zs.take (k + 1)).any nzB = false) := any_miss HK.out HX.out ho'
        clear ho ho'
        go_wp2_with (go_at_call 52; refine HC.mono ?_; rintro x w1 ⟨rfl, rfl⟩)
        go_roundw
        case rel => exact ⟨k + 1, by omega, by go_num, HN, hb⟩
        case measure => simp [intOf]; omega
    · have HF : Hid (zs.any nzB = false) := any_all HK.out HL.out (by omega)
      go_wp2
      go_ret
      exact ⟨-1, rfl, by rw [HF.out]; rfl, hb⟩
set_option maxRecDepth 100000 in
theorem containsNz_any (A : Option Addr) (n c : Nat) (zs : List Int) (w : World) (h : Ints w w.heap.size A n zs) (hn : n ≤ 100000) :
    Calls Try.prog 51 #[.slice A n c, .func (.func 52) #[] #[]] w fun x w' => x = .returned (.bool (zs.any nzB)) ∧ Below w.heap.size w w' := by
  have HC := indexNz_any A n c zs w h hn
  obtain ⟨R, hR⟩ : ∃ R, zs.any nzB = R := ⟨_, rfl⟩
  rw [hR] at HC ⊢
  clear hR
  go_enter Try.func51, Try.ntmps51
  go_wp2_with (go_at_call 77; refine HC.mono ?_; rintro x w1 ⟨r, rfl, hr, hb1⟩; have HR := Lib.hid hr; clear hr)
  go_ret
  exact ⟨ret_of (by rw [← HR.out]; rfl), hb1⟩
def EmptyPost (w : World) (t : Ten) (e : Ending) (w' : World) : Prop :=
  Below w.heap.size w w' ∧ ((tenE t ≠ 0 ∧ e = .returned (.tuple #[.bool false, .int .i64 (tenE t)])) ∨ (tenE t = 0 ∧ e = .returned (.tuple #[.bool (!(t.vs.any nzB)), .int .i64 0])))
set_option maxRecDepth 100000 in
set_option maxHeartbeats 1000000 in
theorem stEmpty_any (t : Ten) (w : World) (ht : t.In w w.heap.size) :
    Calls Try.prog 19 #[t.val] w (EmptyPost w t) := by
  have HI := Lib.hid ht
  obtain ⟨W0, hW0⟩ : ∃ W, w.alloc t.obj = W := ⟨_, rfl⟩
  have HB0 : Hid (Below w.heap.size w W0) := by rw [← hW0]; exact lvBelow w _
  have HX0 : Hid (W0.heap[w.heap.size]? = some t.obj) := by rw [← hW0]; exact heap_alloc_new w _
  have HCK := stCheck_any t W0 (ht.on HB0.out)
  obtain ⟨k0, k1, k2, k3, _⟩ := lvCells HX0.out
  obtain ⟨E, hEE⟩ : ∃ E, tenE t = E := ⟨_, rfl⟩
  rw [hEE] at HCK
  have HEE := Lib.hid hEE
  clear hEE ht
  by_cases hE : E = 0
  · subst hE
    obtain ⟨R, hR⟩ : ∃ R, t.vs.any nzB = R := ⟨_, rfl⟩
    have HR := Lib.hid hR
    clear hR
    go_enter Try.func19, Try.ntmps19
    go_wp2_with fail
    try rw [hW0]
    refine HCK.mono ?_
    rintro e w1 ⟨rfl, hb1⟩
    obtain ⟨k0, k1, k2, k3, _⟩ := lvCells (keep_b hb1 HX0.out)
    have HB1 := Lib.hid (HB0.out.trans (hb1.mono HB0.out.size))
    have hC := containsNz_any t.V t.vn t.vc t.vs w1 (HI.out.on HB1.out).vals HI.out.v1
    rw [HR.out] at hC
    clear hb1 hW0
    go_wp2_with fail
    refine hC.mono ?_
    rintro e w2 ⟨rfl, hb2⟩
    have HB2 := Lib.hid (HB1.out.trans (hb2.mono HB1.out.size))
    clear hb2 k0 k1 k2 k3
    go_wp2_with fail
    go_ret2
    exact ⟨HB2.out, .inr ⟨HEE.out, by rw [HR.out]; rfl⟩⟩
  · have e1 : (E != 0) = true := by simpa using hE
    have HNE := Lib.hid hE
    clear hE
    go_enter Try.func19, Try.ntmps19
    go_wp2_with fail
    try rw [hW0]
    refine HCK.mono ?_
    rintro e w1 ⟨rfl, hb1⟩
    have HB1 := Lib.hid (HB0.out.trans (hb1.mono HB0.out.size))
    clear hb1 k0 k1 k2 k3 hW0
    go_wp2_with fail
    go_ret2
    exact ⟨HB1.out, .inl ⟨by rw [HEE.out]; exact HNE.out, by rw [HEE.out]; rfl⟩⟩
end Go.Proofs.Yteepiifhmbcciaa
