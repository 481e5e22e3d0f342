/- store.Sizes: how many places each level of a form has. -/
import Derived.Test.YteepiifhmbcciaaG5
import Derived.Test.YteepiifhmbcciaaG4
namespace Go.Proofs.Yteepiifhmbcciaa
open Go.RowKit

theorem stepK_pos {xs : List Int} {fs : List Sp} (h : formOK xs fs) (k : Nat) (hk : k ≤ fs.length) : ∀ i, i < k → ∃ t : Int, (stepK fs k)[i]? = some t ∧ 1 ≤ t := by
  induction k with
  | zero => intro i hi; omega
  | succ k ih =>
    intro i hi
    have hx := List.getElem?_eq_getElem (l := fs) (i := k) (by omega)
    obtain ⟨x, hx⟩ : ∃ x, fs[k]? = some x := ⟨_, hx⟩
    have hl := stepK_length fs k
    have h1 : ∃ t : Int, ((stepK fs k).set k 1)[i]? = some t ∧ 1 ≤ t := by
      by_cases e : i = k
      · subst e
        exact ⟨1, List.getElem?_set_self (by omega), by omega⟩
      · rw [List.getElem?_set_ne (by omega)]
        exact ih (by omega) i (by omega)
    rw [stepK, hx]
    simp only
    split
    · next h4 =>
      have hs := (h.1 k x hx).2.2.2
      have h5 : 1 ≤ x.s := by
        rcases hs with hh | hh
        · exact absurd h4 hh.2.1
        · exact hh.2.2.1
      by_cases e : i = (idxM fs x.m).toNat
      · subst e
        exact ⟨x.s, List.getElem?_set_self (by rw [List.length_set]; omega), h5⟩
      · rw [List.getElem?_set_ne (by omega)]
        exact h1
    · exact h1
/-- how many places level i has -/
noncomputable def szAt (xs : List Int) (fs : List Sp) (i : Nat) : Int :=
  match fs[i]? with
  | some s => if s.k = 4 then s.s else Int.tdiv (xs.getD s.m.toNat 0) ((stepK fs fs.length).getD i 0)
  | none => 0
noncomputable def sizesL (xs : List Int) (fs : List Sp) : List Int := (List.range fs.length).map (szAt xs fs)
noncomputable def sizesE (xs : List Int) (fs : List Sp) : Int :=
  if (cellsF xs).2 ≠ 0 then (cellsF xs).2 else if formB xs fs = true then if (sizesL xs fs).any (fun s => decide (2147483648 < s)) = true then 2 else 0 else 4
def SizesPost (w : World) (xs : List Int) (fs : List Sp) (n : Nat) (e : Ending) (w' : World) : Prop :=
  Below w.heap.size w w' ∧ ((sizesE xs fs ≠ 0 ∧ e = .returned (.tuple #[.slice none 0 0, .int .i64 (sizesE xs fs)])) ∨ (sizesE xs fs = 0 ∧ ∃ g, w.heap.size ≤ g ∧ e = .returned (.tuple #[.slice (some ⟨g, 0, none⟩) n n, .int .i64 0]) ∧ w'.heap[g]? = some (.cells (stC (sizesL xs fs)).toArray 3 (0, 0))))
theorem cellsF_nonneg {xs : List Int} (h : (cellsF xs).2 = 0) : ∀ x ∈ xs, 0 ≤ x := by
  intro x hx
  unfold cellsF at h
  split at h
  · simp at h
  · next hn =>
    simp only [not_or, List.any_eq_true, not_exists, not_and] at hn
    have := hn.2 x hx
    simpa using this
/-- the sizes of the first k levels -/
noncomputable def szK (xs : List Int) (fs : List Sp) (k : Nat) : List Int := (sizesL xs fs).take k ++ List.replicate (fs.length - k) 0
theorem szK_length (xs : List Int) (fs : List Sp) (k : Nat) (hk : k ≤ fs.length) : (szK xs fs k).length = fs.length := by unfold szK sizesL; simp; omega
theorem szK_set {xs : List Int} {fs : List Sp} {k : Nat} (hk : k < fs.length) : (szK xs fs k).set k (szAt xs fs k) = szK xs fs (k + 1) := by
  have hx : (sizesL xs fs)[k]? = some (szAt xs fs k) := by unfold sizesL; rw [List.getElem?_map, List.getElem?_range hk]; rfl
  have hl : (sizesL xs fs).length = fs.length := by unfold sizesL; simp
  unfold szK
  rw [take_succ_of hx, show fs.length - k = (fs.length - (k + 1)) + 1 by omega, List.replicate_succ, List.set_append_right _ _ (by rw [List.length_take]; omega), List.length_take, Nat.min_eq_left (by omega), Nat.sub_self, List.set_cons_zero, List.append_assoc]
  rfl
theorem szK_all (xs : List Int) (fs : List Sp) : szK xs fs fs.length = sizesL xs fs := by
  have hl : (sizesL xs fs).length = fs.length := by unfold sizesL; simp
  unfold szK
  rw [List.take_of_length_le (by omega)]; simp
theorem szK_zero (xs : List Int) (fs : List Sp) {m : Nat} (h : fs.length = m) : stC (szK xs fs 0) = List.replicate m (.int .i64 0) := by
  unfold stC szK; simp [h]
theorem sizes_large {xs : List Int} {fs : List Sp} {k : Nat} (h0 : (cellsF xs).2 = 0) (h1 : formB xs fs = true) (hk : k < fs.length) (h : 2147483648 < szAt xs fs k) : sizesE xs fs = 2 := by
  unfold sizesE
  rw [h0, h1, if_neg (by simp), if_pos rfl, if_pos]
  exact List.any_eq_true.2 ⟨_, List.mem_map.2 ⟨k, List.mem_range.2 hk, rfl⟩, by simpa using h⟩
theorem sizes_small {xs : List Int} {fs : List Sp} (h0 : (cellsF xs).2 = 0) (h1 : formB xs fs = true) (h : ∀ k, k < fs.length → szAt xs fs k ≤ 2147483648) : sizesE xs fs = 0 := by
  unfold sizesE
  rw [h0, h1, if_neg (by simp), if_pos rfl, if_neg]
  intro hc
  obtain ⟨y, hy, hy2⟩ := List.any_eq_true.1 hc
  obtain ⟨i, hi, rfl⟩ := List.mem_map.1 hy
  have := h i (List.mem_range.1 hi)
  simp at hy2
  omega
set_option maxRecDepth 100000 in
set_option maxHeartbeats 8000000 in
theorem sizes_any (A : Option Addr) (n c : Nat) (xs : List Int) (Bf : Option Addr) (m e : Nat) (fs : List Sp) (w : World) (h : Ints w w.heap.size A n xs) (hn : n ≤ 100000) (hf : Specs w w.heap.size Bf m fs) (hm : m ≤ 100000) (he : m ≤ e) :
    Calls Try.prog 47 #[.slice A n c, .slice Bf m e] w (SizesPost w xs fs m) := by
  have HN : Hid (xs.length = n) := h.1
  have HM : Hid (fs.length = m) := hf.1
  have HC := cells_any A n c xs w w.heap.size h (by omega)
  obtain ⟨c1, hc1⟩ : ∃ z, (cellsF xs).1 = z := ⟨_, rfl⟩
  obtain ⟨c2, hc2⟩ : ∃ z, (cellsF xs).2 = z := ⟨_, rfl⟩
  rw [hc1, hc2] at HC
  by_cases k0 : c2 = 0
  · have HC0 : Hid ((cellsF xs).2 = 0) := hc2.trans k0
    subst k0
    have HI := isForm_any A n c xs Bf m e fs w h hn hf (by omega) he
    by_cases k1 : formB xs fs = true
    · rw [k1] at HI
      have HF : Hid (formOK xs fs) := Classical.byContradiction fun hc => by rw [formB_no hc] at k1; cases k1
      have HB0 : Hid (formB xs fs = true) := k1
      clear k1 hc1 hc2
      go_enter Try.func47, Try.ntmps47
      have hmk := fun W => vrun_make m hm W
      rw [← szK_zero xs fs HM.out] at hmk
      go_wp2_with (first | (go_at_call 67; refine HC.mono ?_; rintro e w' ⟨rfl, rfl⟩) | (go_at_call 71; refine HI.mono ?_; rintro e wa ⟨rfl, hba⟩))
      have HBA := Lib.hid hba
      have HS : Hid (∀ W, Below wa.heap.size wa W → Calls Try.prog 35 #[.slice Bf m e] W fun r w' => r = .returned (.slice (some ⟨W.heap.size, 0, none⟩) m m) ∧ w'.heap[W.heap.size]? = some (.cells (stC (stepK fs m)).toArray 3 (0, 0)) ∧ Below W.heap.size W w') := by
        intro W hW
        exact steps_any Bf m e fs W ((hf.on (HBA.out.trans (hW.mono HBA.out.size)) (Nat.le_refl _)).more ((HBA.out.trans (hW.mono HBA.out.size)).size)) hm
      clear hba
      go_region_law (go_simp; go_at_call 35; refine (HS.out _ ?b0).mono ?_; (case b0 => first | exact Below.refl _ _ | exact (Below.refl _ _).drew | exact (Below.refl _ _).alloc (Nat.le_refl _) _ | exact ((Below.refl _ _).alloc (Nat.le_refl _) _).drew); rintro e w3 ⟨rfl, hst, hb3⟩)
      · have HG8 : Hid ((w3.alloc (.cells (stC (szK xs fs 0)).toArray 3)).heap[wa.heap.size]? = some (.cells (stC (stepK fs m)).toArray 3 (0, 0))) := (((Below.refl w3.heap.size w3).alloc (Nat.le_refl _) _).block _ (Array.getElem?_eq_some_iff.1 hst).1).trans hst
        have HG9 : Hid ((w3.alloc (.cells (stC (szK xs fs 0)).toArray 3)).heap[w3.heap.size]? = some (.cells (stC (szK xs fs 0)).toArray 3 (0, 0))) := heap_alloc_new _ _
        have hba3 : Below wa.heap.size wa w3 := (Below.refl _ _).drew.trans hb3
        have hg8 : w.heap.size ≤ wa.heap.size := HBA.out.size
        have hg89 : wa.heap.size < w3.heap.size := (Array.getElem?_eq_some_iff.1 hst).1
        have hg9 : w.heap.size ≤ w3.heap.size := by omega
        have HBW : Hid (Below w.heap.size w (w3.alloc (.cells (stC (szK xs fs 0)).toArray 3))) := (HBA.out.trans (hba3.mono HBA.out.size)).alloc hg9 _
        clear hst hb3 hba3
        go_wp2
        clear hmk
        go_loopw [31] (fun i wr => ∃ k : Nat, k ≤ m ∧ i = .int .i64 k ∧ Hid (wr.heap[(wa.heap.size)]? = some (.cells (stC (stepK fs m)).toArray 3 (0, 0))) ∧ Hid (wr.heap[(w3.heap.size)]? = some (.cells (stC (szK xs fs k)).toArray 3 (0, 0))) ∧ Hid (Below w.heap.size w wr) ∧ Hid (∀ i, i < k → szAt xs fs i ≤ 2147483648)) (fun i _ => m - (intOf i).toNat)
        case atStart => exact ⟨0, Nat.zero_le _, rfl, HG8, HG9, HBW, fun i hi => absurd hi (by omega)⟩
        case round =>
          obtain ⟨k, hk, rfl, HK8, HK9, HB, HS9⟩ := hrel
          have hbw : w.heap.size ≤ wr.heap.size := HB.out.size
          have hl8 := (Array.getElem?_eq_some_iff.1 HK8.out).1
          have hl9 := (Array.getElem?_eq_some_iff.1 HK9.out).1
          by_cases hlt : k < m
          · obtain ⟨b, off, x, rfl, hbl, HX, c0, c1, c2, xo⟩ := (hf.on HB.out (Nat.le_refl _)).at_ hlt
            have hxf := HF.out.1 k x HX.out
            obtain ⟨j, hj⟩ : ∃ j : Nat, x.m = (j : Int) := ⟨x.m.toNat, by have := hxf.1; omega⟩
            have hjn : j < n := by have := hxf.2.1; have := HN.out; omega
            rw [hj] at c1
            have HJ := Lib.hid hj
            clear hj
            obtain ⟨t, ht, ht1⟩ := stepK_pos HF.out m (by rw [HM.out]; omega) k hlt
            obtain ⟨w1, hw1⟩ : ∃ w1, wr.alloc (.cells #[.int .i64 x.k, .int .i64 (j : Int), .int .i64 x.s] 60) = w1 := ⟨_, rfl⟩
            have hb : w1.heap[wr.heap.size]? = some (.cells #[.int .i64 x.k, .int .i64 (j : Int), .int .i64 x.s] 60 (0, 0)) := by rw [← hw1]; exact heap_alloc_new _ _
            have HB1 : Hid (Below w.heap.size w w1) := by unfold Hid; rw [← hw1]; exact HB.out.alloc hbw _
            have hbr : Below wr.heap.size wr w1 := by rw [← hw1]; exact (Below.refl wr.heap.size wr).alloc (Nat.le_refl _) _
            have h81 := (hbr.block _ hl8).trans HK8.out
            have h91 := (hbr.block _ hl9).trans HK9.out
            obtain ⟨v0, hv0⟩ : ∃ v, (stC (szK xs fs k))[k]? = some v := ⟨_, List.getElem?_eq_getElem (by unfold stC; rw [List.length_map, szK_length _ _ _ (by rw [HM.out]; omega), HM.out]; omega)⟩
            obtain ⟨s0, s1⟩ := vblk_cell h91 hv0
            have p2 := cell_of_row _ _ 2 _ _ _ hb
            obtain ⟨w2, hw2⟩ : ∃ w2, w1.setCell ⟨(w3.heap.size), k, none⟩ (.int .i64 x.s) = w2 := ⟨_, rfl⟩
            have h82 : w2.heap[(wa.heap.size)]? = some (.cells (stC (stepK fs m)).toArray 3 (0, 0)) := by rw [← hw2, Below.heap_setCell _ _ _ _ (by show (wa.heap.size) ≠ (w3.heap.size); omega)]; exact h81
            have h92 : w2.heap[(w3.heap.size)]? = some (.cells ((stC (szK xs fs k)).set k (.int .i64 x.s)).toArray 3 (0, 0)) := by rw [← hw2, vblk_set h91]
            have hb2 : w2.heap[wr.heap.size]? = some (.cells #[.int .i64 x.k, .int .i64 (j : Int), .int .i64 x.s] 60 (0, 0)) := by rw [← hw2, Below.heap_setCell _ _ _ _ (by show wr.heap.size ≠ (w3.heap.size); omega)]; exact hb
            have HB2 : Hid (Below w.heap.size w w2) := by unfold Hid; rw [← hw2]; exact HB1.out.setCell (by show w.heap.size ≤ (w3.heap.size); omega) _
            have q0 := cell_of_row _ _ 0 _ _ _ hb2
            have q1 := cell_of_row _ _ 1 _ _ _ hb2
            have q2 := cell_of_row _ _ 2 _ _ _ hb2
            obtain ⟨y0, y1⟩ := vblk_cell h92 (i := k) (v := .int .i64 x.s) (List.getElem?_set_self (by have := (List.getElem?_eq_some_iff.1 hv0).1; exact this))
            have y8 := (vblk_cell h82 (i := k) (v := .int .i64 t) (by unfold stC; rw [List.getElem?_map, ht]; rfl)).1
            have HP := Lib.hid (And.intro h82 h92)
            have hkm : k < fs.length := by rw [HM.out]; exact hlt
            clear h81 h91 hbr hb hb2 HB
            by_cases hx : x.k = 4
            · have e1 : (x.k != 4) = false := by simpa using hx
              have HZ : Hid (szAt xs fs k = x.s) := by unfold Hid szAt; rw [HX.out]; simp only [hx, if_true]
              have HW : Hid (w2.heap[(w3.heap.size)]? = some (.cells (stC (szK xs fs (k + 1))).toArray 3 (0, 0))) := by unfold Hid; rw [HP.out.2, stC_set, ← HZ.out, szK_set hkm]
              clear hx hxf h82 h92 ht hv0
              by_cases hbig : 2147483648 < x.s
              · have e2 : decide (2147483648 < x.s) = true := by simpa using hbig
                have HE : Hid (sizesE xs fs = 2) := sizes_large HC0.out HB0.out hkm (by rw [HZ.out]; exact hbig)
                clear hbig
                go_wp2
                go_ret2
                exact ⟨HB2.out, .inl ⟨by rw [HE.out]; omega, by rw [HE.out]; rfl⟩⟩
              · have e2 : decide (2147483648 < x.s) = false := by simpa using hbig
                have HS9' : Hid (∀ i, i < k + 1 → szAt xs fs i ≤ 2147483648) := fun i hi => by
                  rcases Nat.lt_or_ge i k with h | h
                  · exact HS9.out i h
                  · obtain rfl : i = k := by omega
                    rw [HZ.out]; omega
                clear hbig
                go_wp2
                go_roundw
                case rel => exact ⟨k + 1, by omega, by go_num, HP.out.1, HW, HB2, HS9'⟩
                case measure => simp [intOf]; omega
            · have e1 : (x.k != 4) = true := by simpa using hx
              obtain ⟨bA, oA, v, rfl, _, HV, cv, v1, v2⟩ := (h.below HB2.out).at_ hjn
              have hv0' : 0 ≤ v := cellsF_nonneg HC0.out v (List.mem_of_getElem? HV.out)
              obtain ⟨q, hq⟩ : ∃ q, v.tdiv t = q := ⟨_, rfl⟩
              have hq0 : 0 ≤ q ∧ q ≤ v := by rw [← hq]; exact ⟨Int.tdiv_nonneg hv0' (by omega), Int.tdiv_le_self _ hv0'⟩
              have hqw : IntKind.i64.wrap (v.tdiv t) = q := by
                rw [hq]
                have h := IntWalk.wrap64_in q ⟨by omega, by omega⟩
                first | exact h | (rw [wrap_eq]; exact h)
              have et : (t == 0) = false := by simp; omega
              have HZ : Hid (szAt xs fs k = q) := by
                unfold Hid szAt
                rw [HX.out]
                simp only [hx, if_false]
                rw [HJ.out, Int.toNat_natCast, List.getD_eq_getElem?_getD, HV.out, HM.out, List.getD_eq_getElem?_getD, ht]
                exact hq
              obtain ⟨w4, hw4⟩ : ∃ w4, w2.setCell ⟨(w3.heap.size), k, none⟩ (.int .i64 q) = w4 := ⟨_, rfl⟩
              have HW8 : Hid (w4.heap[(wa.heap.size)]? = some (.cells (stC (stepK fs m)).toArray 3 (0, 0))) := by unfold Hid; rw [← hw4, Below.heap_setCell _ _ _ _ (by show (wa.heap.size) ≠ (w3.heap.size); omega)]; exact h82
              have hW9 : w4.heap[(w3.heap.size)]? = some (.cells (((stC (szK xs fs k)).set k (.int .i64 x.s)).set k (.int .i64 q)).toArray 3 (0, 0)) := by rw [← hw4, vblk_set h92]
              have HB4 : Hid (Below w.heap.size w w4) := by unfold Hid; rw [← hw4]; exact HB2.out.setCell (by show w.heap.size ≤ (w3.heap.size); omega) _
              have hW9' : w4.heap[(w3.heap.size)]? = some (.cells (stC (szK xs fs (k + 1))).toArray 3 (0, 0)) := by rw [hW9, List.set_set, stC_set, ← HZ.out, szK_set hkm]
              have y9 := (vblk_cell hW9 (i := k) (v := .int .i64 q) (List.getElem?_set_self (by rw [List.length_set]; have := (List.getElem?_eq_some_iff.1 hv0).1; exact this))).1
              have HW9 := Lib.hid hW9'
              clear hx hxf h82 h92 ht hv0 hW9 hW9' hq hv0'
              by_cases hbig : 2147483648 < q
              · have e2 : decide (2147483648 < q) = true := by simpa using hbig
                have HE : Hid (sizesE xs fs = 2) := sizes_large HC0.out HB0.out hkm (by rw [HZ.out]; exact hbig)
                clear hbig
                go_wp2
                go_region
                all_goals
                  go_wp2
                  go_ret2
                  exact ⟨by first | exact HB4.out | exact HB4.out.drew, .inl ⟨by rw [HE.out]; omega, by rw [HE.out]; rfl⟩⟩
              · have e2 : decide (2147483648 < q) = false := by simpa using hbig
                have HS9' : Hid (∀ i, i < k + 1 → szAt xs fs i ≤ 2147483648) := fun i hi => by
                  rcases Nat.lt_or_ge i k with h | h
                  · exact HS9.out i h
                  · obtain rfl : i = k := by omega
                    rw [HZ.out]; omega
                clear hbig
                go_wp2
                go_region
                all_goals
                  go_wp2
                  go_roundw
                  case rel => exact ⟨k + 1, by omega, by go_num, HW8, HW9, by first | exact HB4 | exact HB4.out.drew, HS9'⟩
                  case measure => simp [intOf]; omega
          · obtain rfl : k = m := by omega
            have HE : Hid (sizesE xs fs = 0) := sizes_small HC0.out HB0.out fun i hi => HS9.out i (by rw [← HM.out]; exact hi)
            have HW : Hid (wr.heap[(w3.heap.size)]? = some (.cells (stC (sizesL xs fs)).toArray 3 (0, 0))) := by unfold Hid; rw [HK9.out, ← szK_all, HM.out]
            go_wp2
            go_ret2
            exact ⟨HB.out, .inr ⟨HE.out, (w3.heap.size), hg9, rfl, HW.out⟩⟩
      · have hsz : (wa.alloc (.cells (stC (szK xs fs 0)).toArray 3)).heap.size = wa.heap.size + 1 := World.size_alloc _ _
        have hst' : w3.heap[(wa.alloc (.cells (stC (szK xs fs 0)).toArray 3)).heap.size]? = some (.cells (stC (stepK fs m)).toArray 3 (0, 0)) := hst
        have hb3' : Below (wa.alloc (.cells (stC (szK xs fs 0)).toArray 3)).heap.size (wa.alloc (.cells (stC (szK xs fs 0)).toArray 3)) w3 := (Below.refl _ _).drew.trans hb3
        rw [hsz] at hst' hb3'
        have HG8 : Hid (w3.heap[wa.heap.size + 1]? = some (.cells (stC (stepK fs m)).toArray 3 (0, 0))) := hst'
        have HG9 : Hid (w3.heap[wa.heap.size]? = some (.cells (stC (szK xs fs 0)).toArray 3 (0, 0))) := (hb3'.block _ (by omega)).trans (heap_alloc_new _ _)
        have hg9 : w.heap.size ≤ wa.heap.size := HBA.out.size
        have hg89 : wa.heap.size < wa.heap.size + 1 := by omega
        have HBW : Hid (Below w.heap.size w w3) := (HBA.out.alloc hg9 _).trans (hb3'.mono (by omega))
        clear hst hb3 hst' hb3' hsz
        go_wp2
        clear hmk
        go_loopw [31] (fun i wr => ∃ k : Nat, k ≤ m ∧ i = .int .i64 k ∧ Hid (wr.heap[(wa.heap.size + 1)]? = some (.cells (stC (stepK fs m)).toArray 3 (0, 0))) ∧ Hid (wr.heap[(wa.heap.size)]? = some (.cells (stC (szK xs fs k)).toArray 3 (0, 0))) ∧ Hid (Below w.heap.size w wr) ∧ Hid (∀ i, i < k → szAt xs fs i ≤ 2147483648)) (fun i _ => m - (intOf i).toNat)
        case atStart => exact ⟨0, Nat.zero_le _, rfl, HG8, HG9, HBW, fun i hi => absurd hi (by omega)⟩
        case round =>
          obtain ⟨k, hk, rfl, HK8, HK9, HB, HS9⟩ := hrel
          have hbw : w.heap.size ≤ wr.heap.size := HB.out.size
          have hl8 := (Array.getElem?_eq_some_iff.1 HK8.out).1
          have hl9 := (Array.getElem?_eq_some_iff.1 HK9.out).1
          by_cases hlt : k < m
          · obtain ⟨b, off, x, rfl, hbl, HX, c0, c1, c2, xo⟩ := (hf.on HB.out (Nat.le_refl _)).at_ hlt
            have hxf := HF.out.1 k x HX.out
            obtain ⟨j, hj⟩ : ∃ j : Nat, x.m = (j : Int) := ⟨x.m.toNat, by have := hxf.1; omega⟩
            have hjn : j < n := by have := hxf.2.1; have := HN.out; omega
            rw [hj] at c1
            have HJ := Lib.hid hj
            clear hj
            obtain ⟨t, ht, ht1⟩ := stepK_pos HF.out m (by rw [HM.out]; omega) k hlt
            obtain ⟨w1, hw1⟩ : ∃ w1, wr.alloc (.cells #[.int .i64 x.k, .int .i64 (j : Int), .int .i64 x.s] 60) = w1 := ⟨_, rfl⟩
            have hb : w1.heap[wr.heap.size]? = some (.cells #[.int .i64 x.k, .int .i64 (j : Int), .int .i64 x.s] 60 (0, 0)) := by rw [← hw1]; exact heap_alloc_new _ _
            have HB1 : Hid (Below w.heap.size w w1) := by unfold Hid; rw [← hw1]; exact HB.out.alloc hbw _
            have hbr : Below wr.heap.size wr w1 := by rw [← hw1]; exact (Below.refl wr.heap.size wr).alloc (Nat.le_refl _) _
            have h81 := (hbr.block _ hl8).trans HK8.out
            have h91 := (hbr.block _ hl9).trans HK9.out
            obtain ⟨v0, hv0⟩ : ∃ v, (stC (szK xs fs k))[k]? = some v := ⟨_, List.getElem?_eq_getElem (by unfold stC; rw [List.length_map, szK_length _ _ _ (by rw [HM.out]; omega), HM.out]; omega)⟩
            obtain ⟨s0, s1⟩ := vblk_cell h91 hv0
            have p2 := cell_of_row _ _ 2 _ _ _ hb
            obtain ⟨w2, hw2⟩ : ∃ w2, w1.setCell ⟨(wa.heap.size), k, none⟩ (.int .i64 x.s) = w2 := ⟨_, rfl⟩
            have h82 : w2.heap[(wa.heap.size + 1)]? = some (.cells (stC (stepK fs m)).toArray 3 (0, 0)) := by rw [← hw2, Below.heap_setCell _ _ _ _ (by show (wa.heap.size + 1) ≠ (wa.heap.size); omega)]; exact h81
            have h92 : w2.heap[(wa.heap.size)]? = some (.cells ((stC (szK xs fs k)).set k (.int .i64 x.s)).toArray 3 (0, 0)) := by rw [← hw2, vblk_set h91]
            have hb2 : w2.heap[wr.heap.size]? = some (.cells #[.int .i64 x.k, .int .i64 (j : Int), .int .i64 x.s] 60 (0, 0)) := by rw [← hw2, Below.heap_setCell _ _ _ _ (by show wr.heap.size ≠ (wa.heap.size); omega)]; exact hb
            have HB2 : Hid (Below w.heap.size w w2) := by unfold Hid; rw [← hw2]; exact HB1.out.setCell (by show w.heap.size ≤ (wa.heap.size); omega) _
            have q0 := cell_of_row _ _ 0 _ _ _ hb2
            have q1 := cell_of_row _ _ 1 _ _ _ hb2
            have q2 := cell_of_row _ _ 2 _ _ _ hb2
            obtain ⟨y0, y1⟩ := vblk_cell h92 (i := k) (v := .int .i64 x.s) (List.getElem?_set_self (by have := (List.getElem?_eq_some_iff.1 hv0).1; exact this))
            have y8 := (vblk_cell h82 (i := k) (v := .int .i64 t) (by unfold stC; rw [List.getElem?_map, ht]; rfl)).1
            have HP := Lib.hid (And.intro h82 h92)
            have hkm : k < fs.length := by rw [HM.out]; exact hlt
            clear h81 h91 hbr hb hb2 HB
            by_cases hx : x.k = 4
            · have e1 : (x.k != 4) = false := by simpa using hx
              have HZ : Hid (szAt xs fs k = x.s) := by unfold Hid szAt; rw [HX.out]; simp only [hx, if_true]
              have HW : Hid (w2.heap[(wa.heap.size)]? = some (.cells (stC (szK xs fs (k + 1))).toArray 3 (0, 0))) := by unfold Hid; rw [HP.out.2, stC_set, ← HZ.out, szK_set hkm]
              clear hx hxf h82 h92 ht hv0
              by_cases hbig : 2147483648 < x.s
              · have e2 : decide (2147483648 < x.s) = true := by simpa using hbig
                have HE : Hid (sizesE xs fs = 2) := sizes_large HC0.out HB0.out hkm (by rw [HZ.out]; exact hbig)
                clear hbig
                go_wp2
                go_ret2
                exact ⟨HB2.out, .inl ⟨by rw [HE.out]; omega, by rw [HE.out]; rfl⟩⟩
              · have e2 : decide (2147483648 < x.s) = false := by simpa using hbig
                have HS9' : Hid (∀ i, i < k + 1 → szAt xs fs i ≤ 2147483648) := fun i hi => by
                  rcases Nat.lt_or_ge i k with h | h
                  · exact HS9.out i h
                  · obtain rfl : i = k := by omega
                    rw [HZ.out]; omega
                clear hbig
                go_wp2
                go_roundw
                case rel => exact ⟨k + 1, by omega, by go_num, HP.out.1, HW, HB2, HS9'⟩
                case measure => simp [intOf]; omega
            · have e1 : (x.k != 4) = true := by simpa using hx
              obtain ⟨bA, oA, v, rfl, _, HV, cv, v1, v2⟩ := (h.below HB2.out).at_ hjn
              have hv0' : 0 ≤ v := cellsF_nonneg HC0.out v (List.mem_of_getElem? HV.out)
              obtain ⟨q, hq⟩ : ∃ q, v.tdiv t = q := ⟨_, rfl⟩
              have hq0 : 0 ≤ q ∧ q ≤ v := by rw [← hq]; exact ⟨Int.tdiv_nonneg hv0' (by omega), Int.tdiv_le_self _ hv0'⟩
              have hqw : IntKind.i64.wrap (v.tdiv t) = q := by
                rw [hq]
                have h := IntWalk.wrap64_in q ⟨by omega, by omega⟩
                first | exact h | (rw [wrap_eq]; exact h)
              have et : (t == 0) = false := by simp; omega
              have HZ : Hid (szAt xs fs k = q) := by
                unfold Hid szAt
                rw [HX.out]
                simp only [hx, if_false]
                rw [HJ.out, Int.toNat_natCast, List.getD_eq_getElem?_getD, HV.out, HM.out, List.getD_eq_getElem?_getD, ht]
                exact hq
              obtain ⟨w4, hw4⟩ : ∃ w4, w2.setCell ⟨(wa.heap.size), k, none⟩ (.int .i64 q) = w4 := ⟨_, rfl⟩
              have HW8 : Hid (w4.heap[(wa.heap.size + 1)]? = some (.cells (stC (stepK fs m)).toArray 3 (0, 0))) := by unfold Hid; rw [← hw4, Below.heap_setCell _ _ _ _ (by show (wa.heap.size + 1) ≠ (wa.heap.size); omega)]; exact h82
              have hW9 : w4.heap[(wa.heap.size)]? = some (.cells (((stC (szK xs fs k)).set k (.int .i64 x.s)).set k (.int .i64 q)).toArray 3 (0, 0)) := by rw [← hw4, vblk_set h92]
              have HB4 : Hid (Below w.heap.size w w4) := by unfold Hid; rw [← hw4]; exact HB2.out.setCell (by show w.heap.size ≤ (wa.heap.size); omega) _
              have hW9' : w4.heap[(wa.heap.size)]? = some (.cells (stC (szK xs fs (k + 1))).toArray 3 (0, 0)) := by rw [hW9, List.set_set, stC_set, ← HZ.out, szK_set hkm]
              have y9 := (vblk_cell hW9 (i := k) (v := .int .i64 q) (List.getElem?_set_self (by rw [List.length_set]; have := (List.getElem?_eq_some_iff.1 hv0).1; exact this))).1
              have HW9 := Lib.hid hW9'
              clear hx hxf h82 h92 ht hv0 hW9 hW9' hq hv0'
              by_cases hbig : 2147483648 < q
              · have e2 : decide (2147483648 < q) = true := by simpa using hbig
                have HE : Hid (sizesE xs fs = 2) := sizes_large HC0.out HB0.out hkm (by rw [HZ.out]; exact hbig)
                clear hbig
                go_wp2
                go_region
                all_goals
                  go_wp2
                  go_ret2
                  exact ⟨by first | exact HB4.out | exact HB4.out.drew, .inl ⟨by rw [HE.out]; omega, by rw [HE.out]; rfl⟩⟩
              · have e2 : decide (2147483648 < q) = false := by simpa using hbig
                have HS9' : Hid (∀ i, i < k + 1 → szAt xs fs i ≤ 2147483648) := fun i hi => by
                  rcases Nat.lt_or_ge i k with h | h
                  · exact HS9.out i h
                  · obtain rfl : i = k := by omega
                    rw [HZ.out]; omega
                clear hbig
                go_wp2
                go_region
                all_goals
                  go_wp2
                  go_roundw
                  case rel => exact ⟨k + 1, by omega, by go_num, HW8, HW9, by first | exact HB4 | exact HB4.out.drew, HS9'⟩
                  case measure => simp [intOf]; omega
          · obtain rfl : k = m := by omega
            have HE : Hid (sizesE xs fs = 0) := sizes_small HC0.out HB0.out fun i hi => HS9.out i (by rw [← HM.out]; exact hi)
            have HW : Hid (wr.heap[(wa.heap.size)]? = some (.cells (stC (sizesL xs fs)).toArray 3 (0, 0))) := by unfold Hid; rw [HK9.out, ← szK_all, HM.out]
            go_wp2
            go_ret2
            exact ⟨HB.out, .inr ⟨HE.out, (wa.heap.size), hg9, rfl, HW.out⟩⟩
    · have k1' : formB xs fs = false := by simpa using k1
      rw [k1'] at HI
      have HE : Hid (sizesE xs fs = 4) := by unfold Hid sizesE; rw [HC0.out, k1']; rfl
      clear k1 k1' hc1 hc2
      go_enter Try.func47, Try.ntmps47
      go_wp2_with (first | (go_at_call 67; refine HC.mono ?_; rintro e w' ⟨rfl, rfl⟩) | (go_at_call 71; refine HI.mono ?_; rintro e w' ⟨rfl, hb⟩))
      go_ret2
      exact ⟨by first | exact hb | assumption, .inl ⟨by rw [HE.out]; omega, by rw [HE.out]; rfl⟩⟩
  · have HE : Hid (sizesE xs fs = c2 ∧ c2 ≠ 0) := by refine ⟨?_, k0⟩; unfold sizesE; rw [hc2, if_pos k0]
    have e1 : (c2 != 0) = true := by simpa using k0
    clear k0 hc1 hc2
    go_enter Try.func47, Try.ntmps47
    go_wp2_with (go_at_call 67; refine HC.mono ?_; rintro e w' ⟨rfl, rfl⟩)
    go_ret2
    exact ⟨Below.refl _ _, .inl ⟨by rw [HE.out.1]; exact HE.out.2, by rw [HE.out.1]; rfl⟩⟩
end Go.Proofs.Yteepiifhmbcciaa
/- store.isOf: whether the levels are of the form's kinds, and of these sizes. -/
namespace Go.Proofs.Yteepiifhmbcciaa
open Go.RowKit

def OfP (ls : List Lv) (fs : List Sp) (zs : List Int) : Prop := ls.length = fs.length ∧ ∀ (k : Nat) (l : Lv) (f : Sp) (z : Int), ls[k]? = some l → fs[k]? = some f → zs[k]? = some z → l.k = f.k ∧ l.s = z
set_option maxRecDepth 100000 in
set_option maxHeartbeats 4000000 in
theorem isOf_any (A : Option Addr) (n c : Nat) (ls : List Lv) (Bf : Option Addr) (m e : Nat) (fs : List Sp) (Bz : Option Addr) (r : Nat) (zs : List Int) (w : World) (h : Lvs w w.heap.size A n ls) (hf : Specs w w.heap.size Bf m fs) (hz : Ints w w.heap.size Bz m zs) (hm : m ≤ 100000) (hn : n ≤ 140737488355328) :
    Calls Try.prog 48 #[.slice A n c, .slice Bf m e, .slice Bz m r] w fun r w' => r = .returned (.bool (pB (OfP ls fs zs))) ∧ Below w.heap.size w w' := by
  obtain ⟨FB, HFB⟩ : ∃ b, Hid (pB (OfP ls fs zs) = b) := ⟨_, Lib.hid rfl⟩
  rw [HFB.out]
  have HL := Lib.hid h.1
  have HM := Lib.hid hf.1
  have HZ := Lib.hid hz.1
  by_cases hne : n = m
  · obtain rfl := hne
    go_enter Try.func48, Try.ntmps48
    go_wp2
    go_loopw [16] (fun i wr => ∃ k : Nat, k ≤ n ∧ i = .int .i64 k ∧ Hid (∀ (j : Nat) (l : Lv) (f : Sp) (z : Int), j < k → ls[j]? = some l → fs[j]? = some f → zs[j]? = some z → l.k = f.k ∧ l.s = z) ∧ Hid (Below w.heap.size w wr)) (fun i _ => n - (intOf i).toNat)
    case atStart => exact ⟨0, Nat.zero_le _, rfl, fun j _ _ _ hj => absurd hj (by omega), Below.refl _ _⟩
    case round =>
      obtain ⟨k, hk, rfl, HA, HB⟩ := hrel
      have hbw : w.heap.size ≤ wr.heap.size := HB.out.size
      by_cases hlt : k < n
      · obtain ⟨b, off, x, rfl, hbl, HX, c0, c1, c2, xo⟩ := (hf.on HB.out (Nat.le_refl _)).at_ hlt
        obtain ⟨w1, hw1⟩ : ∃ w1, wr.alloc (.cells #[.int .i64 x.k, .int .i64 x.m, .int .i64 x.s] 60) = w1 := ⟨_, rfl⟩
        obtain ⟨q0, q1, q2⟩ : w1.cell? ⟨wr.heap.size, 0, none⟩ = some (.int .i64 x.k) ∧ w1.cell? ⟨wr.heap.size, 1, none⟩ = some (.int .i64 x.m) ∧ w1.cell? ⟨wr.heap.size, 2, none⟩ = some (.int .i64 x.s) := by
          have hb : w1.heap[wr.heap.size]? = some (.cells #[.int .i64 x.k, .int .i64 x.m, .int .i64 x.s] 60 (0, 0)) := by rw [← hw1]; exact heap_alloc_new _ _
          exact ⟨cell_of_row _ _ 0 _ _ _ hb, cell_of_row _ _ 1 _ _ _ hb, cell_of_row _ _ 2 _ _ _ hb⟩
        have HB1 : Hid (Below w.heap.size w w1) := by unfold Hid; rw [← hw1]; exact HB.out.alloc hbw _
        obtain ⟨bl, ol, l, rfl, hbb, HLk, d0, d1, d2, d3, li⟩ := (h.on HB1.out (Nat.le_refl _)).at_ hlt
        obtain ⟨bz, oz, z, rfl, hbz, HZk, f0, f1, f2⟩ := (hz.below HB1.out).at_ hlt
        have HBq : Hid (∀ q, Below w.heap.size w (w1.drewN q)) := fun q => ⟨HB1.out.os, HB1.out.tape, HB1.out.output, HB1.out.size, HB1.out.block⟩
        have HNo : Hid (¬ (l.k = x.k ∧ l.s = z) → FB = false) := fun hn => HFB.out.symm.trans (pB_f fun hp => hn (hp.2 k l x z HLk.out HX.out HZk.out))
        have HYes : Hid ((l.k = x.k ∧ l.s = z) → ∀ (j : Nat) (l : Lv) (f : Sp) (z : Int), j < k + 1 → ls[j]? = some l → fs[j]? = some f → zs[j]? = some z → l.k = f.k ∧ l.s = z) := by
          intro hy j l' f' z' hj h1 h2 h3
          rcases Nat.lt_or_ge j k with hh | hh
          · exact HA.out j l' f' z' hh h1 h2 h3
          · obtain rfl : j = k := by omega
            rw [HLk.out] at h1; rw [HX.out] at h2; rw [HZk.out] at h3
            cases h1; cases h2; cases h3
            exact hy
        clear HB xo li
        by_cases a1 : l.k = x.k
        · have e1 : (l.k != x.k) = false := by simpa using a1
          by_cases a2 : l.s = z
          · have e2 : (l.s != z) = false := by simpa using a2
            have HN := Lib.hid (HYes.out ⟨a1, a2⟩)
            clear a1 a2 HYes HNo
            go_wp2
            go_quiet (fail)
            go_wp2
            go_roundw
            case rel => exact ⟨k + 1, by omega, by go_num, HN, HBq.out _⟩
            case measure => simp [intOf]; omega
          · have e2 : (l.s != z) = true := by simpa using a2
            have HF := Lib.hid (HNo.out fun hh => a2 hh.2)
            clear a1 a2 HYes HNo
            go_wp2
            go_quiet (fail)
            go_wp2
            go_ret
            exact ⟨by rw [HF.out]; rfl, HBq.out _⟩
        · have e1 : (l.k != x.k) = true := by simpa using a1
          have HF := Lib.hid (HNo.out fun hh => a1 hh.1)
          clear a1 HYes HNo
          go_wp2
          go_quiet (fail)
          go_wp2
          go_ret
          exact ⟨by rw [HF.out]; rfl, HBq.out _⟩
      · have HF : Hid (FB = true) := HFB.out.symm.trans (pB_t ⟨HL.out.trans HM.out.symm, fun j l f z h1 h2 h3 => HA.out j l f z (by have := (List.getElem?_eq_some_iff.1 h1).1; have := HL.out; omega) h1 h2 h3⟩)
        go_wp2
        go_ret
        exact ⟨by rw [HF.out]; rfl, HB.out⟩
  · have HF : Hid (FB = false) := HFB.out.symm.trans (pB_f fun hp => hne (by have := hp.1; rw [HL.out, HM.out] at this; exact this))
    have e1 : (n != m) = true := bne_iff_ne.2 hne
    have e2 : ((n : Int) != (m : Int)) = true := bne_iff_ne.2 (by omega)
    clear hne
    go_enter Try.func48, Try.ntmps48
    go_wp2
    go_ret
    exact ⟨by rw [HF.out]; rfl, Below.refl _ _⟩
end Go.Proofs.Yteepiifhmbcciaa
/- Levels, one behind the other: how many children each has, which error is the first, and whether places rise. Nothing is claimed of the program here. -/
namespace Go.Proofs.Yteepiifhmbcciaa
open Go.RowKit

/-- how many stand ahead of level k -/
def ahN (ls : List Lv) : Nat → Nat
  | 0 => 1
  | k + 1 => match ls[k]? with
    | some l => totN l.k l.s l.ys (ahN ls k)
    | none => ahN ls k
/-- the error of the first k levels -/
noncomputable def levE (ls : List Lv) : Nat → Int
  | 0 => 0
  | k + 1 => if levE ls k ≠ 0 then levE ls k else match ls[k]? with
    | some l => lvF l.k l.s l.xs l.ys (ahN ls k)
    | none => 0
theorem ahN_succ {ls : List Lv} {k : Nat} {l : Lv} (h : ls[k]? = some l) : ahN ls (k + 1) = totN l.k l.s l.ys (ahN ls k) := by rw [ahN, h]
theorem levE_succ {ls : List Lv} {k : Nat} {l : Lv} (h : ls[k]? = some l) (h0 : levE ls k = 0) : levE ls (k + 1) = lvF l.k l.s l.xs l.ys (ahN ls k) := by
  rw [levE, if_neg (by rw [h0]; simp), h]
theorem levE_stay {ls : List Lv} {k : Nat} (h0 : levE ls k ≠ 0) (j : Nat) : levE ls (k + j) = levE ls k := by
  induction j with
  | zero => rfl
  | succ j ih => rw [← Nat.add_assoc, levE, if_pos (by rw [ih]; exact h0), ih]
theorem levE_le {ls : List Lv} {k m : Nat} (h : k ≤ m) (h0 : levE ls k ≠ 0) : levE ls m = levE ls k := by
  obtain ⟨j, rfl⟩ : ∃ j, m = k + j := ⟨m - k, by omega⟩
  exact levE_stay h0 j
theorem levE_ok {ls : List Lv} {m : Nat} (h : levE ls m = 0) {k : Nat} (hk : k ≤ m) : levE ls k = 0 := Classical.byContradiction fun h0 => h0 (by rw [levE_le hk h0] at h; exact h)
theorem lok_at {ls : List Lv} {m : Nat} (h : levE ls m = 0) {k : Nat} (hk : k < m) {l : Lv} (hl : ls[k]? = some l) : Lok l.k l.s l.xs l.ys (ahN ls k) := by
  have h1 := levE_ok h (k := k + 1) (by omega)
  rw [levE_succ hl (levE_ok h (by omega))] at h1
  obtain ⟨b, hb, hL⟩ := lok_of h1
  obtain rfl : ahN ls k = b := by omega
  exact hL
/-- the places behind a loose level rise -/
def RiseL (ls : List Lv) : Prop := ∀ (kl : Nat) (l : Lv), ls[kl]? = some l → l.k = 2 → ∀ p n, p + 1 < l.xs.length → offN 2 l.s l.xs p < n → n < offN 2 l.s l.xs (p + 1) → aheadB (n - 1) n (ls.drop kl) = true
/-- what is known of a loose level: it may be, those behind it have as many places, and there is no other -/
def LooseOK (ls : List Lv) : Prop := ∀ (kl : Nat) (l : Lv), ls[kl]? = some l → l.k = 2 → (∃ a, Lok 2 l.s l.xs l.ys a) ∧ (∀ x ∈ ls.drop kl, x.ys.length = l.ys.length) ∧ ∀ (j : Nat) (l' : Lv), ls[j]? = some l' → l'.k = 2 → j = kl
/-- the first loose level, or -1 -/
def idxL (ls : List Lv) : Int := if (ls.any fun l => l.k == 2) = true then ((ls.findIdx fun l => l.k == 2 : Nat) : Int) else -1
theorem idxL_hit {ls : List Lv} {k : Nat} {x : Lv} (hx : ls[k]? = some x) (h : x.k = 2) (h0 : (ls.take k).any (fun l => l.k == 2) = false) : idxL ls = (k : Int) := by
  obtain ⟨hk, e⟩ := List.getElem?_eq_some_iff.1 hx
  have ha : (ls.any fun s => s.k == 2) = true := List.any_eq_true.2 ⟨x, List.mem_of_getElem? hx, by simpa using h⟩
  unfold idxL
  rw [if_pos ha, (List.findIdx_eq hk).2 ⟨by rw [e]; simpa using h, fun j hj => ?_⟩]
  rw [List.any_eq_false] at h0
  have := h0 ls[j] (List.mem_of_getElem? (i := j) (by rw [List.getElem?_take, if_pos hj, List.getElem?_eq_getElem (by omega)]))
  simpa using this
theorem idxL_none {ls : List Lv} (h0 : (ls.any fun s => s.k == 2) = false) : idxL ls = -1 := by unfold idxL; rw [h0]; rfl
theorem idxL_some {ls : List Lv} (h0 : (ls.any fun s => s.k == 2) = true) : ∃ (k : Nat) (l : Lv), idxL ls = (k : Int) ∧ ls[k]? = some l ∧ l.k = 2 := by
  have hk : (ls.findIdx fun l => l.k == 2) < ls.length := List.findIdx_lt_length_of_exists (by obtain ⟨y, hy, h⟩ := List.any_eq_true.1 h0; exact ⟨y, hy, h⟩)
  refine ⟨_, _, by unfold idxL; rw [if_pos h0], List.getElem?_eq_getElem hk, ?_⟩
  simpa using List.findIdx_getElem (w := hk)
theorem riseL_none {ls : List Lv} (h0 : (ls.any fun s => s.k == 2) = false) : RiseL ls := by
  intro kl l hl hk
  rw [List.any_eq_false] at h0
  exact absurd (by simpa using hk) (h0 l (List.mem_of_getElem? hl))
theorem off2 (S : Int) (xs : List Int) (p : Nat) : offN 2 S xs p = (xs[p]?.getD 0).toNat := rfl
end Go.Proofs.Yteepiifhmbcciaa
/- The contracts of store's span and place. -/
namespace Go.Proofs.Yteepiifhmbcciaa
open Go.RowKit

set_option maxRecDepth 100000 in
/-- span, of a packed or a loose level -/
theorem st_span_pos (K S : Int) (hK : K = 1 ∨ K = 2) (A B : Option Addr) (n c m e p : Nat) (xs : List Int) (x z : Int) (w : World) (h : Ints w w.heap.size A n xs) (hn : n ≤ 1048577) (hx : xs[p]? = some x) (hz : xs[p + 1]? = some z) :
    Calls Try.prog 37 #[lvV K S A n c B m e, .int .i64 p] w fun e w' => e = .returned (.tuple #[.int .i64 x, .int .i64 z]) ∧ Below w.heap.size w w' := by
  have hl := h.1
  have hp1 : p + 1 < n := by rw [← hl]; exact (List.getElem?_eq_some_iff.1 hz).1
  obtain ⟨b, off, x', rfl, hbb, HX, hc, hx1, hx2⟩ := h.at_ (k := p) (by omega)
  obtain ⟨b2, off2, z', e2, hbb2, HZ, hc2, hz1, hz2⟩ := h.at_ (k := p + 1) (by omega)
  injection e2 with e2; injection e2 with e2 e3; subst e2; subst e3
  obtain rfl : x' = x := by have := HX.out; rw [hx] at this; injection this with this; exact this.symm
  obtain rfl : z' = z := by have := HZ.out; rw [hz] at this; injection this with this; exact this.symm
  have z0 := lvBelow w (lvO K S (some ⟨b, off, none⟩) n c B m e)
  have j1 := cellPast (lvO K S (some ⟨b, off, none⟩) n c B m e) hc
  have j2 := cellPast (lvO K S (some ⟨b, off, none⟩) n c B m e) hc2
  have e1 : IntKind.i64.wrap ((p : Int) + 1) = (p : Int) + 1 := by rw [IntWalk.i64_in _ (by omega)]
  have g0 : (0 : Int) ≤ p := by omega
  have g1 : (p : Int) < n := by omega
  have g2 : (p : Int) + 1 < n := by omega
  have g3 : (0 : Int) ≤ (p : Int) + 1 := by omega
  have g4 : ((p : Int) + 1).toNat = p + 1 := by omega
  clear hx hz hl HX HZ h hc hc2 hbb2
  rcases hK with rfl | rfl
  all_goals
    go_enter Try.func37, Try.ntmps37
    go_wp2
    go_quiet (fail)
    go_wp2
    go_ret2
    exact ⟨rfl, below_drewN2 z0 _⟩

set_option maxRecDepth 100000 in
theorem st_span_ok (K S : Int) (A B : Option Addr) (n c m e p a : Nat) (xs ys : List Int) (w : World) (h : Ints w w.heap.size A n xs) (HL : Lok K S xs ys a) (hp : p < a) :
    Calls Try.prog 37 #[lvV K S A n c B m e, .int .i64 p] w fun e w' => e = .returned (.tuple #[.int .i64 (offN K S xs p : Nat), .int .i64 (offN K S xs (p + 1) : Nat)]) ∧ Below w.heap.size w w' := by
  have ha := HL.ahead
  by_cases hK : K = 1 ∨ K = 2
  · have hl := HL.posLen hK
    exact st_span_pos K S hK A B n c m e p xs _ _ w h (by rw [← h.1]; omega) (HL.pos hK p (by omega)) (HL.pos hK (p + 1) (by omega))
  · have hs0 := HL.size0
    have hs1 := HL.size1
    have hk := HL.kind
    have z0 := lvBelow w (lvO K S A n c B m e)
    obtain ⟨q1, q2⟩ := mul_small (a := (p : Int)) (S := S) (by omega) (by omega) hs0 hs1
    obtain ⟨q3, q4⟩ := mul_small (a := (p : Int) + 1) (S := S) (by omega) (by omega) hs0 hs1
    have e1 : IntKind.i64.wrap ((p : Int) + 1) = (p : Int) + 1 := by rw [IntWalk.i64_in _ (by omega)]
    have e2 : IntKind.i64.wrap ((p : Int) * S) = (p : Int) * S := by rw [IntWalk.i64_in _ (by omega)]
    have e3 : IntKind.i64.wrap (((p : Int) + 1) * S) = ((p : Int) + 1) * S := by rw [IntWalk.i64_in _ (by omega)]
    have g0 : (p : Int) ≤ 1048576 := by omega
    have hk3 : K = 0 ∨ K = 3 ∨ K = 4 := by omega
    have HO : Hid (wholeB K = true → ((offN K S xs p : Nat) : Int) = (p : Int) * S ∧ ((offN K S xs (p + 1) : Nat) : Int) = ((p : Int) + 1) * S) := by
      intro hw
      unfold offN
      rw [if_pos hw, if_pos hw, Int.natCast_mul, Int.natCast_mul, Int.toNat_of_nonneg hs0]
      exact ⟨rfl, rfl⟩
    clear HL hk hK
    rcases hk3 with rfl | rfl | rfl
    · go_enter Try.func37, Try.ntmps37
      go_wp2
      go_quiet (fail)
      go_wp2
      go_ret2
      exact ⟨ret_of (by rw [(HO.out rfl).1, (HO.out rfl).2]; rfl), below_drewN2 z0 _⟩
    · go_enter Try.func37, Try.ntmps37
      go_wp2
      go_ret2
      exact ⟨ret_of (by rfl), z0⟩
    · go_enter Try.func37, Try.ntmps37
      go_wp2
      go_quiet (fail)
      go_wp2
      go_ret2
      exact ⟨ret_of (by rw [(HO.out rfl).1, (HO.out rfl).2]; rfl), below_drewN2 z0 _⟩

set_option maxRecDepth 100000 in
theorem st_place_ok (K S : Int) (A B : Option Addr) (n c m e k a : Nat) (xs ys : List Int) (w : World) (h : Ints w w.heap.size B m ys) (HL : Lok K S xs ys a) (hk : k < totN K S ys a) :
    Calls Try.prog 38 #[lvV K S A n c B m e, .int .i64 k] w fun e w' => e = .returned (.int .i64 (atN K S ys k)) ∧ Below w.heap.size w w' := by
  have HC := fun W => whole_any K S A B n c m e W
  have ht := HL.tot
  have hs1 := HL.size1
  have hpl := HL.place k hk
  have z0 := lvBelow w (lvO K S A n c B m e)
  by_cases hw : wholeB K = true
  · have HF : Hid (atN K S ys k = (k : Int) % S) := by unfold Hid atN; rw [if_pos hw]
    rw [hw] at HC
    have hS : 0 < S := by omega
    have hS0 : ¬ S = 0 := by omega
    have hk0 : (0 : Int) ≤ k := by omega
    have hk1 : (k : Int) ≤ 1048576 := by omega
    clear HL hpl hw hk ht
    go_enter Try.func38, Try.ntmps38
    go_wp2_with (go_at_call 60; refine (HC _).mono ?_; rintro x w1 ⟨rfl, hb1⟩; have hb2 := z0.trans (hb1.mono z0.size); obtain ⟨k0, k1, k2, k3, _⟩ := lvCells (oNew hb1))
    go_ret
    exact ⟨ret_of (by rw [HF.out]; rfl), hb2⟩
  · have hw' : wholeB K = false := by simpa using hw
    have hy := HL.crdAt hw' k hk
    have hkm : k < m := by rw [← h.1]; exact (List.getElem?_eq_some_iff.1 hy).1
    have hm := HL.crd
    rw [h.1] at hm
    rw [hw'] at HC
    obtain ⟨v, hv⟩ : ∃ v, atN K S ys k = v := ⟨_, rfl⟩
    rw [hv] at hy hpl ⊢
    obtain ⟨b, off, x', rfl, hbb, HX, hc, hx1, hx2⟩ := h.at_ hkm
    obtain rfl : x' = v := by have := HX.out; rw [hy] at this; injection this with this; exact this.symm
    clear HL hpl hw hw' hk ht hy HX h hv
    go_enter Try.func38, Try.ntmps38
    go_wp2_with (go_at_call 60; refine (HC _).mono ?_; rintro x w1 ⟨rfl, hb1⟩; have hb2 := z0.trans (hb1.mono z0.size); obtain ⟨k0, k1, k2, k3, _⟩ := lvCells (oNew hb1); have hc2 := (hb2.cell (p := ⟨b, off + k, none⟩) hbb).trans hc)
    go_ret
    exact ⟨rfl, hb2⟩
end Go.Proofs.Yteepiifhmbcciaa
