/- The document's Form and Sizes. -/
import Derived.Test.YtfimnmdcbnfhfaaG17
namespace Go.Proofs.Ytfimnmdcbnfhfaa
open Go.RowKit

theorem sizesE_cells {xs : List Int} {fs : List Sp} (h : (cellsF xs).2 ≠ 0) : sizesE xs fs = (cellsF xs).2 := by unfold sizesE; rw [if_pos h]
theorem sizesE_no {xs : List Int} {fs : List Sp} (h : (cellsF xs).2 = 0) (h1 : formB xs fs = false) : sizesE xs fs = 4 := by unfold sizesE; rw [h, h1]; rfl
set_option maxRecDepth 100000 in
set_option maxHeartbeats 4000000 in
theorem refForm5_any (A : Option Addr) (n c : Nat) (xs : List Int) (Bf : Option Addr) (m e : Nat) (fs : List Sp) (w : World) (h : Ints w w.heap.size A n xs) (hn : n ≤ 100000) (hf : Specs w w.heap.size Bf m fs) (hm : m ≤ 100000) :
    Calls Try.prog 14 #[.slice A n c, .slice Bf m e] w (IntPost (sizesE xs fs) w) := by
  have HC := refCells_any A n c xs w w.heap.size h (by omega)
  obtain ⟨c1, hc1⟩ : ∃ z, (cellsF xs).1 = z := ⟨_, rfl⟩
  obtain ⟨c2, hc2⟩ : ∃ z, (cellsF xs).2 = z := ⟨_, rfl⟩
  rw [hc1, hc2] at HC
  have HM := Lib.hid hf.1
  by_cases k0 : c2 = 0
  · have h0 : (cellsF xs).2 = 0 := hc2.trans k0
    subst k0
    have HI := refIs_any A n c xs Bf m e fs w h hn hf hm
    by_cases k1 : formB xs fs = true
    · rw [k1] at HI
      have hok : formOK xs fs := Classical.byContradiction fun hc => by rw [formB_no hc] at k1; cases k1
      have HSZ : Hid (∀ W, Below w.heap.size w W → Calls Try.prog 40 #[.slice A n c, .slice Bf m e] W fun r w' => ∃ A' c', r = .returned (.slice A' m c') ∧ OwnI w' W.heap.size 3 A' c' (sizesL xs fs) ∧ Below W.heap.size W w') := fun W hW => refSizesL_any A n c xs Bf m e fs W ((h.below hW).more hW.size) hn ((hf.on hW (Nat.le_refl _)).more hW.size) hm h0 hok
      have HL : Hid ((sizesL xs fs).length = m) := (sizesL_length xs fs).trans hf.1
      have HSm : Hid ((∀ k, k < fs.length → szAt xs fs k ≤ 2147483648) → sizesE xs fs = 0) := fun hh => sizes_small h0 k1 hh
      have HLg : Hid (∀ k, k < fs.length → 2147483648 < szAt xs fs k → sizesE xs fs = 2) := fun k hk hh => sizes_large h0 k1 hk hh
      obtain ⟨E, hE⟩ : ∃ E, Hid (sizesE xs fs = E) := ⟨_, Lib.hid rfl⟩
      rw [hE.out]
      clear k1 hok h0 hc1 hc2
      go_enter Try.func14, Try.ntmps14
      go_wp2_with (first | (go_at_call 41; refine HC.mono ?_; rintro e w' ⟨rfl, rfl⟩) | (go_at_call 42; refine HI.mono ?_; rintro e wa ⟨rfl, hba⟩; have HBA := Lib.hid hba; clear hba) | (go_at_call 40; refine (HSZ.out _ HBA.out).mono ?_; rintro e wb ⟨A', c', rfl, hO, hbb⟩; have HO := Lib.hid hO; have HBB := Lib.hid (HBA.out.trans (hbb.mono HBA.out.size)); clear hO hbb))
      obtain ⟨wo, rfl⟩ : ∃ wo : World, wo = wb := ⟨_, rfl⟩
      go_loopw [25] (fun i wr => ∃ k : Nat, k ≤ m ∧ i = .int .i64 k ∧ wr = wo ∧ Hid (∀ j, j < k → szAt xs fs j ≤ 2147483648)) (fun i _ => m - (intOf i).toNat)
      case atStart => exact ⟨0, Nat.zero_le _, rfl, rfl, fun j hj => absurd hj (by omega)⟩
      case round =>
        obtain ⟨k, hk, rfl, hwr, HS⟩ := hrel
        subst hwr
        by_cases hlt : k < m
        · have hi := HO.out.ints
          rw [HL.out] at hi
          obtain ⟨b, off, x, rfl, hbl, HX, c0, x1, x2⟩ := hi.at_ hlt
          have hkm : k < fs.length := by rw [HM.out]; exact hlt
          have hxs : x = szAt xs fs k := by
            have := HX.out
            unfold sizesL at this
            rw [List.getElem?_map, List.getElem?_range hkm] at this
            simpa using this.symm
          have HX2 := Lib.hid hxs
          clear hxs hi
          by_cases hbig : 2147483648 < x
          · have e2 : decide (2147483648 < x) = true := by simpa using hbig
            have HF : Hid (E = 2) := hE.out.symm.trans (HLg.out k hkm (by rw [← HX2.out]; exact hbig))
            clear hbig hkm
            go_wp2
            go_ret
            exact ⟨by rw [HF.out]; rfl, HBB.out⟩
          · have e2 : decide (2147483648 < x) = false := by simpa using hbig
            have HS2 : Hid (∀ j, j < k + 1 → szAt xs fs j ≤ 2147483648) := fun j hj => by
              rcases Nat.lt_or_ge j k with hh | hh
              · exact HS.out j hh
              · obtain rfl : j = k := by omega
                rw [← HX2.out]; omega
            clear hbig hkm
            go_wp2
            go_roundw
            case rel => exact ⟨k + 1, by omega, by go_num, by first | trivial | rfl, HS2⟩
            case measure => simp [intOf]; omega
        · have HF : Hid (E = 0) := hE.out.symm.trans (HSm.out fun j hj => HS.out j (by rw [HM.out] at hj; omega))
          go_wp2
          go_ret
          exact ⟨by rw [HF.out]; rfl, HBB.out⟩
    · have k1' : formB xs fs = false := by simpa using k1
      rw [k1'] at HI
      have HE : Hid (sizesE xs fs = 4) := sizesE_no h0 k1'
      rw [HE.out]
      clear k1 k1' hc1 hc2 h0
      go_enter Try.func14, Try.ntmps14
      go_wp2_with (first | (go_at_call 41; refine HC.mono ?_; rintro e w' ⟨rfl, rfl⟩) | (go_at_call 42; refine HI.mono ?_; rintro e wa ⟨rfl, hba⟩))
      go_ret
      exact ⟨rfl, by assumption⟩
  · have HE : Hid (sizesE xs fs = c2) := by unfold Hid; rw [sizesE_cells (by rw [hc2]; exact k0), hc2]
    rw [HE.out]
    have e1 : (c2 != 0) = true := by simpa using k0
    clear k0 hc1 hc2
    go_enter Try.func14, Try.ntmps14
    go_wp2_with (go_at_call 41; refine HC.mono ?_; rintro e w' ⟨rfl, rfl⟩)
    go_ret
    exact ⟨rfl, Below.refl _ _⟩
def RSizesPost (w : World) (xs : List Int) (fs : List Sp) (m : Nat) (e : Ending) (w' : World) : Prop :=
  Below w.heap.size w w' ∧ ((sizesE xs fs ≠ 0 ∧ e = .returned (.tuple #[.slice none 0 0, .int .i64 (sizesE xs fs)])) ∨ (sizesE xs fs = 0 ∧ ∃ A' c', e = .returned (.tuple #[.slice A' m c', .int .i64 0]) ∧ OwnI w' w.heap.size 3 A' c' (sizesL xs fs)))
set_option maxRecDepth 100000 in
set_option maxHeartbeats 2000000 in
theorem refSizes5_any (A : Option Addr) (n c : Nat) (xs : List Int) (Bf : Option Addr) (m e : Nat) (fs : List Sp) (w : World) (h : Ints w w.heap.size A n xs) (hn : n ≤ 100000) (hf : Specs w w.heap.size Bf m fs) (hm : m ≤ 100000) :
    Calls Try.prog 11 #[.slice A n c, .slice Bf m e] w (RSizesPost w xs fs m) := by
  have HF := refForm5_any A n c xs Bf m e fs w h hn hf hm
  by_cases k0 : sizesE xs fs = 0
  · have hp := sizesE_parts k0
    have HSZ : Hid (∀ W, Below w.heap.size w W → Calls Try.prog 40 #[.slice A n c, .slice Bf m e] W fun r w' => ∃ A' c', r = .returned (.slice A' m c') ∧ OwnI w' W.heap.size 3 A' c' (sizesL xs fs) ∧ Below W.heap.size W w') := fun W hW => refSizesL_any A n c xs Bf m e fs W ((h.below hW).more hW.size) hn ((hf.on hW (Nat.le_refl _)).more hW.size) hm hp.1 hp.2.1
    rw [k0] at HF
    have HE := Lib.hid k0
    clear k0 hp
    go_enter Try.func11, Try.ntmps11
    go_wp2_with fail
    refine HF.mono ?_
    rintro e wa ⟨rfl, hba⟩
    have HBA := Lib.hid hba
    clear hba
    go_wp2_with (go_at_call 40; refine (HSZ.out _ HBA.out).mono ?_; rintro e wb ⟨A', c', rfl, hO, hbb⟩; have HO := Lib.hid hO; have HBB := Lib.hid (HBA.out.trans (hbb.mono HBA.out.size)); clear hO hbb)
    go_ret2
    exact ⟨HBB.out, .inr ⟨HE.out, A', c', rfl, HO.out.mono HBA.out.size⟩⟩
  · obtain ⟨E, hE⟩ : ∃ E, sizesE xs fs = E := ⟨_, rfl⟩
    rw [hE] at HF k0
    have HE : Hid (sizesE xs fs = E ∧ E ≠ 0) := ⟨hE, k0⟩
    have e1 : (E != 0) = true := by simpa using k0
    clear k0 hE
    go_enter Try.func11, Try.ntmps11
    go_wp2_with fail
    refine HF.mono ?_
    rintro e wa ⟨rfl, hba⟩
    have HBA := Lib.hid hba
    clear hba
    go_wp2_with fail
    go_ret2
    exact ⟨HBA.out, .inl ⟨by rw [HE.out.1]; exact HE.out.2, by rw [HE.out.1]; rfl⟩⟩
end Go.Proofs.Ytfimnmdcbnfhfaa
