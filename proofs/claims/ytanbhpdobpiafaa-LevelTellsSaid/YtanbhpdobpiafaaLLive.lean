/- The contract of purflelaw04.live: the chapter's example holds, and nothing that lay there has turned. -/
import Derived.Test.YtanbhpdobpiafaaLMakeE
import Derived.Test.YtanbhpdobpiafaaPlaces
import Derived.Test.YtanbhpdobpiafaaLive
namespace Go.Proofs.Ytanbhpdobpiafaa
open Go.RowKit

theorem live_lv : lvF 1 4 [0, 2, 2, 3] [1, 3, 0] 3 = 0 := by
  refine lvF_zero ⟨by unfold MayP; omega, ?_, by simp, ?_, ?_, ?_⟩
  · have h := mk_told (K := 1) (LL := [[1, 3], [], [0]]) (by omega)
    have e1 : mkPos 1 [[1, 3], [], [0]] = [0, 2, 2, 3] := by decide
    have e2 : mkCrd 1 [[1, 3], [], [0]] = [1, 3, 0] := by decide
    rw [e1, e2] at h
    exact h
  · have : manyF 1 4 [1, 3, 0] 3 = 3 := by decide
    rw [this]; omega
  · intro y hy
    simp at hy
    omega
  · intro _ p hp n x z u v hx hz h1 h2 hu hv
    have hp3 : p < 3 := by omega
    have : p = 0 ∨ p = 1 ∨ p = 2 := by omega
    rcases this with rfl | rfl | rfl
    · simp at hx hz; subst hx; subst hz
      obtain rfl : n = 1 := by omega
      simp at hu hv; subst hu; subst hv; decide
    · simp at hx hz; omega
    · simp at hx hz; omega
theorem live_e : makeE 1 4 [[1, 3], [], [0]] = 0 := by
  rw [makeE_lv (by omega)]
  have e1 : mkPos 1 [[1, 3], [], [0]] = [0, 2, 2, 3] := by decide
  have e2 : mkCrd 1 [[1, 3], [], [0]] = [1, 3, 0] := by decide
  rw [e1, e2]
  exact live_lv
theorem live_make (A : Option Addr) (c : Nat) (w : World) (h : IntsLL w w.heap.size A 3 [[1, 3], [], [0]]) :
    Calls Try.prog 26 #[.int .i64 1, .int .i64 4, .slice A 3 c] w fun x w' => ∃ A1 c1 A2 c2, x = .returned (.tuple #[lvV 1 4 A1 4 c1 A2 3 c2, .int .i64 0]) ∧ LvI w' A1 4 A2 3 [0, 2, 2, 3] [1, 3, 0] ∧ Below w.heap.size w w' := by
  refine (make_any 1 4 A 3 c _ w h (by omega) (by simp)).mono ?_
  rintro x w' (⟨_, A1, c1, A2, c2, rfl, HO1, HO2, hb⟩ | ⟨hne, _⟩)
  · have e1 : mkPos 1 [[1, 3], [], [0]] = [0, 2, 2, 3] := by decide
    have e2 : mkCrd 1 [[1, 3], [], [0]] = [1, 3, 0] := by decide
    rw [e1] at HO1
    rw [e2] at HO2
    exact ⟨A1, c1, A2, c2, ret_of (by rw [e1, e2]; rfl), ⟨HO1.ints, HO2.ints, by omega, by omega⟩, hb⟩
  · exact absurd live_e hne
theorem live_rows (W : World) : IntsLL (((W.alloc (.cells #[.int .i64 1, .int .i64 3] 3)).alloc (.cells #[.int .i64 0] 3)).alloc (.cells #[.slice (some ⟨W.heap.size, 0, none⟩) 2 2, .slice none 0 0, .slice (some ⟨W.heap.size + 1, 0, none⟩) 1 1] 22)) (W.heap.size + 1 + 1 + 1) (some ⟨W.heap.size + 1 + 1, 0, none⟩) 3 [[1, 3], [], [0]] := by
  have a1 := ((Ints.of_new W 3 [1, 3] (by simp)).alloc (by simp) (.cells #[.int .i64 0] 3)).alloc (by simp) (.cells #[.slice (some ⟨W.heap.size, 0, none⟩) 2 2, .slice none 0 0, .slice (some ⟨W.heap.size + 1, 0, none⟩) 1 1] 22)
  have a2 := (Ints.of_new (W.alloc (.cells #[.int .i64 1, .int .i64 3] 3)) 3 [0] (by simp)).alloc (by simp) (.cells #[.slice (some ⟨W.heap.size, 0, none⟩) 2 2, .slice none 0 0, .slice (some ⟨W.heap.size + 1, 0, none⟩) 1 1] 22)
  have h := heap_alloc_new ((W.alloc (.cells #[.int .i64 1, .int .i64 3] 3)).alloc (.cells #[.int .i64 0] 3)) (.cells #[.slice (some ⟨W.heap.size, 0, none⟩) 2 2, .slice none 0 0, .slice (some ⟨W.heap.size + 1, 0, none⟩) 1 1] 22)
  simp only [World.size_alloc] at a2 h
  refine ⟨rfl, fun _ => ⟨_, _, rfl, by omega, fun k L hL => ?_⟩⟩
  have hk : k < 3 := (List.getElem?_eq_some_iff.1 hL).1
  have : k = 0 ∨ k = 1 ∨ k = 2 := by omega
  rcases this with rfl | rfl | rfl
  · simp at hL; subst hL
    exact ⟨_, 2, (cell_of_row _ _ 0 _ _ (0, 0) h), Nat.le_refl _, a1.more (by omega)⟩
  · simp at hL; subst hL
    exact ⟨_, 0, (cell_of_row _ _ 1 _ _ (0, 0) h), Nat.le_refl _, Ints.nil_⟩
  · simp at hL; subst hL
    exact ⟨_, 1, (cell_of_row _ _ 2 _ _ (0, 0) h), Nat.le_refl _, a2.more (by omega)⟩

set_option maxRecDepth 100000 in
set_option maxHeartbeats 1000000 in
theorem lvLive_any (w : World) : Calls Try.prog 9 #[] w fun e w' => e = .returned (.bool true) ∧ Below w.heap.size w w' := by
  have hR := live_rows w
  have HM := live_make (some ⟨w.heap.size + 1 + 1, 0, none⟩) 3 _ (hR.more (by simp))
  have hbw := ((lvBelow w (.cells #[.int .i64 1, .int .i64 3] 3)).alloc (by simp) (.cells #[.int .i64 0] 3)).alloc (by simp; omega) (.cells #[.slice (some ⟨w.heap.size, 0, none⟩) 2 2, .slice none 0 0, .slice (some ⟨w.heap.size + 1, 0, none⟩) 1 1] 22)
  have ht : totN 1 4 [1, 3, 0] 3 = 3 := by decide
  have HB := fun W A1 c1 A2 c2 (hI : LvI W A1 4 A2 3 [0, 2, 2, 3] [1, 3, 0]) => below_ok 1 4 3 A1 A2 4 c1 3 c2 [0, 2, 2, 3] [1, 3, 0] W hI live_lv
  rw [ht] at HB
  have hQ := fun W A1 c1 A2 c2 (h1 : Ints W W.heap.size A1 4 [0, 2, 2, 3]) (h2 : Ints W W.heap.size A2 4 [0, 2, 2, 3]) => refEqual_any A1 A2 4 4 c1 c2 [0, 2, 2, 3] [0, 2, 2, 3] W W.heap.size h1 h2 (by omega) (by omega)
  simp only [decide_true] at hQ
  have hQ2 := fun W A1 c1 A2 c2 (h1 : Ints W W.heap.size A1 3 [1, 3, 0]) (h2 : Ints W W.heap.size A2 3 [1, 3, 0]) => refEqual_any A1 A2 3 3 c1 c2 [1, 3, 0] [1, 3, 0] W W.heap.size h1 h2 (by omega) (by omega)
  simp only [decide_true] at hQ2
  simp only [Int.cast_ofNat_Int] at HB
  clear hR ht
  go_enter Try.func9, Try.ntmps9
  go_wp2_with fail
  refine HM.mono ?_
  rintro x w2 ⟨A1, c1, A2, c2, rfl, hI, hb1⟩
  have hb2 := hbw.trans (hb1.mono hbw.size)
  have z0 := lvBelow w2 (lvO 1 4 A1 4 c1 A2 3 c2)
  have zz := heap_alloc_new w2 (lvO 1 4 A1 4 c1 A2 3 c2)
  clear HM hbw hb1
  go_wp2_with fail
  refine (HB _ _ _ _ _ (hI.below z0)).mono ?_
  rintro x w3 ⟨rfl, hb3⟩
  have hI3 := (hI.below z0).below hb3
  have hk3 := oKeep hb3 zz
  obtain ⟨k0, k1, k2, k3, _⟩ := lvCells hk3
  have hb4 := hb2.trans ((z0.trans (hb3.mono z0.size)).mono hb2.size)
  clear HB hI zz hb3 z0 hb2
  go_wp2_with fail
  refine (hQ _ _ _ _ _ (hI3.pos.alloc' _) (by simpa using Ints.of_new w3 3 [0, 2, 2, 3] (by simp))).mono ?_
  rintro x w5 ⟨rfl, m5, rfl⟩
  have hb5 := below_drewN (lvBelow w3 (.cells #[.int .i64 0, .int .i64 2, .int .i64 2, .int .i64 3] 3)) m5
  have hb6 := hb4.trans (hb5.mono hb4.size)
  have hc6 := (hI3.below hb5).crd
  obtain ⟨W5, hW5⟩ : ∃ W5, (w3.alloc (.cells #[.int .i64 0, .int .i64 2, .int .i64 2, .int .i64 3] 3)).drewN m5 = W5 := ⟨_, rfl⟩
  rw [hW5] at hb5 hb6 hc6 ⊢
  obtain ⟨l0, l1, l2, l3, _⟩ := lvCells (oKeep hb5 hk3)
  clear hQ hI3 hk3 k0 k1 k2 k3 hb5 hb4 hW5
  go_wp2_with fail
  refine (hQ2 _ _ _ _ _ (hc6.alloc' _) (by simpa using Ints.of_new W5 3 [1, 3, 0] (by simp))).mono ?_
  rintro x w7 ⟨rfl, m7, rfl⟩
  go_wp2_with fail
  go_ret
  exact ⟨rfl, below_drewN (hb6.trans ((lvBelow W5 (.cells #[.int .i64 1, .int .i64 3, .int .i64 0] 3)).mono hb6.size)) m7⟩
end Go.Proofs.Ytanbhpdobpiafaa
