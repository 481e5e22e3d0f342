/- The contract of purflelaw03.live: the chapter's examples hold, and nothing that lay there has turned. -/
import Derived.Test.YtnjjmeaggnlafaaPSame
import Derived.Test.YtnjjmeaggnlafaaPlaces
namespace Go.Proofs.Ytnjjmeaggnlafaa
open Go.RowKit

theorem live_cycles (w : World) : Calls Try.prog 30 #[.slice (some ⟨w.heap.size, 0, none⟩) 3 3] (w.alloc (.cells #[.int .i64 1, .int .i64 0, .int .i64 2] 3))
    fun e w' => ∃ A' c', e = .returned (.tuple #[.slice A' 2 c', .int .i64 0]) ∧ IntsLL w' w'.heap.size A' 2 [[0, 1], [2]] ∧ Below (w.heap.size + 1) (w.alloc (.cells #[.int .i64 1, .int .i64 0, .int .i64 2] 3)) w' := by
  have h1 := Ints.of_new w 3 [1, 0, 2] (by simp)
  have h2 := cycles_any (some ⟨w.heap.size, 0, none⟩) 3 3 [1, 0, 2] (w.alloc (.cells #[.int .i64 1, .int .i64 0, .int .i64 2] 3)) (by simpa using h1) (by decide)
  have e2 : cyclesF [1, 0, 2] = ([[0, 1], [2]], 0) := by decide
  rw [e2] at h2
  refine h2.mono ?_
  rintro e w' ⟨A', c', rfl, ho, hb⟩
  exact ⟨A', c', rfl, ho.ints, by simpa using hb⟩
theorem lit_rows (W : World) : IntsLL (((W.alloc (.cells #[.int .i64 0, .int .i64 1] 3)).alloc (.cells #[.int .i64 2] 3)).alloc (.cells #[.slice (some ⟨W.heap.size, 0, none⟩) 2 2, .slice (some ⟨W.heap.size + 1, 0, none⟩) 1 1] 22)) (W.heap.size + 1 + 1 + 1) (some ⟨W.heap.size + 1 + 1, 0, none⟩) 2 [[0, 1], [2]] := by
  have a1 := ((Ints.of_new W 3 [0, 1] (by simp)).alloc (by simp) (.cells #[.int .i64 2] 3)).alloc (by simp) (.cells #[.slice (some ⟨W.heap.size, 0, none⟩) 2 2, .slice (some ⟨W.heap.size + 1, 0, none⟩) 1 1] 22)
  have a2 := (Ints.of_new (W.alloc (.cells #[.int .i64 0, .int .i64 1] 3)) 3 [2] (by simp)).alloc (by simp) (.cells #[.slice (some ⟨W.heap.size, 0, none⟩) 2 2, .slice (some ⟨W.heap.size + 1, 0, none⟩) 1 1] 22)
  have h := heap_alloc_new ((W.alloc (.cells #[.int .i64 0, .int .i64 1] 3)).alloc (.cells #[.int .i64 2] 3)) (.cells #[.slice (some ⟨W.heap.size, 0, none⟩) 2 2, .slice (some ⟨W.heap.size + 1, 0, none⟩) 1 1] 22)
  simp only [World.size_alloc] at a2 h
  refine ⟨rfl, fun _ => ⟨_, _, rfl, by omega, fun k L hL => ?_⟩⟩
  have hk : k < 2 := (List.getElem?_eq_some_iff.1 hL).1
  have : k = 0 ∨ k = 1 := by omega
  rcases this with rfl | rfl
  · simp at hL; subst hL
    exact ⟨_, 2, (cell_of_row _ _ 0 _ _ (0, 0) h), Nat.le_refl _, a1.more (by omega)⟩
  · simp at hL; subst hL
    exact ⟨_, 1, (cell_of_row _ _ 1 _ _ (0, 0) h), Nat.le_refl _, a2.more (by omega)⟩

set_option maxRecDepth 100000 in
theorem lawLive_any (w : World) : Calls Try.prog 11 #[] w fun e w' => e = .returned (.bool true) ∧ Below w.heap.size w w' := by
  have hN := fun W => nth_ok 3 3 W (by decide) (by decide)
  have e1 : nthL 3 (plainL 3) 3 = [1, 2, 0] := by decide
  rw [e1] at hN
  simp only [Int.cast_ofNat_Int] at hN
  have hC := fun W => live_cycles W
  clear e1
  have hQ := fun W A1 c1 A2 c2 (h1 : Ints W W.heap.size A1 3 [1, 2, 0]) (h2 : Ints W W.heap.size A2 3 [1, 2, 0]) => refEqual_any A1 A2 3 3 c1 c2 [1, 2, 0] [1, 2, 0] W W.heap.size h1 h2 (by omega) (by omega)
  simp only [decide_true] at hQ
  have hS := fun W A1 c1 A2 c2 (h1 : IntsLL W W.heap.size A1 2 [[0, 1], [2]]) (h2 : IntsLL W W.heap.size A2 2 [[0, 1], [2]]) => sameLists_any A1 A2 2 2 c1 c2 [[0, 1], [2]] [[0, 1], [2]] W W.heap.size h1 h2 (by omega) (by omega) (by simp) (by simp)
  simp only [decide_true] at hS
  go_enter Try.func11, Try.ntmps11
  go_wp2_with (first | (go_at_call 26; refine (hN _).mono ?_; rintro e w1 ⟨rfl, HO, hb1⟩; have hI := HO.ints) | (go_at_call 30; refine (hC _).mono ?_; rintro e w2 ⟨A2, c2, rfl, HLL, hb2⟩; have hb3 := (((Below.refl _ w1).alloc (Nat.le_refl _) _).trans (hb2.mono (by omega))); have hb4 := hb1.trans (hb3.mono hb1.size); have hs2 := hb2.size) | (go_at_call 21; refine (hQ _ _ _ _ _ (((hI.below hb3).more hb3.size).alloc' _) (by simpa using Ints.of_new w2 3 [1, 2, 0] (by simp))).mono ?_; rintro e w' ⟨rfl, m3, rfl⟩; have hb5 := fun t t2 t3 => (((below_drewN ((Below.refl _ w2).alloc (Nat.le_refl _) (.cells #[.int .i64 1, .int .i64 2, .int .i64 0] 3)) m3).alloc (by simp) t).alloc (by simp; omega) t2).alloc (by simp; omega) t3; have hlit := lit_rows ((w2.alloc (.cells #[.int .i64 1, .int .i64 2, .int .i64 0] 3)).drewN m3)) | (go_at_call 34; refine (hS _ _ _ _ _ ((HLL.below (hb5 _ _ _)).more (hb5 _ _ _).size) (by simpa using hlit)).mono ?_; rintro e w' ⟨rfl, m7, rfl⟩))
  go_ret
  exact ⟨rfl, below_drewN (hb4.trans ((hb5 _ _ _).mono hb4.size)) m7⟩
end Go.Proofs.Ytnjjmeaggnlafaa
