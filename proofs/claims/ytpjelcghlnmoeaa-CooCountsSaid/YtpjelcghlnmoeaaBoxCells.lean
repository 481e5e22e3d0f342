/- purflelaw01.BoxCells returns true at every input, and nothing that lay there has turned. -/
import Derived.Test.YtpjelcghlnmoeaaZero
namespace Go.Proofs.Ytpjelcghlnmoeaa
open Go.RowKit Go.Sort

def zS (xs : List Int) : List Int := if (laidF xs).2 = 0 then xs else []
def zV (xs : List Int) : List Int := if (laidF xs).2 = 0 then List.replicate (laidF xs).1.toNat 0 else []

theorem zero_any (A : Option Addr) (n c : Nat) (xs : List Int) (w : World) (h : Ints w w.heap.size A n xs) (hn : n ≤ 9223372036854775807) :
    Calls Try.prog 58 #[.slice A n c] w fun e w' => ∃ A1 c1 A2 c2, e = .returned (.tuple #[.agg #[.slice A1 (zS xs).length c1, .slice A2 (zV xs).length c2], .int .i64 (laidF xs).2]) ∧ OwnI w' w.heap.size 3 A1 c1 (zS xs) ∧ OwnI w' w.heap.size 2 A2 c2 (zV xs) ∧ Below w.heap.size w w' := by
  by_cases he : (laidF xs).2 = 0
  · have hb := laidF_nonneg (xs := xs)
    have hn5 : n ≤ 100000 := by have := (cellsF_ok (laidF_ok he).1).1; rw [h.1] at this; omega
    refine (zero_ok A n c xs (laidF xs).1.toNat w h hn5 he (by omega) (by omega)).mono ?_
    rintro e w' ⟨A1, c1, A2, c2, rfl, h1, h2, h3⟩
    have e1 : zS xs = xs := by unfold zS; rw [if_pos he]
    have e2 : zV xs = List.replicate (laidF xs).1.toNat 0 := by unfold zV; rw [if_pos he]
    rw [e1, e2, he, h.1, List.length_replicate]
    exact ⟨A1, c1, A2, c2, rfl, h1, h2, h3⟩
  · refine (zero_err A n c xs w h hn he).mono ?_
    rintro e w' ⟨rfl, h3⟩
    have e1 : zS xs = [] := by unfold zS; rw [if_neg he]
    have e2 : zV xs = [] := by unfold zV; rw [if_neg he]
    rw [e1, e2]
    exact ⟨none, 0, none, 0, rfl, OwnI.nil_ _ _ _, OwnI.nil_ _ _ _, h3⟩
theorem refZero_any (A : Option Addr) (n c : Nat) (xs : List Int) (w : World) (h : Ints w w.heap.size A n xs) (hn : n ≤ 9223372036854775807) :
    Calls Try.prog 59 #[.slice A n c] w fun e w' => ∃ A1 c1 A2 c2, e = .returned (.tuple #[.agg #[.slice A1 (zS xs).length c1, .slice A2 (zV xs).length c2], .int .i64 (laidF xs).2]) ∧ OwnI w' w.heap.size 3 A1 c1 (zS xs) ∧ OwnI w' w.heap.size 2 A2 c2 (zV xs) ∧ Below w.heap.size w w' := by
  by_cases he : (laidF xs).2 = 0
  · have hb := laidF_nonneg (xs := xs)
    have hn5 : n ≤ 100000 := by have := (cellsF_ok (laidF_ok he).1).1; rw [h.1] at this; omega
    refine (refZero_ok A n c xs (laidF xs).1.toNat w h hn5 he (by omega) (by omega)).mono ?_
    rintro e w' ⟨A1, c1, A2, c2, rfl, h1, h2, h3⟩
    have e1 : zS xs = xs := by unfold zS; rw [if_pos he]
    have e2 : zV xs = List.replicate (laidF xs).1.toNat 0 := by unfold zV; rw [if_pos he]
    rw [e1, e2, he, h.1, List.length_replicate]
    exact ⟨A1, c1, A2, c2, rfl, h1, h2, h3⟩
  · refine (refZero_err A n c xs w h hn he).mono ?_
    rintro e w' ⟨rfl, h3⟩
    have e1 : zS xs = [] := by unfold zS; rw [if_neg he]
    have e2 : zV xs = [] := by unfold zV; rw [if_neg he]
    rw [e1, e2]
    exact ⟨none, 0, none, 0, rfl, OwnI.nil_ _ _ _, OwnI.nil_ _ _ _, h3⟩
theorem zS_len (xs : List Int) : (zS xs).length ≤ 4 := by
  unfold zS; split
  · rename_i h; exact (cellsF_ok (laidF_ok h).1).1
  · simp
theorem zV_len (xs : List Int) : (zV xs).length ≤ 65536 := by
  unfold zV; split
  · have := laidF_nonneg (xs := xs); rw [List.length_replicate]; omega
  · simp

end Go.Proofs.Ytpjelcghlnmoeaa
