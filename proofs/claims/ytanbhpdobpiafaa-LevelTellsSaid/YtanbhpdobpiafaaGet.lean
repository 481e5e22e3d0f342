/- The contracts of the document's Same, of box.Get and the document's Get. -/
import Derived.Test.YtanbhpdobpiafaaDense
namespace Go.Proofs.Ytanbhpdobpiafaa
open Go.RowKit

/-- Get -/
def getF (xs : List Int) (m : Nat) (ys cs : List Int) : Int × Int := if checkF xs m = 0 then if (atF xs cs).2 = 0 then (ys.getD (atF xs cs).1.toNat 0, 0) else (0, (atF xs cs).2) else (0, checkF xs m)
theorem checkF_ok {xs : List Int} {m : Nat} (h : checkF xs m = 0) : (cellsF xs).2 = 0 ∧ (m : Int) = (cellsF xs).1 ∧ m ≤ 65536 := by
  unfold checkF at h
  split at h
  · rename_i h1
    split at h
    · rename_i h2
      have ha := laidF_ok h1
      have hb := laidF_nonneg (xs := xs)
      exact ⟨ha.1, by omega, by omega⟩
    · simp at h
  · rename_i h1; exact absurd h h1
theorem atF_ok {xs cs : List Int} (h : (atF xs cs).2 = 0) : (cellsF xs).2 = 0 ∧ Inn xs cs ∧ (atF xs cs).1 = numR xs cs ∧ prodI xs = (cellsF xs).1 := by
  unfold atF at h ⊢
  split at h
  · rename_i h1
    split at h
    · rename_i h2
      have hI := inn_of_insideF h2
      rw [if_pos h1, if_pos h2]
      exact ⟨h1, hI, rfl, (cellsF_ok_pos h1 hI.pos).1.symm⟩
    · simp at h
  · rename_i h1; exact absurd h h1
theorem one_box {w w1 : World} {a b : Value} {t : TypeId} (hb : Below (w.alloc (.cells #[a, b] t)).heap.size (w.alloc (.cells #[a, b] t)) w1) :
    w1.cell? ⟨w.heap.size, 0, none⟩ = some a ∧ w1.cell? ⟨w.heap.size, 1, none⟩ = some b := by
  have h0 : (w.alloc (.cells #[a, b] t)).heap[w.heap.size]? = some (.cells #[a, b] t (0, 0)) := heap_alloc_new w _
  have k1 := (hb.block w.heap.size (by simp)).trans h0
  exact ⟨by simpa using cell_of_row _ _ 0 _ t (0, 0) k1, by simpa using cell_of_row _ _ 1 _ t (0, 0) k1⟩

end Go.Proofs.Ytanbhpdobpiafaa
