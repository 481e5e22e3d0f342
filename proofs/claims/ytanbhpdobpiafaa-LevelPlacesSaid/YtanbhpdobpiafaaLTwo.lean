/- The cells of a block of two. Nothing is claimed of the program here. -/
import Derived.Test.YtanbhpdobpiafaaLAllX
namespace Go.Proofs.Ytanbhpdobpiafaa
open Go.RowKit

theorem twoCells {W : World} {g : Nat} {u v : Value} {t : TypeId} (h : W.heap[g]? = some (.cells #[u, v] t (0, 0))) :
    W.cell? ⟨g, 0, none⟩ = some u ∧ W.cell? ⟨g, 1, none⟩ = some v ∧ W.frozen? ⟨g, 0, none⟩ = false ∧ W.frozen? ⟨g, 1, none⟩ = false :=
  ⟨by simpa using cell_of_row _ _ 0 _ t (0, 0) h, by simpa using cell_of_row _ _ 1 _ t (0, 0) h, by simp [World.frozen?, h], by simp [World.frozen?, h]⟩

end Go.Proofs.Ytanbhpdobpiafaa
