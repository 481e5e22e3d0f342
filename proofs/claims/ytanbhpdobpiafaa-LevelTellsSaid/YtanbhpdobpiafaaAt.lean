/- The contract of box.At. -/
import Derived.Test.YtanbhpdobpiafaaFrom
import Derived.Test.YtanbhpdobpiafaaInside
import Derived.Test.YtanbhpdobpiafaaMath
import Derived.Test.YtanbhpdobpiafaaRound
import Derived.Test.YtanbhpdobpiafaaNumber
namespace Go.Proofs.Ytanbhpdobpiafaa
open Go.RowKit Go.Shelf
attribute [local go_sem] Oper.semAt_some

theorem at_round {W w : World} {v : Value} {a a' : Int} {z : Int} (hc : W.cell? ⟨w.heap.size + 1, 0, none⟩ = some (.int .i64 a)) (hf : W.frozen? ⟨w.heap.size + 1, 0, none⟩ = false) (hcb : W.cell? ⟨w.heap.size, 0, none⟩ = some v) (hB : Below w.heap.size w W) (ha : a' = z) :
    KeepsOthers W (W.setCell ⟨w.heap.size + 1, 0, none⟩ (.int .i64 a')).drew ∧ KeepBox (w.heap.size + 1 + 1) w.heap.size W (W.setCell ⟨w.heap.size + 1, 0, none⟩ (.int .i64 a')).drew ∧
      ((W.setCell ⟨w.heap.size + 1, 0, none⟩ (.int .i64 a')).drew.cell? ⟨w.heap.size + 1, 0, none⟩ = some (.int .i64 z) ∧ (W.setCell ⟨w.heap.size + 1, 0, none⟩ (.int .i64 a')).drew.frozen? ⟨w.heap.size + 1, 0, none⟩ = false ∧
        (W.setCell ⟨w.heap.size + 1, 0, none⟩ (.int .i64 a')).drew.cell? ⟨w.heap.size, 0, none⟩ = some v) ∧ Below w.heap.size w (W.setCell ⟨w.heap.size + 1, 0, none⟩ (.int .i64 a')).drew := by
  subst ha
  refine ⟨(KeepsOthers.setCell _ _ _).trans (KeepsOthers.drew _), (KeepBox.of_setCell (p := ⟨w.heap.size + 1, 0, none⟩) (by simp) (by simp) _).drew, ⟨?_, ?_, ?_⟩, (hB.setCell (p := ⟨w.heap.size + 1, 0, none⟩) (by simp) _).drew⟩
  · exact World.cell?_setCell_same' _ _ _ (by rw [hc]; rfl)
  · rw [frozen_drew_own, World.frozen?_setCell]; exact hf
  · exact (World.cell?_setCell_other W _ ⟨w.heap.size, 0, none⟩ _ (by simp)).trans hcb

end Go.Proofs.Ytanbhpdobpiafaa
