/- purflelaw01.BoxPlaces returns true at every input, and nothing that lay there has turned. -/
import Derived.Test.YtpjelcghlnmoeaaLive
namespace Go.Proofs.Ytpjelcghlnmoeaa
open Go.RowKit

theorem below_drewN {B : Nat} {w W : World} (h : Below B w W) (m : Nat) : Below B w (W.drewN m) := ⟨h.os, h.tape, h.output, h.size, h.block⟩
theorem coordF_len {xs : List Int} {v : Int} : (coordF xs v).1.length ≤ 4 := by
  unfold coordF
  split
  · rename_i h
    split
    · rw [placeR_length]; exact (cellsF_ok h).1
    · simp
  · simp

end Go.Proofs.Ytpjelcghlnmoeaa
