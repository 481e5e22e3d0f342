/- How a tensor that came in reads, with the room of its shape and of its cells. -/
import Derived.Test.YtanbhpdobpiafaaOpenc
namespace Go.Proofs.Ytanbhpdobpiafaa
open Go.ChangeShapes Go.WideShapes Go.ChangeAt Go.RowKit

section
variable {H : Type} {enc : TypeId × Value → H} {w : World} {base : Nat} {spare : Nat → Bool} {held : Bool}
end
end Go.Proofs.Ytanbhpdobpiafaa
