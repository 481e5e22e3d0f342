/- How a tensor that came in reads, with the room of its shape and of its cells. -/
import Derived.Test.YtnjjmeaggnlafaaOpenc
namespace Go.Proofs.Ytnjjmeaggnlafaa
open Go.ChangeShapes Go.WideShapes Go.ChangeAt Go.RowKit

section
variable {H : Type} {enc : TypeId × Value → H} {w : World} {base : Nat} {spare : Nat → Bool} {held : Bool}
end
end Go.Proofs.Ytnjjmeaggnlafaa
