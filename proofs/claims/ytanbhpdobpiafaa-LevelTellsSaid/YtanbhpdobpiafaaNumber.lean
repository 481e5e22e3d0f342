/- The contracts of the document's number, place, At and Coord. -/
import Derived.Test.YtanbhpdobpiafaaInside
import Derived.Test.YtanbhpdobpiafaaMath
namespace Go.Proofs.Ytanbhpdobpiafaa
open Go.RowKit

/-- the document's At, whole -/
def atF (xs cs : List Int) : Int × Int := if (cellsF xs).2 = 0 then if insideF xs cs = true then (numR xs cs, 0) else (0, 3) else (0, (cellsF xs).2)

end Go.Proofs.Ytanbhpdobpiafaa
