/- box.both at the closure of box.Mul: two tensors of one shape. -/
import Derived.Test.YtapbcmhkipaecaaG5
namespace Go.Proofs.Ytapbcmhkipaecaa
open Go.RowKit

end Go.Proofs.Ytapbcmhkipaecaa
