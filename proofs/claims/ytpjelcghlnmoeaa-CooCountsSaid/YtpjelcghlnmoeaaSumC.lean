/- What box.Sum calls: slices.Grow from nothing, slices.Concat of two lists, box.stepOf. -/
import Derived.Test.YtpjelcghlnmoeaaOnes
import Derived.Test.YtpjelcghlnmoeaaBoth
import Derived.Lib.Walk
import Derived.Lib.SliceRun
import Derived.Lib.AppendZerosOnto
namespace Go.Proofs.Ytpjelcghlnmoeaa
open Go.RowKit Go.Shelf
attribute [local go_sem] Oper.semAt_some

end Go.Proofs.Ytpjelcghlnmoeaa
