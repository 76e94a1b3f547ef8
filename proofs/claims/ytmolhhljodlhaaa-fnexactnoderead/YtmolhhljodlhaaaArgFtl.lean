/-
  What is mounted, as it came in as an argument; chips too, as values that can be read.
-/
import Derived.Test.YtmolhhljodlhaaaLawKit
namespace Go.Proofs.Ytmolhhljodlhaaa
open Go.RowKit Go.ChangeShapes Go.WideShapes Go.ChangeAt Go.Joins Go.Deep
set_option maxRecDepth 100000

end Go.Proofs.Ytmolhhljodlhaaa
