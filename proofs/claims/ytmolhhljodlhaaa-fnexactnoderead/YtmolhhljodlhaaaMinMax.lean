/-
  Contracts of the specification's l1Min and l1Max.
-/
import Derived.Test.YtmolhhljodlhaaaChecked
import Derived.Test.YtmolhhljodlhaaaLib
namespace Go.Proofs.Ytmolhhljodlhaaa
open Go.RowKit

end Go.Proofs.Ytmolhhljodlhaaa
