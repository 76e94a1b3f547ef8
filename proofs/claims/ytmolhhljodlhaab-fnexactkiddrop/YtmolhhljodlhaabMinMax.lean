/-
  Contracts of the specification's l1Min and l1Max.
-/
import Derived.Test.YtmolhhljodlhaabChecked
import Derived.Test.YtmolhhljodlhaabLib
namespace Go.Proofs.Ytmolhhljodlhaab
open Go.RowKit

end Go.Proofs.Ytmolhhljodlhaab
