/-
  Contract of the specification's l1In.
-/
import Derived.Test.YtmolhhljodlhaabChecked
import Derived.Test.YtmolhhljodlhaabLib
namespace Go.Proofs.Ytmolhhljodlhaab
open Go.RowKit

end Go.Proofs.Ytmolhhljodlhaab
