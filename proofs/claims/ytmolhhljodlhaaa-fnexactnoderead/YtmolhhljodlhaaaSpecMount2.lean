/-
  Contract of the specification's Mount, of a chip that is right.
-/
import Derived.Test.YtmolhhljodlhaaaMountInv
import Derived.Test.YtmolhhljodlhaaaMinMax
import Derived.Laws.MakeOwn
namespace Go.Proofs.Ytmolhhljodlhaaa
open Go.RowKit

theorem made_ints (n : Nat) : madeCells (Value.int .i64 0).cells n = (vsInt (List.replicate n 0)).toArray := by
  have e : vsInt (List.replicate n 0) = List.replicate n (Value.int .i64 0) := List.map_replicate
  rw [e]
  exact Array.ext (by simp [madeCells]) (fun i h1 h2 => by simp [madeCells, Value.cells, Nat.mod_one])

end Go.Proofs.Ytmolhhljodlhaaa
