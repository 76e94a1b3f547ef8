/-
  Contract of the specification's Mount.
-/
import Derived.Test.YtmolhhljodlhaaaMountMath
import Derived.Test.YtmolhhljodlhaaaSpecRead
import Derived.Test.YtmolhhljodlhaaaSpecBurn
import Derived.Test.YtmolhhljodlhaaaSpecWipe
import Derived.Deep.QuietTactic
import Derived.BigQuiet
namespace Go.Proofs.Ytmolhhljodlhaaa
open Go.RowKit

/-- What is mounted, its three rows the call's own, in three blocks. -/
def FtlOwn (w : World) (base : Nat) (v : Value) (ps : List ByteArray) (ws ms : List Int) (q : Int) : Prop :=
  ∃ v1 v2 v3, v = .agg #[v1, v2, v3, .int .i64 q] ∧ w.ownsRow base 9 1 v1 ps.length (vsString ps) ∧ w.ownsRow base 3 1 v2 ws.length (vsInt ws) ∧ w.ownsRow base 3 1 v3 ms.length (vsInt ms) ∧
    (∀ k, v1.ownBlock = some k → v2.ownBlock ≠ some k) ∧ (∀ k, v1.ownBlock = some k → v3.ownBlock ≠ some k) ∧ (∀ k, v2.ownBlock = some k → v3.ownBlock ≠ some k)
theorem ftlOwn_zero (w : World) (base : Nat) : FtlOwn w base (.agg #[.slice none 0 0, .slice none 0 0, .slice none 0 0, .int .i64 0]) [] [] [] 0 :=
  ⟨_, _, _, rfl, World.ownsRow_nil _ _ _ _, World.ownsRow_nil _ _ _ _, World.ownsRow_nil _ _ _ _, fun k hk => by simp [Value.ownBlock] at hk, fun k hk => by simp [Value.ownBlock] at hk, fun k hk => by simp [Value.ownBlock] at hk⟩

end Go.Proofs.Ytmolhhljodlhaaa
