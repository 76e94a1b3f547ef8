/-
  Contracts of the specification's records: RecOk, RecText.
-/
import Derived.Test.YtmolhhljodlhaaaRecMath
import Derived.Test.YtmolhhljodlhaaaAppendTwo
import Derived.Deep.RegionHeldLaw
namespace Go.Proofs.Ytmolhhljodlhaaa
open Go.RowKit

theorem putB_pos {x : Int} (h0 : 0 ≤ x) (h1 : x ≤ 1000000000) : 0 < (putB x).length := by
  unfold putB
  rw [if_pos ⟨h0, h1⟩]
  exact (numF_len 4 x).1
theorem u8s_app (a b : List Int) : u8s a ++ u8s b = u8s (a ++ b) := by simp [u8s]

end Go.Proofs.Ytmolhhljodlhaaa
