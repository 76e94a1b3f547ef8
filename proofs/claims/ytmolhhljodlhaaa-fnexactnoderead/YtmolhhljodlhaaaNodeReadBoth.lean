/-
  NodeRead: what the law's walk is handed.
-/
import Derived.Test.YtmolhhljodlhaaaSpecNodeRead
import Derived.Test.YtmolhhljodlhaaaHelp
namespace Go.Proofs.Ytmolhhljodlhaaa
open Go.RowKit
set_option linter.unusedVariables false

theorem fnExactNodeRead_both (t : ByteArray) (ht : t.size ≤ 1048576) :
    ∃ (G0dir : Bool) (G0ns : List ByteArray) (G0ks : List Int) (G0dat : ByteArray) (S1 : Bool), (G0ns.length ≤ 600000 ∧ G0ks.length ≤ 600000) ∧ Hid (∀ (u : World) , Calls Try.prog 18 #[.string t] u fun e w' => ∃ v0, e = .returned (.tuple #[v0, .bool S1]) ∧ (NodeOwn w' u.heap.size v0 G0dir G0ns G0ks G0dat) ∧ Below u.heap.size u w') ∧ Hid (∀ (u : World) , Calls Try.prog 19 #[.string t] u fun e w' => ∃ v0, e = .returned (.tuple #[v0, .bool S1]) ∧ (NodeOwn w' u.heap.size v0 G0dir G0ns G0ks G0dat) ∧ Below u.heap.size u w') := by
  have hK := readKids_len t
  exact ⟨readDir t, (readKids t).map Prod.fst, (readKids t).map Prod.snd, readDat t, readOk t, ⟨by rw [List.length_map]; omega, by rw [List.length_map]; omega⟩, fun u => specNodeRead_any t ht u, fun u => implNodeRead_any t ht u⟩
end Go.Proofs.Ytmolhhljodlhaaa
