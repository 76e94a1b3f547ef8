/-
  Kid: what the law's walk is handed.
-/
import Derived.Test.YtmolhhljodlhaaaImplKid
import Derived.Test.YtmolhhljodlhaaaHelp
namespace Go.Proofs.Ytmolhhljodlhaaa
open Go.RowKit
set_option linter.unusedVariables false

theorem fnExactKid_both (dir : Bool) (ns : List ByteArray) (ks : List Int) (dat : ByteArray) (name : ByteArray) (hk0 : ns.length ≤ 1048576) (hk1 : ks.length ≤ 1048576) (hd : dat.size ≤ 1048576) (hs : ∀ s ∈ ns, s.size ≤ 1048576) (hname : name.size ≤ 1048576) :
    ∃  (S0 : Int), (True) ∧ Hid (∀ (u : World) (u0 : Value), NodeRd u u0 dir ns ks dat → Calls Try.prog 22 #[u0, .string name] u fun e w' => e = .returned (.int .i64 S0) ∧ Below u.heap.size u w') ∧ Hid (∀ (u : World) (u0 : Value), NodeRd u u0 dir ns ks dat → Calls Try.prog 23 #[u0, .string name] u fun e w' => e = .returned (.int .i64 S0) ∧ Below u.heap.size u w') := by
  refine ⟨kidR (ns.zip ks) name, trivial, fun u u0 h => ?_, fun u u0 h => ?_⟩
  · obtain ⟨a, c, b, d, rfl, hp, hw⟩ := h
    exact specKid_any dir a b ns ks dat name c d u hp hw hk0 hk1
  · obtain ⟨a, c, b, d, rfl, hp, hw⟩ := h
    exact implKid_any dir a b ns ks dat name c d u hp hw hk0 hk1
end Go.Proofs.Ytmolhhljodlhaaa
