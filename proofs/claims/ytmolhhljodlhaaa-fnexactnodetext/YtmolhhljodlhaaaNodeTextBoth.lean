/-
  NodeText: what the law's walk is handed.
-/
import Derived.Test.YtmolhhljodlhaaaImplNodeText
import Derived.Test.YtmolhhljodlhaaaSpecNodeText
import Derived.Test.YtmolhhljodlhaaaHelp
namespace Go.Proofs.Ytmolhhljodlhaaa
open Go.RowKit

theorem fnExactNodeText_both (dir : Bool) (ns : List ByteArray) (ks : List Int) (dat : ByteArray) (hk0 : ns.length ≤ 1048576) (hk1 : ks.length ≤ 1048576) (hd : dat.size ≤ 1048576) (hs : ∀ s ∈ ns, s.size ≤ 1048576) :
    ∃  (S0 : ByteArray), (True) ∧ Hid (∀ (u : World) (u0 : Value), NodeRd u u0 dir ns ks dat → Calls Try.prog 16 #[u0] u fun e w' => e = .returned (.string S0) ∧ Below u.heap.size u w') ∧ Hid (∀ (u : World) (u0 : Value), NodeRd u u0 dir ns ks dat → Calls Try.prog 17 #[u0] u fun e w' => e = .returned (.string S0) ∧ Below u.heap.size u w') := by
  refine ⟨nodeT dir ns ks dat, trivial, fun u u0 h => ?_, fun u u0 h => ?_⟩
  · obtain ⟨a, c, b, d, rfl, hp, hw⟩ := h
    exact specNodeText_any dir a b ns ks dat c d u hp hw hk0 hk1 hs hd
  · obtain ⟨a, c, b, d, rfl, hp, hw⟩ := h
    exact implNodeText_any dir a b ns ks dat c d u hp hw hk0 hk1 hs hd
end Go.Proofs.Ytmolhhljodlhaaa
