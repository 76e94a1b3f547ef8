/-
  KidDrop: what the law's walk is handed.
-/
import Derived.Test.YtmolhhljodlhaabSpecKidDrop
import Derived.Test.YtmolhhljodlhaabHelp
namespace Go.Proofs.Ytmolhhljodlhaab
open Go.RowKit
set_option linter.unusedVariables false

theorem fnExactKidDrop_both (dir : Bool) (ns : List ByteArray) (ks : List Int) (dat : ByteArray) (name : ByteArray) (hk0 : ns.length ≤ 1048576) (hk1 : ks.length ≤ 1048576) (hsum : ns.length + ks.length + dat.size ≤ 1048576) (hd : dat.size ≤ 1048576) (hs : ∀ s ∈ ns, s.size ≤ 1048576) (hname : name.size ≤ 1048576) :
    ∃ (G0dir : Bool) (G0ns : List ByteArray) (G0ks : List Int) (G0dat : ByteArray) , (G0ns.length ≤ 600000 ∧ G0ks.length ≤ 600000) ∧ Hid (∀ (u : World) (u0 : Value), NodeRd u u0 dir ns ks dat → Calls Try.prog 5 #[u0, .string name] u fun e w' => ∃ v0, e = .returned (v0) ∧ (NodeOwn w' u.heap.size v0 G0dir G0ns G0ks G0dat) ∧ Below u.heap.size u w') ∧ Hid (∀ (u : World) (u0 : Value), NodeRd u u0 dir ns ks dat → Calls Try.prog 7 #[u0, .string name] u fun e w' => ∃ v0, e = .returned (v0) ∧ (NodeOwn w' u.heap.size v0 G0dir G0ns G0ks G0dat) ∧ Below u.heap.size u w') := by
  have hD := dropK_len (ns.zip ks) name
  have hz : (ns.zip ks).length = min ns.length ks.length := by simp
  refine ⟨dir, (dropK (ns.zip ks) name).map Prod.fst, (dropK (ns.zip ks) name).map Prod.snd, dat, ⟨by rw [List.length_map]; omega, by rw [List.length_map]; omega⟩, fun u u0 h => ?_, fun u u0 h => ?_⟩
  · obtain ⟨a, c, b, d, rfl, hp, hw⟩ := h
    exact specKidDrop_any dir a b ns ks dat name c d u hp hw hk0 hk1
  · obtain ⟨a, c, b, d, rfl, hp, hw⟩ := h
    exact implKidDrop_any dir a b ns ks dat name c d u hp hw hk0 hk1
end Go.Proofs.Ytmolhhljodlhaab
