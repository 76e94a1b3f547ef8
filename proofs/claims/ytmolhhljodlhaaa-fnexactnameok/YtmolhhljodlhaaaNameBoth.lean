/-
  NameOk: what the law's walk is handed.
-/
import Derived.Test.YtmolhhljodlhaaaNameOk
import Derived.Test.YtmolhhljodlhaaaHelp
namespace Go.Proofs.Ytmolhhljodlhaaa
open Go.RowKit

theorem fnExactNameOk_both (s : ByteArray) (hs : s.size ≤ 1048576) :
    ∃  (S0 : Bool), (True) ∧ Hid (∀ (u : World) , Calls Try.prog 9 #[.string s] u fun e w' => e = .returned (.bool S0) ∧ Below u.heap.size u w') ∧ Hid (∀ (u : World) , Calls Try.prog 10 #[.string s] u fun e w' => e = .returned (.bool S0) ∧ Below u.heap.size u w') := by
  refine ⟨nameB s, trivial, fun u => ?_, fun u => ?_⟩
  · refine (specNameOk_any s (by omega) u).mono ?_
    rintro e w' ⟨rfl, rfl⟩
    exact ⟨rfl, Below.refl _ _⟩
  · refine (implNameOk_any s (by omega) u).mono ?_
    rintro e w' ⟨rfl, rfl⟩
    exact ⟨rfl, Below.refl _ _⟩
end Go.Proofs.Ytmolhhljodlhaaa
