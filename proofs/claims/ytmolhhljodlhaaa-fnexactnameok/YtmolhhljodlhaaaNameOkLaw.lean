/-
  FnExactNameOk is true at every argument, and leaves it as it was: impl.NameOk answers what spec.NameOk does, in memory of its own. No conditions.
-/
import Derived.Test.YtmolhhljodlhaaaRows
import Derived.Test.YtmolhhljodlhaaaArgFtl
import Derived.Test.YtmolhhljodlhaaaNameBoth
import Derived.WalkKit
import Derived.ProofKit
import Derived.OpenShut
import Derived.ShutString
import Derived.ChangeOld
import Derived.Below
namespace Go.Proofs.Ytmolhhljodlhaaa.fnExactNameOk
open Go.ChangeShapes Go.WideShapes Go.ChangeAt Go.RowKit
open Go.ChangeMaps (open_string shut_string)
set_option linter.unusedVariables false

theorem own : ownKnob Try.prog.godebug = none := by kernel_rfl
theorem laidOut : laidOutB Try.prog = true := by kernel_rfl

set_option maxRecDepth 100000 in
set_option maxHeartbeats 12800000 in
theorem walk (s : ByteArray) (w : World) (hs : s.size ≤ maxLen) :
    Calls Try.prog 3 #[.string s] w fun e w' => e = .returned (.bool true) ∧ Below w.heap.size w w' := by
  obtain ⟨W, hW⟩ : ∃ W, W = w := ⟨_, rfl⟩
  have hbW : Below w.heap.size w W := by rw [hW]; exact Below.refl _ _
  by_cases hbigs : (1048576 : Int) < (s.size : Int)
  · unfold maxLen at hs
    go_enter Try.func3, Try.ntmps3
    go_wp2
    go_ret
    exact ⟨rfl, by first | exact hW ▸ hbW | exact Below.refl _ _⟩
  have hs' : s.size ≤ 1048576 := by omega
  go_enter Try.func3, Try.ntmps3
  go_wp2_with fail
  rw [← hW]
  clear hW
  obtain ⟨S0, -, HSP, HIM⟩ : ∃  (S0 : Bool), (True) ∧ Hid (∀ (u : World) , Calls Try.prog 9 #[.string s] u fun e w' => e = .returned (.bool S0) ∧ Below u.heap.size u w') ∧ Hid (∀ (u : World) , Calls Try.prog 10 #[.string s] u fun e w' => e = .returned (.bool S0) ∧ Below u.heap.size u w') :=
    fnExactNameOk_both s hs'
  refine (HSP.out W).mono ?_
  rintro e w3 ⟨rfl, hb3⟩
  obtain ⟨V3, hV3⟩ : ∃ V, V = w3 := ⟨_, rfl⟩
  have hbV3 : Below w3.heap.size w3 V3 := by rw [hV3]; exact Below.refl _ _
  replace hbW := after hbW hb3
  replace hbW := after hbW hbV3
  clear hb3 hbV3 HSP
  go_wp2_with fail
  rw [← hV3]
  clear hV3
  have HV : Below V3.heap.size V3 V3 := Below.refl _ _
  refine (HIM.out V3 ).mono ?_
  rintro e w5 ⟨rfl, hb5⟩
  obtain ⟨V5, hV5⟩ : ∃ V, V = w5 := ⟨_, rfl⟩
  have hbV5 : Below w5.heap.size w5 V5 := by rw [hV5]; exact Below.refl _ _
  have hb3w5 := HV.trans (hb5.mono HV.size)
  have hbx := after hb5 hbV5
  replace HV := HV.trans (hbx.mono HV.size)
  clear hbx
  clear  hb5 hbV5
  have hfS0 : (S0 != S0) = false := by simp
  rw [← hV5]
  clear hV5 hb3w5
  have hfin : Below w.heap.size w V5 := after hbW HV
  clear  HV HIM 
  go_wp2
  go_ret
  exact ⟨rfl, hfin⟩

set_option maxRecDepth 100000 in
theorem lifted (os : Os) (started : os.Started) (H : Type) (enc : TypeId × Value → H) :
    ReturnsInHanded {} Try.checked os 3 .any (Rows.fnExactNameOkSpec.pre6 enc Try.prog Try.f3 Rows.fnExactNameOkRow.domain false) (Rows.fnExactNameOkSpec.post enc Try.prog Try.f3 false true false false) := by
  refine returnsInHanded_of_change (C := Try.checked) own started (by kernel_rfl) Try.func3
    (ChangeSpec.witness6 (enc := enc) (C := Try.checked) false ⟨#[], #[.string ⟨#[]⟩], []⟩ 8 (by kernel_rfl) (by kernel_rfl) (by kernel_rfl) (by kernel_rfl)) ?_
  intro W base args ds gs before hval0 hW hcnd _
  have hval : ∀ (j : Nat) t v, Try.f3.params[j]? = some t → args[j]? = some v → Value.okWide Try.prog W .any base t v := hval0
  have hW' := hW
  obtain ⟨p, q, hA0, hV, rfl, hfz, hnd⟩ := hW
  have hA : DataW.TrodAll enc Try.prog W 0 (fun _ => true) true Try.f3.params.toList args.toList ds p := hA0
  rw [Try.params3] at hA hval
  obtain ⟨v0, vs0, d0, ds0, p0, q0, hargs, rfl, rfl, h0, r0⟩ := trodAll_cons hA
  obtain ⟨rfl, rfl, rfl⟩ := trodAll_nil r0
  obtain rfl : args = #[v0] := by cases args; simp_all
  obtain ⟨rfl, rfl⟩ := trodVars_none hV
  obtain ⟨x0, rfl, rfl, rfl, w0⟩ := open_string Try.underlying9 (hval 0 9 v0 rfl rfl) h0
  clear hA0 hval0
  refine (walk x0 W w0).mono fun e W' ⟨he, bel⟩ => ?_
  subst he
  exact ⟨_, rfl, _, _, _, [], _, [], hW', trodAll_mk1 (shut_bool Try.underlying4 _), (trodAll_cons_mk (shut_string Try.underlying9 w0) trodAll_mk0), rfl, bel.frame _, fun h => by cases h⟩

theorem over : Rows.fnExactNameOkRow.holds Try.pinned (OpenSpec.ofChange Rows.fnExactNameOkSpec) :=
  OpenClaim.holds_of_wide 3 Try.f3 rfl rfl rfl rfl rfl rfl rfl ⟨rfl, rfl, rfl, rfl, rfl⟩ rfl rfl rfl rfl rfl (by kernel_rfl) Try.func3 (by kernel_rfl)
    (of_decide_eq_true (by kernel_rfl)) (by unfold Func.isWrapper; first | (rw [if_pos (by decide +kernel)]; kernel_rfl) | (rw [if_neg (by decide +kernel)]; exact ⟨rfl, rfl⟩))
    (fun os started H enc _ => lifted os started H enc)

end Go.Proofs.Ytmolhhljodlhaaa.fnExactNameOk

namespace Go.Proofs.Ytmolhhljodlhaaa
theorem fnExactNameOk_holds : Rows.FnExactNameOkSaid := fnExactNameOk.over
#print axioms fnExactNameOk_holds
end Go.Proofs.Ytmolhhljodlhaaa
