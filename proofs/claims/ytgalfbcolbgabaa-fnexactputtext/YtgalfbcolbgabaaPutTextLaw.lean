/-
  FnExactPutText is true at every string: impl.PutText answers what spec.PutText does, in memory of its own. No conditions.
-/
import Derived.Test.YtgalfbcolbgabaaRows
import Derived.Test.YtgalfbcolbgabaaHelp
import Derived.Test.YtgalfbcolbgabaaPut
import Derived.Test.YtgalfbcolbgabaaPutText
import Derived.WalkKit
import Derived.ProofKit
import Derived.OpenShut
import Derived.ShutString
namespace Go.Proofs.Ytgalfbcolbgabaa.fnExactPutText
open Go.ChangeShapes Go.WideShapes Go.ChangeAt Go.RowKit
open Go.ChangeMaps (open_string shut_string)
set_option linter.unusedVariables false      -- a walk need not use every 'w<i>' (that an integer argument fits its kind)

theorem own : ownKnob Try.prog.godebug = none := by kernel_rfl

theorem walk (a0 : ByteArray) (w0 : a0.size ≤ maxLen) (w : World) :
    Calls Try.prog 6 #[.string a0] w fun e w' => e = .returned (.bool true) ∧ Below w.heap.size w w' := by
  have hpl := textB_len a0
  have hpb := textB_bytes a0
  by_cases hbig : (1048576 : Int) < (a0.size : Int)
  · unfold maxLen at w0
    go_enter Try.func6, Try.ntmps6
    go_wp2
    go_ret
    exact ⟨rfl, Below.refl _ _⟩
  go_enter Try.func6, Try.ntmps6
  go_wp2_with fail
  refine (specPutText_any a0 _ w0).mono ?_
  rintro e w1 ⟨v0, rfl, ho0, hb1⟩
  obtain ⟨b0, c0, hv0, hr0⟩ := owns_open ho0
  subst hv0
  go_wp2_with fail
  refine (implPutText_any a0 _ w0).mono ?_
  rintro e w2 ⟨v1, rfl, ho1, hb2⟩
  obtain ⟨b1, c1, hv1, hr1⟩ := owns_open ho1
  subst hv1
  go_wp2_with fail
  refine (eqByteS_any _ _ (textB a0) (textB a0) _ _ _ hr1 (hr0.below hb2) hpb hpb (by unfold maxLen; omega) (by unfold maxLen; omega)).mono ?_
  rintro e w2' ⟨rfl, n2, rfl⟩
  go_wp2_with fail
  refine (markByteS_any _ (textB a0).length (u8s (textB a0)) w1.heap.size (w2.drewN n2) ho1 (by omega)).mono ?_
  rintro e w3 ⟨rfl, ho1', hg3⟩
  have hb3 : Below w1.heap.size (w2.drewN n2) w3 := grown_below (w := w2.drewN n2) ho1 hg3 hb2.size
  go_wp2_with fail
  refine (heldByteS_any _ (textB a0).length w1.heap.size _ ho1' (by omega)).mono ?_
  rintro e w3 ⟨rfl, rfl⟩
  go_wp2_with fail
  refine (implPutText_any a0 _ w0).mono ?_
  rintro e w4 ⟨v2, rfl, ho2, hb4⟩
  obtain ⟨b2, c2, hv2, hr2⟩ := owns_open ho2
  subst hv2
  have hr0' : Rd w4 b0 (u8s (textB a0)) := (hr0.below ((after_drew hb2 n2).trans hb3)).below hb4
  go_wp2_with fail
  refine (eqByteS_any _ _ (textB a0) (textB a0) _ _ _ hr2 hr0' hpb hpb (by unfold maxLen; omega) (by unfold maxLen; omega)).mono ?_
  rintro e w4' ⟨rfl, n4, rfl⟩
  go_wp2_with fail
  refine (heldByteS_any _ (textB a0).length w1.heap.size (w4.drewN n4) (owns_below ho1' (after_drew hb4 n4)) (by omega)).mono ?_
  rintro e w5 ⟨rfl, rfl⟩
  go_wp2
  go_ret
  exact ⟨rfl, after_drew (after (after_drew (after hb1 hb2) n2 |>.trans (hb3.mono hb1.size)) hb4) n4⟩

set_option maxRecDepth 100000 in
theorem lifted (os : Os) (started : os.Started) (H : Type) (enc : TypeId × Value → H) :
    ReturnsInHanded {} Try.checked os 6 .any (Rows.fnExactPutTextSpec.pre6 enc Try.prog Try.f6 Rows.fnExactPutTextRow.domain false) (Rows.fnExactPutTextSpec.post enc Try.prog Try.f6 false true false false) := by
  refine returnsInHanded_of_change (C := Try.checked) own started (by kernel_rfl) Try.func6
    (ChangeSpec.witness6 (enc := enc) (C := Try.checked) false ⟨#[], #[.string ByteArray.empty], []⟩ 8 (by kernel_rfl) (by kernel_rfl) (by kernel_rfl) (by kernel_rfl)) ?_
  intro W base args ds gs before hval0 hW hcnd _
  have hval : ∀ (j : Nat) t v, Try.f6.params[j]? = some t → args[j]? = some v → Value.okWide Try.prog W .any base t v := hval0
  have hW' := hW
  obtain ⟨p, q, hA0, hV, rfl, hfz, hnd⟩ := hW
  have hA : DataW.TrodAll enc Try.prog W 0 (fun _ => true) true Try.f6.params.toList args.toList ds p := hA0
  rw [Try.params6] at hA hval
  obtain ⟨v0, vs0, d0, ds0, p0, q0, hargs, rfl, rfl, h0, r0⟩ := trodAll_cons hA
  obtain ⟨rfl, rfl, rfl⟩ := trodAll_nil r0
  obtain rfl : args = #[v0] := by cases args; simp_all
  obtain ⟨rfl, rfl⟩ := trodVars_none hV
  obtain ⟨a0, rfl, rfl, rfl, w0⟩ := open_string Try.underlying9 (hval 0 9 v0 rfl rfl) h0
  clear hA0 hval0
  refine (walk a0 w0 W).mono fun e W' ⟨he, bel⟩ => ?_
  subst he
  exact ⟨_, rfl, _, _, _, [], _, [], hW', trodAll_mk1 (shut_bool Try.underlying4 _), (trodAll_cons_mk (shut_string Try.underlying9 w0) trodAll_mk0), rfl, bel.frame _, fun h => by cases h⟩

theorem over : Rows.fnExactPutTextRow.holds Try.pinned (OpenSpec.ofChange Rows.fnExactPutTextSpec) :=
  OpenClaim.holds_of_wide 6 Try.f6 rfl rfl rfl rfl rfl rfl rfl ⟨rfl, rfl, rfl, rfl, rfl⟩ rfl rfl rfl rfl rfl (by kernel_rfl) Try.func6 (by kernel_rfl)
    (of_decide_eq_true (by kernel_rfl)) (by unfold Func.isWrapper; first | (rw [if_pos (by decide +kernel)]; kernel_rfl) | (rw [if_neg (by decide +kernel)]; exact ⟨rfl, rfl⟩))
    (fun os started H enc _ => lifted os started H enc)

end Go.Proofs.Ytgalfbcolbgabaa.fnExactPutText

namespace Go.Proofs.Ytgalfbcolbgabaa
theorem fnExactPutText_holds : Rows.FnExactPutTextSaid := fnExactPutText.over
#print axioms fnExactPutText_holds
end Go.Proofs.Ytgalfbcolbgabaa
