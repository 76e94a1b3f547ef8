/-
  FnExactGetText is true at every byte slice and every int, and leaves the slice as it was: impl.GetText answers what spec.GetText does. No conditions.
-/
import Derived.Test.YtgalfbcolbgabaaRows
import Derived.Test.YtgalfbcolbgabaaHelp
import Derived.Test.YtgalfbcolbgabaaGetText
import Derived.WalkKit
import Derived.ProofKit
import Derived.OpenShut
import Derived.ShutString
import Derived.ChangeOld
import Derived.Below
namespace Go.Proofs.Ytgalfbcolbgabaa.fnExactGetText
open Go.ChangeShapes Go.WideShapes Go.ChangeAt Go.RowKit
open Go.ChangeMaps (open_string shut_string)
set_option linter.unusedVariables false

theorem own : ownKnob Try.prog.godebug = none := by kernel_rfl
theorem laidOut : laidOutB Try.prog = true := by kernel_rfl

theorem walk (a0 : Option Addr) (len0 cap0 : Nat) (z0 : List Int) (a1 : Int) (w : World) (w0 : IsRow .u8 w a0 len0 cap0 z0) (w1 : (Lit.int .i64 a1).wf = true) :
    Calls Try.prog 7 #[.slice a0 len0 cap0, .int .i64 a1] w fun e w' => e = .returned (.bool true) ∧ Below w.heap.size w w' := by
  obtain ⟨zs, rfl, hr, hb, hm⟩ := w0.rd
  have hbd := bounds_i64 w1
  clear w0 w1
  by_cases hbig : (1048576 : Int) < (zs.length : Int)
  · unfold maxLen at hm
    go_enter Try.func7, Try.ntmps7
    go_wp2
    go_ret
    exact ⟨rfl, Below.refl _ _⟩
  · go_enter Try.func7, Try.ntmps7
    go_wp2_with fail
    refine (toByteS_any _ zs _ _ hr hb (by omega)).mono ?_
    rintro e u1 ⟨rfl, ho1, hb1⟩
    have hr1 := hr.below hb1
    go_wp2_with fail
    refine (specGetText_any _ zs _ a1 _ (Rd.of_owns ho1) hb (by omega) (Nat.le_refl _) hbd.2).mono ?_
    rintro e u1' ⟨hno, hyes, rfl⟩
    cases hg : getT zs a1 with
    | none =>
      obtain rfl := hno hg
      clear hno hyes
      have HG : Hid (getT zs a1 = none) := hg
      clear hg
      go_wp2_with fail
      refine (toByteS_any _ zs _ _ hr1 hb (by omega)).mono ?_
      rintro e u2 ⟨rfl, ho2, hb2⟩
      have hr2 := hr1.below hb2
      go_wp2_with fail
      refine (implGetText_no _ zs _ a1 _ (Rd.of_owns ho2) hb (by omega) (Nat.le_refl _) HG.out).mono ?_
      rintro e u3 ⟨rfl, hb3⟩
      have hr3 := hr2.below hb3
      go_wp2_with fail
      refine (toByteS_any _ zs _ _ hr3 hb (by omega)).mono ?_
      rintro e u4 ⟨rfl, ho4, hb4⟩
      go_wp2_with fail
      refine (eqByteS_any _ _ zs zs _ _ _ (((Rd.of_owns ho2).below hb3).below hb4) (Rd.of_owns ho4) hb hb hm hm).mono ?_
      rintro e u5 ⟨rfl, n, rfl⟩
      go_wp2
      go_ret
      exact ⟨rfl, after_drew (after (after (after hb1 hb2) hb3) hb4) n⟩
    | some r =>
      obtain ⟨n, j⟩ := r
      obtain rfl := hyes n j hg
      clear hno hyes
      have HG : Hid (getT zs a1 = some (n, j)) := hg
      clear hg
      go_wp2_with fail
      refine (toByteS_any _ zs _ _ hr1 hb (by omega)).mono ?_
      rintro e u2 ⟨rfl, ho2, hb2⟩
      have hr2 := hr1.below hb2
      go_wp2_with fail
      refine (implGetText_yes _ zs _ a1 n j _ (Rd.of_owns ho2) hb (by omega) (Nat.le_refl _) HG.out).mono ?_
      rintro e u3 ⟨rfl, hb3⟩
      have hr3 := hr2.below hb3
      go_wp2_with fail
      refine (toByteS_any _ zs _ _ hr3 hb (by omega)).mono ?_
      rintro e u4 ⟨rfl, ho4, hb4⟩
      go_wp2_with fail
      refine (eqByteS_any _ _ zs zs _ _ _ (((Rd.of_owns ho2).below hb3).below hb4) (Rd.of_owns ho4) hb hb hm hm).mono ?_
      rintro e u5 ⟨rfl, n, rfl⟩
      go_wp2
      go_ret
      exact ⟨rfl, after_drew (after (after (after hb1 hb2) hb3) hb4) n⟩

set_option maxRecDepth 100000 in
theorem lifted (os : Os) (started : os.Started) (H : Type) (enc : TypeId × Value → H) :
    ReturnsInHanded {} Try.checked os 7 .any (Rows.fnExactGetTextSpec.pre6 enc Try.prog Try.f7 Rows.fnExactGetTextRow.domain false) (Rows.fnExactGetTextSpec.post enc Try.prog Try.f7 false true false false) := by
  refine returnsInHanded_of_change (C := Try.checked) own started (by kernel_rfl) Try.func7
    (ChangeSpec.witness6 (enc := enc) (C := Try.checked) false ⟨#[], #[.slice none 0 0, .int .i64 0], []⟩ 8 (by kernel_rfl) (by kernel_rfl) (by kernel_rfl) (by kernel_rfl)) ?_
  intro W base args ds gs before hval0 hW hcnd _
  have hval : ∀ (j : Nat) t v, Try.f7.params[j]? = some t → args[j]? = some v → Value.okWide Try.prog W .any base t v := hval0
  have hW' := hW
  obtain ⟨p, q, hA0, hV, rfl, hfz, hnd⟩ := hW
  have hA : DataW.TrodAll enc Try.prog W 0 (fun _ => true) true Try.f7.params.toList args.toList ds p := hA0
  rw [Try.params7] at hA hval
  obtain ⟨v0, vs0, d0, ds0, p0, q0, hargs, rfl, rfl, h0, r0⟩ := trodAll_cons hA
  obtain ⟨v1, vs1, d1, ds1, p1, q1, rfl, rfl, rfl, h1, r1⟩ := trodAll_cons r0
  obtain ⟨rfl, rfl, rfl⟩ := trodAll_nil r1
  obtain rfl : args = #[v0, v1] := by cases args; simp_all
  obtain ⟨rfl, rfl⟩ := trodVars_none hV
  obtain ⟨a0, len0, cap0, rfl⟩ := okWide_slice Try.underlying22 (hval 0 22 v0 rfl rfl)
  have k0 := h0
  have lt0 : ∀ x ∈ p0, x.block < W.heap.size := by obtain ⟨m, hm⟩ := k0; exact DataW.trod_lt m _ _ _ hm
  obtain ⟨z0, w0⟩ : ∃ zs, IsRow .u8 W a0 len0 cap0 zs := by
    obtain ⟨fuel, hf⟩ := h0
    rcases open_ints Try.underlying22 Try.underlying5 (by kernel_rfl) hf with ⟨hcs, _⟩ | ⟨x, l, c, zs, hcs, _, hl, hm, hz, _, hcell, hwz⟩
    · simp [Value.cells] at hcs
      obtain ⟨rfl, rfl, rfl⟩ := hcs
      exact ⟨[], .inl ⟨rfl, rfl, rfl, rfl⟩⟩
    · simp [Value.cells] at hcs
      obtain ⟨rfl, rfl, rfl⟩ := hcs
      exact ⟨zs, .inr ⟨_, rfl, hl, hm, by simpa using hz, hcell, hwz⟩⟩
  obtain ⟨a1, rfl, rfl, rfl, w1⟩ := open_int Try.underlying3 (hval 1 3 v1 rfl rfl) h1
  clear hA0 hval0
  refine (walk a0 len0 cap0 z0 a1 W w0 w1).mono fun e W' ⟨he, bel⟩ => ?_
  subst he
  exact ⟨_, rfl, _, _, _, [], _, [], hW', trodAll_mk1 (shut_bool Try.underlying4 _), (trodAll_cons_mk (Below.trod laidOut (by kernel_rfl) (of_decide_eq_true (by kernel_rfl)) k0 bel lt0) (trodAll_cons_mk (shut_int Try.underlying3 w1) trodAll_mk0)), rfl, bel.frame _, fun h => by cases h⟩

theorem over : Rows.fnExactGetTextRow.holds Try.pinned (OpenSpec.ofChange Rows.fnExactGetTextSpec) :=
  OpenClaim.holds_of_wide 7 Try.f7 rfl rfl rfl rfl rfl rfl rfl ⟨rfl, rfl, rfl, rfl, rfl⟩ rfl rfl rfl rfl rfl (by kernel_rfl) Try.func7 (by kernel_rfl)
    (of_decide_eq_true (by kernel_rfl)) (by unfold Func.isWrapper; first | (rw [if_pos (by decide +kernel)]; kernel_rfl) | (rw [if_neg (by decide +kernel)]; exact ⟨rfl, rfl⟩))
    (fun os started H enc _ => lifted os started H enc)

end Go.Proofs.Ytgalfbcolbgabaa.fnExactGetText

namespace Go.Proofs.Ytgalfbcolbgabaa
theorem fnExactGetText_holds : Rows.FnExactGetTextSaid := fnExactGetText.over
#print axioms fnExactGetText_holds
end Go.Proofs.Ytgalfbcolbgabaa
