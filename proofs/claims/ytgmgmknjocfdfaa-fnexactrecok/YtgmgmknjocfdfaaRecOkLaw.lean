/-
  FnExactRecOk is true at every argument: impl.RecOk answers what spec.RecOk does. No conditions.
-/
import Derived.Test.YtgmgmknjocfdfaaRows
import Derived.Test.YtgmgmknjocfdfaaArgRec
import Derived.WalkKit
import Derived.ProofKit
import Derived.OpenShut
import Derived.ShutString
import Derived.ChangeOld
import Derived.Below
namespace Go.Proofs.Ytgmgmknjocfdfaa.fnExactRecOk
open Go.ChangeShapes Go.WideShapes Go.ChangeAt Go.RowKit
open Go.ChangeMaps (open_string shut_string)
set_option linter.unusedVariables false

theorem own : ownKnob Try.prog.godebug = none := by kernel_rfl
theorem laidOut : laidOutB Try.prog = true := by kernel_rfl

set_option maxHeartbeats 1600000 in
theorem walk (s q : Int) (d : ByteArray) (w : World) (hd : d.size ≤ maxLen) (hs0 : -9223372036854775808 ≤ s) (hs1 : s ≤ 9223372036854775807) (hq0 : -9223372036854775808 ≤ q) (hq1 : q ≤ 9223372036854775807) :
    Calls Try.prog 4 #[.agg #[.int .i64 s, .int .i64 q, .string d]] w fun e w' => e = .returned (.bool true) ∧ Below w.heap.size w w' := by
  obtain ⟨W, hW⟩ : ∃ W, W = w.alloc (Obj.cells #[.int .i64 s, .int .i64 q, .string d] 33) := ⟨_, rfl⟩
  have hbW : Below w.heap.size w W := by rw [hW]; exact (Below.refl _ _).alloc (Nat.le_refl _) _
  have k0 : C3 W w.heap.size (.int .i64 s) (.int .i64 q) (.string d) := by rw [hW]; exact c3_new _ _ _ _ _
  obtain ⟨⟨a0, a1, a2⟩, -⟩ := id k0
  go_enter Try.func4, Try.ntmps4
  go_wp2_with fail
  rw [← hW]
  clear hW
  refine (szRec_any s q d W hd).mono ?_
  rintro e w1 ⟨⟨r, rfl, hr⟩, hb1⟩
  have hbw1 := after hbW hb1
  have k1 := k0.below hb1
  clear a0 a1 a2 k0 hb1 hbW
  obtain ⟨⟨a0, a1, a2⟩, -⟩ := id k1
  by_cases hneg : r < 0
  · clear hr
    go_wp2
    go_ret
    exact ⟨rfl, hbw1⟩
  · have hd' := hr (by omega)
    clear hr
    go_wp2_with fail
    refine (toRec_any s q d w1).mono ?_
    rintro e w2 ⟨rfl, hb2⟩
    have hbw2 := after hbw1 hb2
    have k2 := k1.below hb2
    clear a0 a1 a2 k1 hb2 hbw1
    obtain ⟨⟨a0, a1, a2⟩, -⟩ := id k2
    go_wp2_with fail
    refine (specRecOk_any s q d w2 hd).mono ?_
    rintro e w3 ⟨rfl, hb3⟩
    have hbw3 := after hbw2 hb3
    have k3 := k2.below hb3
    clear a0 a1 a2 k2 hb3 hbw2
    obtain ⟨⟨a0, a1, a2⟩, -⟩ := id k3
    obtain ⟨B, hB⟩ : ∃ B, B = recOkB s q d := ⟨_, rfl⟩
    rw [← hB]
    have HB := hide hB
    clear hB
    go_wp2_with fail
    refine (toRec_any s q d w3).mono ?_
    rintro e w4 ⟨rfl, hb4⟩
    have hbw4 := after hbw3 hb4
    clear a0 a1 a2 k3 hb4 hbw3
    go_wp2_with fail
    refine (implRecOk_any s q d w4 hd).mono ?_
    rw [← HB.out]
    rintro e w5 ⟨rfl, hb5⟩
    have hbw5 := after hbw4 hb5
    have hbb : (B != B) = false := by simp
    clear hb5 hbw4
    go_wp2
    go_ret
    exact ⟨rfl, hbw5⟩

set_option maxRecDepth 100000 in
theorem lifted (os : Os) (started : os.Started) (H : Type) (enc : TypeId × Value → H) :
    ReturnsInHanded {} Try.checked os 4 .any (Rows.fnExactRecOkSpec.pre6 enc Try.prog Try.f4 Rows.fnExactRecOkRow.domain false) (Rows.fnExactRecOkSpec.post enc Try.prog Try.f4 false true false false) := by
  refine returnsInHanded_of_change (C := Try.checked) own started (by kernel_rfl) Try.func4
    (ChangeSpec.witness6 (enc := enc) (C := Try.checked) false ⟨#[], #[.agg #[.int .i64 0, .int .i64 0, .string ⟨#[]⟩]], []⟩ 8 (by kernel_rfl) (by kernel_rfl) (by kernel_rfl) (by kernel_rfl)) ?_
  intro W base args ds gs before hval0 hW hcnd _
  have hval : ∀ (j : Nat) t v, Try.f4.params[j]? = some t → args[j]? = some v → Value.okWide Try.prog W .any base t v := hval0
  have hW' := hW
  obtain ⟨p, q, hA0, hV, rfl, hfz, hnd⟩ := hW
  have hA : DataW.TrodAll enc Try.prog W 0 (fun _ => true) true Try.f4.params.toList args.toList ds p := hA0
  rw [Try.params4] at hA hval
  obtain ⟨v0, vs0, d0, ds0, p0, q0, hargs, rfl, rfl, h0, r0⟩ := trodAll_cons hA
  obtain ⟨rfl, rfl, rfl⟩ := trodAll_nil r0
  obtain rfl : args = #[v0] := by cases args; simp_all
  obtain ⟨rfl, rfl⟩ := trodVars_none hV
  have k0 := h0
  have lt0 : ∀ x ∈ p0, x.block < W.heap.size := by obtain ⟨m, hm⟩ := k0; exact DataW.trod_lt m _ _ _ hm
  obtain ⟨s, q, d, rfl, hd, ⟨hs0, hs1⟩, ⟨hq0, hq1⟩⟩ := rec_of (hval 0 33 v0 rfl rfl) h0
  clear hA0 hval0
  refine (walk s q d W hd hs0 hs1 hq0 hq1).mono fun e W' ⟨he, bel⟩ => ?_
  subst he
  exact ⟨_, rfl, _, _, _, [], _, [], hW', trodAll_mk1 (shut_bool Try.underlying4 _), (trodAll_cons_mk (Below.trod laidOut (by kernel_rfl) (of_decide_eq_true (by kernel_rfl)) k0 bel lt0) trodAll_mk0), rfl, bel.frame _, fun h => by cases h⟩

theorem over : Rows.fnExactRecOkRow.holds Try.pinned (OpenSpec.ofChange Rows.fnExactRecOkSpec) :=
  OpenClaim.holds_of_wide 4 Try.f4 rfl rfl rfl rfl rfl rfl rfl ⟨rfl, rfl, rfl, rfl, rfl⟩ rfl rfl rfl rfl rfl (by kernel_rfl) Try.func4 (by kernel_rfl)
    (of_decide_eq_true (by kernel_rfl)) (by unfold Func.isWrapper; first | (rw [if_pos (by decide +kernel)]; kernel_rfl) | (rw [if_neg (by decide +kernel)]; exact ⟨rfl, rfl⟩))
    (fun os started H enc _ => lifted os started H enc)

end Go.Proofs.Ytgmgmknjocfdfaa.fnExactRecOk

namespace Go.Proofs.Ytgmgmknjocfdfaa
theorem fnExactRecOk_holds : Rows.FnExactRecOkSaid := fnExactRecOk.over
#print axioms fnExactRecOk_holds
end Go.Proofs.Ytgmgmknjocfdfaa
