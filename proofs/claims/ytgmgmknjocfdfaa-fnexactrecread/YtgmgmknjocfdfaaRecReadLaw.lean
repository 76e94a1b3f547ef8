/-
  FnExactRecRead is true at every argument: impl.RecRead answers what spec.RecRead does. No conditions.
-/
import Derived.Test.YtgmgmknjocfdfaaRows
import Derived.Test.YtgmgmknjocfdfaaArgRec
import Derived.WalkKit
import Derived.ProofKit
import Derived.OpenShut
import Derived.ShutString
import Derived.ChangeOld
import Derived.Below
namespace Go.Proofs.Ytgmgmknjocfdfaa.fnExactRecRead
open Go.ChangeShapes Go.WideShapes Go.ChangeAt Go.RowKit
open Go.ChangeMaps (open_string shut_string)
set_option linter.unusedVariables false

theorem own : ownKnob Try.prog.godebug = none := by kernel_rfl
theorem laidOut : laidOutB Try.prog = true := by kernel_rfl

set_option maxRecDepth 100000 in
set_option maxHeartbeats 1600000 in
theorem tail (t : ByteArray) (w w1 : World) (s q : Int) (d : ByteArray) (B : Bool) (hbw1 : Below w.heap.size w w1) (ht : t.size ≤ 1048576)
    (hs : Calls Try.prog 16 #[.string t] w fun e w' => e = .returned (.tuple #[.agg #[.int .i64 s, .int .i64 q, .string d], .bool B]) ∧ Below w.heap.size w w')
    (hi : ∀ u, Calls Try.prog 12 #[.string t] u fun e w' => e = .returned (.tuple #[.agg #[.int .i64 s, .int .i64 q, .string d], .bool B]) ∧ Below u.heap.size u w') :
    Calls Try.prog 6 #[.string t] w fun e w' => e = .returned (.bool true) ∧ Below w.heap.size w w' := by
  have HS := hide hs
  have HI := hide hi
  clear hs hi
  go_enter Try.func6, Try.ntmps6
  go_wp2_with fail
  refine HS.out.mono ?_
  rintro e w1 ⟨rfl, hb1⟩
  obtain ⟨U, hU⟩ : ∃ U, U = w1.alloc (Obj.cells #[.int .i64 s, .int .i64 q, .string d] 25) := ⟨_, rfl⟩
  have hbU : Below w1.heap.size w1 U := by rw [hU]; exact (Below.refl _ _).alloc (Nat.le_refl _) _
  have u0 : C3 U w1.heap.size (.int .i64 s) (.int .i64 q) (.string d) := by rw [hU]; exact c3_new _ _ _ _ _
  have hbwU := after hb1 hbU
  clear HS hbU
  go_wp2_with fail
  rw [← hU]
  clear hU
  refine (HI.out U).mono ?_
  rintro e w2 ⟨rfl, hb2⟩
  have u1 := u0.below hb2
  have hbw2 := after hbwU hb2
  obtain ⟨V, hV⟩ : ∃ V, V = w2.alloc (Obj.cells #[.int .i64 s, .int .i64 q, .string d] 25) := ⟨_, rfl⟩
  have hbV : Below w2.heap.size w2 V := by rw [hV]; exact (Below.refl _ _).alloc (Nat.le_refl _) _
  have v0 : C3 V w2.heap.size (.int .i64 s) (.int .i64 q) (.string d) := by rw [hV]; exact c3_new _ _ _ _ _
  have u2 := u1.below hbV
  have hbwV := after hbw2 hbV
  obtain ⟨⟨a0, a1, a2⟩, -⟩ := u2
  obtain ⟨⟨b0, b1, b2⟩, -⟩ := v0
  clear HI hbV u0 u1 hb2 hbw2 hbwU hb1
  go_wp2_with (rw [← hV]; clear hV)
  refine (eqRec_any s q s q d d V).mono ?_
  rintro e w3 ⟨rfl, hb3⟩
  have hbw3 := after hbwV hb3
  have ht : decide (s = s ∧ q = q ∧ d = d) = true := by simp
  rw [ht]
  have hbb : (B != B) = false := by simp
  clear hb3 hbwV a0 a1 a2 b0 b1 b2
  go_wp2
  go_ret
  exact ⟨rfl, hbw3⟩

set_option maxHeartbeats 1600000 in
theorem walk (t : ByteArray) (w : World) (ht : t.size ≤ maxLen) :
    Calls Try.prog 6 #[.string t] w fun e w' => e = .returned (.bool true) ∧ Below w.heap.size w w' := by
  by_cases hbig : (1048576 : Int) < (t.size : Int)
  · unfold maxLen at ht
    go_enter Try.func6, Try.ntmps6
    go_wp2
    go_ret
    exact ⟨rfl, Below.refl _ _⟩
  · have ht' : t.size ≤ 1048576 := by omega
    cases hr : recR t with
    | none =>
      exact tail t w w 0 0 ByteArray.empty false (Below.refl _ _) ht' ((specRecRead_any t w ht').mono fun e w' h => ⟨h.2.1 hr, h.2.2⟩) (fun u => (implRecRead_any t u ht').mono fun e w' h => ⟨h.2.1 hr, h.2.2⟩)
    | some r =>
      obtain ⟨s, q, d⟩ := r
      exact tail t w w s q d true (Below.refl _ _) ht' ((specRecRead_any t w ht').mono fun e w' h => ⟨h.1 s q d hr, h.2.2⟩) (fun u => (implRecRead_any t u ht').mono fun e w' h => ⟨h.1 s q d hr, h.2.2⟩)

set_option maxRecDepth 100000 in
theorem lifted (os : Os) (started : os.Started) (H : Type) (enc : TypeId × Value → H) :
    ReturnsInHanded {} Try.checked os 6 .any (Rows.fnExactRecReadSpec.pre6 enc Try.prog Try.f6 Rows.fnExactRecReadRow.domain false) (Rows.fnExactRecReadSpec.post enc Try.prog Try.f6 false true false false) := by
  refine returnsInHanded_of_change (C := Try.checked) own started (by kernel_rfl) Try.func6
    (ChangeSpec.witness6 (enc := enc) (C := Try.checked) false ⟨#[], #[.string ⟨#[]⟩], []⟩ 8 (by kernel_rfl) (by kernel_rfl) (by kernel_rfl) (by kernel_rfl)) ?_
  intro W base args ds gs before hval0 hW hcnd _
  have hval : ∀ (j : Nat) t v, Try.f6.params[j]? = some t → args[j]? = some v → Value.okWide Try.prog W .any base t v := hval0
  have hW' := hW
  obtain ⟨p, q, hA0, hV, rfl, hfz, hnd⟩ := hW
  have hA : DataW.TrodAll enc Try.prog W 0 (fun _ => true) true Try.f6.params.toList args.toList ds p := hA0
  rw [Try.params6] at hA hval
  obtain ⟨v0, vs0, d0, ds0, p0, q0, hargs, rfl, rfl, h0, r0⟩ := trodAll_cons hA
  obtain ⟨rfl, rfl, rfl⟩ := trodAll_nil r0
  obtain rfl : args = #[v0] := by cases args; simp_all
  obtain ⟨rfl, rfl⟩ := trodVars_none hV
  have k0 := h0
  have lt0 : ∀ x ∈ p0, x.block < W.heap.size := by obtain ⟨m, hm⟩ := k0; exact DataW.trod_lt m _ _ _ hm
  obtain ⟨t, rfl, rfl, rfl, ht⟩ := open_string Try.underlying9 (hval 0 9 v0 rfl rfl) h0
  clear hA0 hval0
  refine (walk t W ht).mono fun e W' ⟨he, bel⟩ => ?_
  subst he
  exact ⟨_, rfl, _, _, _, [], _, [], hW', trodAll_mk1 (shut_bool Try.underlying4 _), (trodAll_cons_mk (Below.trod laidOut (by kernel_rfl) (of_decide_eq_true (by kernel_rfl)) k0 bel lt0) trodAll_mk0), rfl, bel.frame _, fun h => by cases h⟩

theorem over : Rows.fnExactRecReadRow.holds Try.pinned (OpenSpec.ofChange Rows.fnExactRecReadSpec) :=
  OpenClaim.holds_of_wide 6 Try.f6 rfl rfl rfl rfl rfl rfl rfl ⟨rfl, rfl, rfl, rfl, rfl⟩ rfl rfl rfl rfl rfl (by kernel_rfl) Try.func6 (by kernel_rfl)
    (of_decide_eq_true (by kernel_rfl)) (by unfold Func.isWrapper; first | (rw [if_pos (by decide +kernel)]; kernel_rfl) | (rw [if_neg (by decide +kernel)]; exact ⟨rfl, rfl⟩))
    (fun os started H enc _ => lifted os started H enc)

end Go.Proofs.Ytgmgmknjocfdfaa.fnExactRecRead

namespace Go.Proofs.Ytgmgmknjocfdfaa
theorem fnExactRecRead_holds : Rows.FnExactRecReadSaid := fnExactRecRead.over
#print axioms fnExactRecRead_holds
end Go.Proofs.Ytgmgmknjocfdfaa
