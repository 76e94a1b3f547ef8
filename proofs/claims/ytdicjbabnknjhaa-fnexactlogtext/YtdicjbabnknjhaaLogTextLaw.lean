/-
  FnExactLogText is true at every argument, and leaves it as it was: impl.LogText answers what spec.LogText does. No conditions.
-/
import Derived.Test.YtdicjbabnknjhaaRows
import Derived.Test.YtdicjbabnknjhaaSpecLogText
import Derived.WalkKit
import Derived.ProofKit
import Derived.OpenShut
import Derived.ShutString
import Derived.ChangeOld
import Derived.Below
namespace Go.Proofs.Ytdicjbabnknjhaa.fnExactLogText
open Go.ChangeShapes Go.WideShapes Go.ChangeAt Go.RowKit
open Go.ChangeMaps (open_string shut_string)
set_option linter.unusedVariables false

theorem own : ownKnob Try.prog.godebug = none := by kernel_rfl
theorem laidOut : laidOutB Try.prog = true := by kernel_rfl

set_option maxRecDepth 100000 in
set_option maxHeartbeats 3200000 in
theorem walk (aL : Option Addr) (cL : Nat) (L : List (Int × ByteArray)) (w : World) (hA : PutsRd w (.slice aL L.length cL) L) (hl : L.length ≤ maxLen) (hall : ∀ x ∈ L, (Lit.int .i64 x.1).wf = true ∧ x.2.size ≤ maxLen) :
    Calls Try.prog 3 #[.slice aL L.length cL] w fun e w' => e = .returned (.bool true) ∧ Below w.heap.size w w' := by
  have HA := hide hA
  have HALL := hide hall
  clear hA hall
  go_enter Try.func3, Try.ntmps3
  go_wp2_with fail
  refine (put_sz 1048576 HA.out hl (fun x hx => (HALL.out x hx).2) (by decide) (by decide)).mono ?_
  rintro e w1 ⟨⟨r, rfl, hr0, hr1, hr2⟩, hb1⟩
  have HB1 := hide hb1
  have HA1 := hide (HA.out.below hb1)
  clear hb1
  by_cases hneg : r < 0
  · clear hr2
    go_wp2
    go_ret
    exact ⟨rfl, HB1.out⟩
  obtain ⟨hk, hsz⟩ := hr2 (by omega)
  have HK : Hid (L.length ≤ 1048576) := by show _ ≤ _; omega
  have HLB : Hid (∀ x ∈ L, x.2.size ≤ maxLen ∧ -9223372036854775808 ≤ x.1 ∧ x.1 ≤ 9223372036854775807) := fun x hx => ⟨(HALL.out x hx).2, (bounds_i64 (HALL.out x hx).1).1, (bounds_i64 (HALL.out x hx).1).2⟩
  clear hr2 hk hsz hl
  go_wp2_with fail
  refine (put_to HA1.out HK.out).mono ?_
  rintro e w2 ⟨v2, rfl, ho2, hb2⟩
  obtain ⟨a2, c2, rfl⟩ := ho2.shape
  have HR2 := hide ho2.rd
  have HB2 := hide (after HB1.out hb2)
  have HA2 := hide (HA1.out.below hb2)
  clear ho2 hb2
  go_wp2_with fail
  obtain ⟨_, _, he, hrd2⟩ := HR2.out
  injection he with e1 _ e3
  subst e1 e3
  refine (specLogText_any _ L _ w2 hrd2 HK.out HLB.out).mono ?_
  obtain ⟨R, hR⟩ : ∃ R, R = logT L := ⟨_, rfl⟩
  rw [← hR]
  have HRQ := hide hR
  rintro e w3 ⟨rfl, hb3⟩
  have HB3 := hide (after HB2.out hb3)
  have HA3 := hide (HA2.out.below hb3)
  clear hb3 hR hrd2 HR2
  go_wp2_with fail
  refine (put_to HA3.out HK.out).mono ?_
  rintro e w4 ⟨v4, rfl, ho4, hb4⟩
  obtain ⟨a4, c4, rfl⟩ := ho4.shape
  have HR4 := hide ho4.rd
  have HB4 := hide (after HB3.out hb4)
  have HA4 := hide (HA3.out.below hb4)
  clear ho4 hb4
  go_wp2_with fail
  obtain ⟨_, _, he, hrd4⟩ := HR4.out
  injection he with e1 _ e3
  subst e1 e3
  refine (implLogText_any _ L _ w4 hrd4 HK.out HLB.out).mono ?_
  rw [← HRQ.out]
  rintro e w5 ⟨rfl, hb5⟩
  have HB5 := hide (after HB4.out hb5)
  have HA5 := hide (HA4.out.below hb5)
  have HR5 := hide (HR4.out.below hb5)
  have hRR : (R.toList == R.toList) = true := by simp
  clear hb5 hrd4 HR4
  go_wp2_with fail
  refine (put_to HA5.out HK.out).mono ?_
  rintro e w6 ⟨v6, rfl, ho6, hb6⟩
  obtain ⟨a6, c6, rfl⟩ := ho6.shape
  have HR6 := hide ho6.rd
  have HR56 := hide (HR5.out.below hb6)
  have HB6 := hide (after HB5.out hb6)
  clear ho6 hb6
  go_wp2_with fail
  refine (put_eq HR56.out HR6.out HK.out).mono ?_
  rintro e w7 ⟨rfl, hb7⟩
  have HB7 := hide (after HB6.out hb7)
  clear hb7
  go_wp2
  go_ret
  exact ⟨rfl, HB7.out⟩

set_option maxRecDepth 100000 in
theorem lifted (os : Os) (started : os.Started) (H : Type) (enc : TypeId × Value → H) :
    ReturnsInHanded {} Try.checked os 3 .any (Rows.fnExactLogTextSpec.pre6 enc Try.prog Try.f3 Rows.fnExactLogTextRow.domain false) (Rows.fnExactLogTextSpec.post enc Try.prog Try.f3 false true false false) := by
  refine returnsInHanded_of_change (C := Try.checked) own started (by kernel_rfl) Try.func3
    (ChangeSpec.witness6 (enc := enc) (C := Try.checked) false ⟨#[], #[.slice none 0 0], []⟩ 8 (by kernel_rfl) (by kernel_rfl) (by kernel_rfl) (by kernel_rfl)) ?_
  intro W base args ds gs before hval0 hW hcnd _
  have hval : ∀ (j : Nat) t v, Try.f3.params[j]? = some t → args[j]? = some v → Value.okWide Try.prog W .any base t v := hval0
  have hW' := hW
  obtain ⟨p, q, hA0, hV, rfl, hfz, hnd⟩ := hW
  have hA : DataW.TrodAll enc Try.prog W 0 (fun _ => true) true Try.f3.params.toList args.toList ds p := hA0
  rw [Try.params3] at hA hval
  obtain ⟨v0, vs0, d0, ds0, p0, q0, hargs, rfl, rfl, h0, r0⟩ := trodAll_cons hA
  obtain ⟨rfl, rfl, rfl⟩ := trodAll_nil r0
  obtain rfl : args = #[v0] := by cases args; simp_all
  obtain ⟨rfl, rfl⟩ := trodVars_none hV
  have k0 := h0
  have lt0 : ∀ x ∈ p0, x.block < W.heap.size := by obtain ⟨m, hm⟩ := k0; exact DataW.trod_lt m _ _ _ hm
  obtain ⟨b0, n0, c0, rfl⟩ := okWide_slice Try.underlying22 (hval 0 22 v0 rfl rfl)
  obtain ⟨fuel0, hf0⟩ := h0
  obtain ⟨za0, zL0, zc0, hv0, hR0, hl0, hall0⟩ := rdPuts_of (v := .slice b0 n0 c0) hf0
  injection hv0 with e1 e2 e3
  subst e1 e2 e3
  clear hA0 hval0
  refine (walk b0 c0 zL0 W (put_rd_of hR0) hl0 hall0).mono fun e W' ⟨he, bel⟩ => ?_
  subst he
  exact ⟨_, rfl, _, _, _, [], _, [], hW', trodAll_mk1 (shut_bool Try.underlying4 _), (trodAll_cons_mk (Below.trod laidOut (by kernel_rfl) (of_decide_eq_true (by kernel_rfl)) k0 bel lt0) trodAll_mk0), rfl, bel.frame _, fun h => by cases h⟩

theorem over : Rows.fnExactLogTextRow.holds Try.pinned (OpenSpec.ofChange Rows.fnExactLogTextSpec) :=
  OpenClaim.holds_of_wide 3 Try.f3 rfl rfl rfl rfl rfl rfl rfl ⟨rfl, rfl, rfl, rfl, rfl⟩ rfl rfl rfl rfl rfl (by kernel_rfl) Try.func3 (by kernel_rfl)
    (of_decide_eq_true (by kernel_rfl)) (by unfold Func.isWrapper; first | (rw [if_pos (by decide +kernel)]; kernel_rfl) | (rw [if_neg (by decide +kernel)]; exact ⟨rfl, rfl⟩))
    (fun os started H enc _ => lifted os started H enc)

end Go.Proofs.Ytdicjbabnknjhaa.fnExactLogText

namespace Go.Proofs.Ytdicjbabnknjhaa
theorem fnExactLogText_holds : Rows.FnExactLogTextSaid := fnExactLogText.over
#print axioms fnExactLogText_holds
end Go.Proofs.Ytdicjbabnknjhaa
