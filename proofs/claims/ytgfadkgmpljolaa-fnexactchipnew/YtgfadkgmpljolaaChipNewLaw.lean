/-
  FnExactChipNew is true: impl.ChipNew answers what spec.ChipNew does, in memory of its own. No conditions.
-/
import Derived.Test.YtgfadkgmpljolaaRows
import Derived.Test.YtgfadkgmpljolaaLawChip
import Derived.Test.YtgfadkgmpljolaaChipNew
import Derived.WalkKit
import Derived.ProofKit
import Derived.OpenShut
import Derived.ShutString
import Derived.ChangeOld
import Derived.Below
namespace Go.Proofs.Ytgfadkgmpljolaa.fnExactChipNew
open Go.ChangeShapes Go.WideShapes Go.ChangeAt Go.RowKit
set_option linter.unusedVariables false

theorem own : ownKnob Try.prog.godebug = none := by kernel_rfl
theorem laidOut : laidOutB Try.prog = true := by kernel_rfl

set_option maxHeartbeats 3200000 in
theorem walk (w : World) : Calls Try.prog 4 #[] w fun e w' => e = .returned (.bool true) ∧ Below w.heap.size w w' := by
  have hn : ps0.length ≤ 1048576 := by rw [ps0_len]; decide
  have hm : ws0.length ≤ 1048576 := by rw [ws0_len]; decide
  go_enter Try.func4, Try.ntmps4
  go_wp2_with fail
  refine (specChipNew_any w).mono ?_
  rintro e w1 ⟨v, rfl, hown, hb1⟩
  obtain ⟨a1, k1, b1, l1, rfl, ho1, ho2, hne⟩ := own_open hown
  obtain ⟨V1, hV1⟩ : ∃ V, V = w1.alloc (Obj.cells #[.slice a1 ps0.length k1, .slice b1 ws0.length l1] 28) := ⟨_, rfl⟩
  have L1 : LocO V1 w1.heap.size w.heap.size a1 b1 ps0.length ws0.length k1 l1 (vsString ps0) (vsInt ws0) := by rw [hV1]; exact locO_new ho1 ho2 hne hb1.size
  have hbV1 : Below w.heap.size w V1 := by rw [hV1]; exact after hb1 ((Below.refl _ _).alloc (Nat.le_refl _) _)
  clear ho1 ho2 hne hown hb1
  go_wp2_with fail
  rw [← hV1]
  clear hV1
  refine (implChipNew_any V1).mono ?_
  rintro e w2 ⟨v, rfl, hown, hb2⟩
  obtain ⟨a2, k2, b2, l2, rfl, ho1, ho2, hne⟩ := own_open hown
  obtain ⟨V2, hV2⟩ : ∃ V, V = w2.alloc (Obj.cells #[.slice a2 ps0.length k2, .slice b2 ws0.length l2] 28) := ⟨_, rfl⟩
  have hb2' : Below V1.heap.size V1 V2 := by rw [hV2]; exact after hb2 ((Below.refl _ _).alloc (Nat.le_refl _) _)
  have L2 : LocO V2 w2.heap.size V1.heap.size a2 b2 ps0.length ws0.length k2 l2 (vsString ps0) (vsInt ws0) := by rw [hV2]; exact locO_new ho1 ho2 hne hb2.size
  have M1 : Loc V2 w1.heap.size a1 b1 k1 l1 ps0 ws0 := (L1.below hb2').loc
  have hbV2 : Below w.heap.size w V2 := after hbV1 hb2'
  obtain ⟨c0, c1, -⟩ := id (L1.below hb2)
  have hlt := lt_of_cell c0
  clear ho1 ho2 hne hown hb2
  go_wp2_with fail
  rw [← hV2]
  clear hV2
  refine (eqChip_same a2 b2 a1 b1 ps0 ws0 k2 l2 k1 l1 V2 L2.loc.2.2.1 L2.loc.2.2.2 M1.2.2.1 M1.2.2.2 hn hm).mono ?_
  rintro e w3 ⟨rfl, hb3⟩
  have N2 := L2.below hb3
  have hb13 : Below V1.heap.size V1 w3 := hb2'.trans (hb3.mono hb2'.size)
  clear L2 M1 hb3 hb2' hbV2 c0 c1 hlt
  obtain ⟨c0, c1, -⟩ := id N2
  go_wp2_with fail
  refine (markChip_any a2 b2 ps0.length ws0.length k2 l2 V1.heap.size 1 _ _ w3 N2.2.2.1 N2.2.2.2.1 N2.2.2.2.2.1 hn hm (by decide) (by decide)).mono ?_
  rintro e w4 ⟨rfl, hx, hy, hO⟩
  have M2 := N2.marked hO hx hy
  have hb14 : Below V1.heap.size V1 w4 := hb13.trans (N2.older hO (Nat.le_refl _) hb13.size)
  clear N2 hO hx hy hb13 c0 c1
  obtain ⟨c0, c1, -⟩ := id M2
  go_wp2_with fail
  refine (heldChip_any a2 b2 ps0.length ws0.length k2 l2 V1.heap.size 1 w4 M2.2.2.1 M2.2.2.2.1 hn hm (by decide) (by decide)).mono ?_
  rintro e w5 ⟨rfl, hb5⟩
  have M3 := M2.below hb5
  have hb15 : Below V1.heap.size V1 w5 := hb14.trans (hb5.mono hb14.size)
  clear M2 hb5 hb14 c0 c1
  have hneg : ¬ (((1 + ps0.length + ws0.length : Nat) : Int) < 0) := by omega
  go_wp2_with fail
  refine (implChipNew_any w5).mono ?_
  rintro e w6 ⟨v, rfl, hown, hb6⟩
  obtain ⟨a6, k6, b6, l6, rfl, ho1, ho2, hne⟩ := own_open hown
  obtain ⟨V6, hV6⟩ : ∃ V, V = w6.alloc (Obj.cells #[.slice a6 ps0.length k6, .slice b6 ws0.length l6] 28) := ⟨_, rfl⟩
  have hb6' : Below w5.heap.size w5 V6 := by rw [hV6]; exact after hb6 ((Below.refl _ _).alloc (Nat.le_refl _) _)
  have L6 : LocO V6 w6.heap.size w5.heap.size a6 b6 ps0.length ws0.length k6 l6 (vsString ps0) (vsInt ws0) := by rw [hV6]; exact locO_new ho1 ho2 hne hb6.size
  have M4 := M3.below hb6'
  have hb16 : Below V1.heap.size V1 V6 := hb15.trans (hb6'.mono hb15.size)
  have M1 : Loc V6 w1.heap.size a1 b1 k1 l1 ps0 ws0 := (L1.below hb16).loc
  obtain ⟨c0, c1, -⟩ := id (L1.below (hb15.trans (hb6.mono hb15.size)))
  have hlt := lt_of_cell c0
  clear ho1 ho2 hne hown hb6 hb6' M3 hb15
  go_wp2_with fail
  rw [← hV6]
  clear hV6
  refine (eqChip_same a6 b6 a1 b1 ps0 ws0 k6 l6 k1 l1 V6 L6.loc.2.2.1 L6.loc.2.2.2 M1.2.2.1 M1.2.2.2 hn hm).mono ?_
  rintro e w7 ⟨rfl, hb7⟩
  have M5 := M4.below hb7
  have hb17 : Below V1.heap.size V1 w7 := hb16.trans (hb7.mono hb16.size)
  clear L6 M1 M4 hb7 hb16 c0 c1 hlt
  obtain ⟨c0, c1, -⟩ := id M5
  go_wp2_with fail
  refine (heldChip_any a2 b2 ps0.length ws0.length k2 l2 V1.heap.size 1 w7 M5.2.2.1 M5.2.2.2.1 hn hm (by decide) (by decide)).mono ?_
  rintro e w8 ⟨rfl, hb8⟩
  have hb18 : Below V1.heap.size V1 w8 := hb17.trans (hb8.mono hb17.size)
  have hfin : Below w.heap.size w w8 := after hbV1 hb18
  clear M5 hb8 hb17 c0 c1 L1 hb18
  go_wp2
  go_ret
  exact ⟨rfl, hfin⟩

set_option maxRecDepth 100000 in
theorem lifted (os : Os) (started : os.Started) (H : Type) (enc : TypeId × Value → H) :
    ReturnsInHanded {} Try.checked os 4 .any (Rows.fnExactChipNewSpec.pre6 enc Try.prog Try.f4 Rows.fnExactChipNewRow.domain false) (Rows.fnExactChipNewSpec.post enc Try.prog Try.f4 false true false false) := by
  refine returnsInHanded_of_change (C := Try.checked) own started (by kernel_rfl) Try.func4
    (ChangeSpec.witness6 (enc := enc) (C := Try.checked) false ⟨#[], #[], []⟩ 8 (by kernel_rfl) (by kernel_rfl) (by kernel_rfl) (by kernel_rfl)) ?_
  intro W base args ds gs before hval0 hW hcnd _
  have hW' := hW
  obtain ⟨p, q, hA0, hV, rfl, hfz, hnd⟩ := hW
  have hA : DataW.TrodAll enc Try.prog W 0 (fun _ => true) true Try.f4.params.toList args.toList ds p := hA0
  rw [Try.params4] at hA
  obtain ⟨hargs, rfl, rfl⟩ := trodAll_nil hA
  obtain rfl : args = #[] := by cases args; simp_all
  obtain ⟨rfl, rfl⟩ := trodVars_none hV
  clear hA0 hval0
  refine (walk W).mono fun e W' ⟨he, bel⟩ => ?_
  subst he
  exact ⟨_, rfl, _, _, _, [], _, [], hW', trodAll_mk1 (shut_bool Try.underlying4 _), trodAll_mk0, rfl, bel.frame _, fun h => by cases h⟩

theorem over : Rows.fnExactChipNewRow.holds Try.pinned (OpenSpec.ofChange Rows.fnExactChipNewSpec) :=
  OpenClaim.holds_of_wide 4 Try.f4 rfl rfl rfl rfl rfl rfl rfl ⟨rfl, rfl, rfl, rfl, rfl⟩ rfl rfl rfl rfl rfl (by kernel_rfl) Try.func4 (by kernel_rfl)
    (of_decide_eq_true (by kernel_rfl)) (by unfold Func.isWrapper; first | (rw [if_pos (by decide +kernel)]; kernel_rfl) | (rw [if_neg (by decide +kernel)]; exact ⟨rfl, rfl⟩))
    (fun os started H enc _ => lifted os started H enc)

end Go.Proofs.Ytgfadkgmpljolaa.fnExactChipNew

namespace Go.Proofs.Ytgfadkgmpljolaa
theorem fnExactChipNew_holds : Rows.FnExactChipNewSaid := fnExactChipNew.over
#print axioms fnExactChipNew_holds
end Go.Proofs.Ytgfadkgmpljolaa
