/-
  FnExactLogRead is true at every argument, and leaves it as it was: impl.LogRead answers what spec.LogRead does, in memory of its own. No conditions.
-/
import Derived.Test.YtdicjbabnknjhaaRows
import Derived.Test.YtdicjbabnknjhaaLogReadBoth
import Derived.WalkKit
import Derived.ProofKit
import Derived.OpenShut
import Derived.ShutString
import Derived.ChangeOld
import Derived.Below
namespace Go.Proofs.Ytdicjbabnknjhaa.fnExactLogRead
open Go.ChangeShapes Go.WideShapes Go.ChangeAt Go.RowKit
open Go.ChangeMaps (open_string shut_string)
set_option linter.unusedVariables false

theorem own : ownKnob Try.prog.godebug = none := by kernel_rfl
theorem laidOut : laidOutB Try.prog = true := by kernel_rfl

set_option maxRecDepth 100000 in
set_option maxHeartbeats 3200000 in
theorem walk (t : ByteArray) (w : World) (ht : t.size ≤ maxLen) :
    Calls Try.prog 4 #[.string t] w fun e w' => e = .returned (.bool true) ∧ Below w.heap.size w w' := by
  by_cases hbig : (1048576 : Int) < (t.size : Int)
  · unfold maxLen at ht
    go_enter Try.func4, Try.ntmps4
    go_wp2
    go_ret
    exact ⟨rfl, Below.refl _ _⟩
  have ht' : t.size ≤ 1048576 := by omega
  obtain ⟨L, hL⟩ : ∃ L, L = (logR t).getD [] := ⟨_, rfl⟩
  obtain ⟨B, hB⟩ : ∃ B, B = (logR t).isSome := ⟨_, rfl⟩
  have HL3 : Hid (L.length ≤ 3) := by show L.length ≤ 3; rw [hL]; exact logR_len t
  have HSP : Hid (∀ u, Calls Try.prog 11 #[.string t] u fun e w' => ∃ v, e = .returned (.tuple #[v, .bool B]) ∧ PutsOwn w' u.heap.size v L ∧ Below u.heap.size u w') := fun u => by rw [hL, hB]; exact specLogRead_any t u ht'
  have HIM : Hid (∀ u, Calls Try.prog 12 #[.string t] u fun e w' => ∃ v, e = .returned (.tuple #[v, .bool B]) ∧ PutsOwn w' u.heap.size v L ∧ Below u.heap.size u w') := fun u => by rw [hL, hB]; exact implLogRead_any t u ht'
  have hBB : (B != B) = false := by simp
  clear hL hB ht ht'
  go_enter Try.func4, Try.ntmps4
  go_wp2_with fail
  refine (HSP.out w).mono ?_
  rintro e w1 ⟨v1, rfl, ho1, hb1⟩
  obtain ⟨a1, c1, rfl⟩ := ho1.shape
  have HO1 := hide ho1
  have HP1 := hide ho1
  have HB1 := hide hb1
  clear ho1 hb1 HSP
  go_wp2_with fail
  refine (HIM.out w1).mono ?_
  rintro e w2 ⟨v2, rfl, ho2, hb2⟩
  obtain ⟨a2, c2, rfl⟩ := ho2.shape
  have HO2 := hide ho2
  have HP2 := hide (PutsOwn.below HO1.out hb2)
  have HS2 := hide hb2.size
  have HB2 := hide (after HB1.out hb2)
  clear ho2 hb2 HO1
  have HG2 : Hid (∀ k, some k ∈ bk (.slice a2 L.length c2) → w1.heap.size ≤ k) := fun k hk => (PutsOwn.blk HO2.out hk).1
  have HG1 : Hid (∀ k, some k ∈ bk (.slice a1 L.length c1) → k < w1.heap.size) := fun k hk => (PutsOwn.blk HP1.out hk).2
  go_wp2_with fail
  refine (put_eq (PutsOwn.rd HO2.out) (PutsOwn.rd HP2.out) (by have := HL3.out; omega)).mono ?_
  rintro e w3 ⟨rfl, hb3⟩
  have HO3 := hide (PutsOwn.below HO2.out hb3)
  have HP3 := hide (PutsOwn.below HP2.out hb3)
  have HB3 := hide (after HB2.out hb3)
  have HW3 := hide (Nat.le_trans HS2.out hb3.size)
  clear hb3 HP2 HO2 HB2 HS2
  obtain ⟨M, hM⟩ : ∃ M : Nat, M = 1 + L.length * 2 := ⟨_, rfl⟩
  have HMK := hide (put_mark (q := 1) HO3.out (by have := HL3.out; omega) (by decide) (by decide))
  rw [← hM] at HMK
  have HHD : Hid (∀ (u : World) (b : Nat) , PutsMk u b (.slice a2 L.length c2) L.length 1 → Calls Try.prog 14 #[.slice a2 L.length c2, .int .i64 1] u fun e w' => e = .returned (.int .i64 (M : Int)) ∧ Below u.heap.size u w') := fun u b h => by
    have := put_held (q := 1) h (by have := HL3.out; omega) (by decide) (by decide)
    rw [← hM] at this; exact this
  have hM0 : 0 ≤ (M : Int) := by omega
  have hMM : ((M : Int) != (M : Int)) = false := by simp
  clear hM
  go_wp2_with fail
  refine HMK.out.mono ?_
  rintro e w4 ⟨rfl, hm4, hO4⟩
  have HM4 := hide hm4
  have HP4 := hide (PutsOwn.only HP3.out hO4 (fun k hk hk' => by have := HG1.out k hk; have := HG2.out k hk'; omega))
  have HB4 : Hid (Below w.heap.size w w4) := HB3.out.trans (hO4.from HB3.out.size (fun k hk => by have := HG2.out k hk; have := HB1.out.size; omega))
  clear HMK hm4 hO4 HO3 HP3 HB3
  go_wp2_with fail
  refine (HHD.out w4 _ HM4.out).mono ?_
  rintro e w5 ⟨rfl, hb5⟩
  have HM5 := hide (PutsMk.below HM4.out hb5)
  have HP5 := hide (PutsOwn.below HP4.out hb5)
  have HB5 := hide (after HB4.out hb5)
  clear hb5 HM4 HP4 HB4
  go_wp2_with fail
  refine (HIM.out w5).mono ?_
  rintro e w6 ⟨v6, rfl, ho6, hb6⟩
  obtain ⟨a6, c6, rfl⟩ := ho6.shape
  have HO6 := hide ho6
  have HM6 := hide (PutsMk.below HM5.out hb6)
  have HP6 := hide (PutsOwn.below HP5.out hb6)
  have HB6 := hide (after HB5.out hb6)
  clear ho6 hb6 HM5 HP5 HB5 HIM
  go_wp2_with fail
  refine (put_eq (PutsOwn.rd HO6.out) (PutsOwn.rd HP6.out) (by have := HL3.out; omega)).mono ?_
  rintro e w7 ⟨rfl, hb7⟩
  have HM7 := hide (PutsMk.below HM6.out hb7)
  have HB7 := hide (after HB6.out hb7)
  clear hb7 HM6 HP6 HB6 HO6
  go_wp2_with fail
  refine (HHD.out w7 _ HM7.out).mono ?_
  rintro e w8 ⟨rfl, hb8⟩
  have HB8 := hide (after HB7.out hb8)
  clear hb8
  go_wp2
  go_ret
  exact ⟨rfl, HB8.out⟩

set_option maxRecDepth 100000 in
theorem lifted (os : Os) (started : os.Started) (H : Type) (enc : TypeId × Value → H) :
    ReturnsInHanded {} Try.checked os 4 .any (Rows.fnExactLogReadSpec.pre6 enc Try.prog Try.f4 Rows.fnExactLogReadRow.domain false) (Rows.fnExactLogReadSpec.post enc Try.prog Try.f4 false true false false) := by
  refine returnsInHanded_of_change (C := Try.checked) own started (by kernel_rfl) Try.func4
    (ChangeSpec.witness6 (enc := enc) (C := Try.checked) false ⟨#[], #[.string ⟨#[]⟩], []⟩ 8 (by kernel_rfl) (by kernel_rfl) (by kernel_rfl) (by kernel_rfl)) ?_
  intro W base args ds gs before hval0 hW hcnd _
  have hval : ∀ (j : Nat) t v, Try.f4.params[j]? = some t → args[j]? = some v → Value.okWide Try.prog W .any base t v := hval0
  have hW' := hW
  obtain ⟨p, q, hA0, hV, rfl, hfz, hnd⟩ := hW
  have hA : DataW.TrodAll enc Try.prog W 0 (fun _ => true) true Try.f4.params.toList args.toList ds p := hA0
  rw [Try.params4] at hA hval
  obtain ⟨v0, vs0, d0, ds0, p0, q0, hargs, rfl, rfl, h0, r0⟩ := trodAll_cons hA
  obtain ⟨rfl, rfl, rfl⟩ := trodAll_nil r0
  obtain rfl : args = #[v0] := by cases args; simp_all
  obtain ⟨rfl, rfl⟩ := trodVars_none hV
  have k0 := h0
  have lt0 : ∀ x ∈ p0, x.block < W.heap.size := by obtain ⟨m, hm⟩ := k0; exact DataW.trod_lt m _ _ _ hm
  obtain ⟨x0, rfl, rfl, rfl, w0⟩ := open_string Try.underlying9 (hval 0 9 v0 rfl rfl) h0
  clear hA0 hval0
  refine (walk x0 W w0).mono fun e W' ⟨he, bel⟩ => ?_
  subst he
  exact ⟨_, rfl, _, _, _, [], _, [], hW', trodAll_mk1 (shut_bool Try.underlying4 _), (trodAll_cons_mk (Below.trod laidOut (by kernel_rfl) (of_decide_eq_true (by kernel_rfl)) k0 bel lt0) trodAll_mk0), rfl, bel.frame _, fun h => by cases h⟩

theorem over : Rows.fnExactLogReadRow.holds Try.pinned (OpenSpec.ofChange Rows.fnExactLogReadSpec) :=
  OpenClaim.holds_of_wide 4 Try.f4 rfl rfl rfl rfl rfl rfl rfl ⟨rfl, rfl, rfl, rfl, rfl⟩ rfl rfl rfl rfl rfl (by kernel_rfl) Try.func4 (by kernel_rfl)
    (of_decide_eq_true (by kernel_rfl)) (by unfold Func.isWrapper; first | (rw [if_pos (by decide +kernel)]; kernel_rfl) | (rw [if_neg (by decide +kernel)]; exact ⟨rfl, rfl⟩))
    (fun os started H enc _ => lifted os started H enc)

end Go.Proofs.Ytdicjbabnknjhaa.fnExactLogRead

namespace Go.Proofs.Ytdicjbabnknjhaa
theorem fnExactLogRead_holds : Rows.FnExactLogReadSaid := fnExactLogRead.over
#print axioms fnExactLogRead_holds
end Go.Proofs.Ytdicjbabnknjhaa
