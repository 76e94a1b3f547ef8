/-
  FnExactNodeRead is true at every argument, and leaves it as it was: impl.NodeRead answers what spec.NodeRead does, in memory of its own. No conditions.
-/
import Derived.Test.YtmolhhljodlhaaaRows
import Derived.Test.YtmolhhljodlhaaaArgFtl
import Derived.Test.YtmolhhljodlhaaaNodeReadBoth
import Derived.WalkKit
import Derived.ProofKit
import Derived.OpenShut
import Derived.ShutString
import Derived.ChangeOld
import Derived.Below
namespace Go.Proofs.Ytmolhhljodlhaaa.fnExactNodeRead
open Go.ChangeShapes Go.WideShapes Go.ChangeAt Go.RowKit
open Go.ChangeMaps (open_string shut_string)
set_option linter.unusedVariables false

theorem own : ownKnob Try.prog.godebug = none := by kernel_rfl
theorem laidOut : laidOutB Try.prog = true := by kernel_rfl

set_option maxRecDepth 100000 in
set_option maxHeartbeats 12800000 in
theorem walk (t : ByteArray) (w : World) (ht : t.size ≤ maxLen) :
    Calls Try.prog 6 #[.string t] w fun e w' => e = .returned (.bool true) ∧ Below w.heap.size w w' := by
  obtain ⟨W, hW⟩ : ∃ W, W = w := ⟨_, rfl⟩
  have hbW : Below w.heap.size w W := by rw [hW]; exact Below.refl _ _
  by_cases hbigt : (1048576 : Int) < (t.size : Int)
  · unfold maxLen at ht
    go_enter Try.func6, Try.ntmps6
    go_wp2
    go_ret
    exact ⟨rfl, by first | exact hW ▸ hbW | exact Below.refl _ _⟩
  have ht' : t.size ≤ 1048576 := by omega
  go_enter Try.func6, Try.ntmps6
  go_wp2_with fail
  rw [← hW]
  clear hW
  obtain ⟨G0dir, G0ns, G0ks, G0dat, S1, ⟨hg0, hg1⟩, HSP, HIM⟩ : ∃ (G0dir : Bool) (G0ns : List ByteArray) (G0ks : List Int) (G0dat : ByteArray) (S1 : Bool), (G0ns.length ≤ 600000 ∧ G0ks.length ≤ 600000) ∧ Hid (∀ (u : World) , Calls Try.prog 18 #[.string t] u fun e w' => ∃ v0, e = .returned (.tuple #[v0, .bool S1]) ∧ (NodeOwn w' u.heap.size v0 G0dir G0ns G0ks G0dat) ∧ Below u.heap.size u w') ∧ Hid (∀ (u : World) , Calls Try.prog 19 #[.string t] u fun e w' => ∃ v0, e = .returned (.tuple #[v0, .bool S1]) ∧ (NodeOwn w' u.heap.size v0 G0dir G0ns G0ks G0dat) ∧ Below u.heap.size u w') :=
    fnExactNodeRead_both t ht'
  have hj0 : G0ns.length ≤ 1048576 := by omega
  have hj1 : G0ks.length ≤ 1048576 := by omega
  have HN0 : 0 < 1 ∧ 1 ≤ 1000000 := by decide
  obtain ⟨M1, hM1⟩ : ∃ m : Nat, m = 1 + G0ns.length + G0ks.length := ⟨_, rfl⟩
  have HN1 : 0 < M1 ∧ M1 ≤ 100000000 := by omega
  have HM1 := hide hM1
  clear hM1
  refine (HSP.out W).mono ?_
  rintro e w3 ⟨v0, rfl, ho0, hb3⟩
  obtain ⟨a3_0, c3_0, b3_0, d3_0, rfl⟩ := ho0.shape
  obtain ⟨V3_0, hV3_0⟩ : ∃ V, V = w3.alloc (Obj.cells #[.bool G0dir, .slice a3_0 G0ns.length c3_0, .slice b3_0 G0ks.length d3_0, .string G0dat] 29) := ⟨_, rfl⟩
  have qV3_0 : Below w3.heap.size w3 V3_0 := by rw [hV3_0]; exact (Below.refl _ _).alloc (Nat.le_refl _) _
  have LA0 : At V3_0 w3.heap.size [.bool G0dir, .slice a3_0 G0ns.length c3_0, .slice b3_0 G0ks.length d3_0, .string G0dat] := by rw [hV3_0]; exact at_new w3 [.bool G0dir, .slice a3_0 G0ns.length c3_0, .slice b3_0 G0ks.length d3_0, .string G0dat] _
  obtain ⟨V3, hV3⟩ : ∃ V, V = V3_0 := ⟨_, rfl⟩
  have hbV3 : Below w3.heap.size w3 V3 := by rw [hV3]; exact qV3_0
  rw [← hV3] at LA0
  clear qV3_0
  have LR0 := ho0.rd.below hbV3
  replace hbW := after hbW hb3
  replace hbW := after hbW hbV3
  clear ho0 hb3 hbV3 HSP
  go_wp2_with fail
  rw [← hV3_0]
  rw [← hV3]
  clear hV3 hV3_0
  have HV : Below V3.heap.size V3 V3 := Below.refl _ _
  refine (HIM.out V3 ).mono ?_
  rintro e w5 ⟨v0, rfl, ho0, hb5⟩
  obtain ⟨a5_0, c5_0, b5_0, d5_0, rfl⟩ := ho0.shape
  obtain ⟨V5_0, hV5_0⟩ : ∃ V, V = w5.alloc (Obj.cells #[.bool G0dir, .slice a5_0 G0ns.length c5_0, .slice b5_0 G0ks.length d5_0, .string G0dat] 29) := ⟨_, rfl⟩
  have qV5_0 : Below w5.heap.size w5 V5_0 := by rw [hV5_0]; exact (Below.refl _ _).alloc (Nat.le_refl _) _
  have GA0 : At V5_0 w5.heap.size [.bool G0dir, .slice a5_0 G0ns.length c5_0, .slice b5_0 G0ks.length d5_0, .string G0dat] := by rw [hV5_0]; exact at_new w5 [.bool G0dir, .slice a5_0 G0ns.length c5_0, .slice b5_0 G0ks.length d5_0, .string G0dat] _
  obtain ⟨V5, hV5⟩ : ∃ V, V = V5_0 := ⟨_, rfl⟩
  have hbV5 : Below w5.heap.size w5 V5 := by rw [hV5]; exact qV5_0
  rw [← hV5] at GA0
  clear qV5_0
  have GO0 := ho0.below hbV5
  have GB : Hid (((∀ k, some k ∈ bk (.agg #[.bool G0dir, .slice a5_0 G0ns.length c5_0, .slice b5_0 G0ks.length d5_0, .string G0dat]) → V3.heap.size ≤ k ∧ k < w5.heap.size)) ∧ V3.heap.size ≤ w5.heap.size ∧ V3.heap.size ≤ V3.heap.size) := ⟨fun k hk => ho0.blk hk, hb5.size, HV.size⟩
  have hb3w5 := HV.trans (hb5.mono HV.size)
  have hbx := after hb5 hbV5
  replace HV := HV.trans (hbx.mono HV.size)
  clear hbx
  have LAx := LA0.below hb3w5
  have ky0 : w5.cell? ⟨w3.heap.size, 0, none⟩ = some (.bool G0dir) := LAx.2 0 (by simp)
  have ky1 : w5.cell? ⟨w3.heap.size, 1, none⟩ = some (.slice a3_0 G0ns.length c3_0) := LAx.2 1 (by simp)
  have ky2 : w5.cell? ⟨w3.heap.size, 2, none⟩ = some (.slice b3_0 G0ks.length d3_0) := LAx.2 2 (by simp)
  have ky3 : w5.cell? ⟨w3.heap.size, 3, none⟩ = some (.string G0dat) := LAx.2 3 (by simp)
  have hlt := LAx.1
  clear LAx
  clear ho0 hb5 hbV5
  have hfS1 : (S1 != S1) = false := by simp
  go_wp2_with fail
  rw [← hV5_0]
  rw [← hV5]
  clear hV5 hV5_0
  clear ky0 ky1 ky2 ky3 hb3w5 hlt
  refine (node_eq GO0.rd (LR0.below HV) hj0 hj1).mono ?_
  rintro e w6 ⟨rfl, hbx⟩
  replace GO0 := GO0.below hbx
  replace GA0 := GA0.below hbx
  replace HV := HV.trans (hbx.mono HV.size)
  clear hbx
  have kg0 : w6.cell? ⟨w5.heap.size, 0, none⟩ = some (.bool G0dir) := GA0.2 0 (by simp)
  have kg1 : w6.cell? ⟨w5.heap.size, 1, none⟩ = some (.slice a5_0 G0ns.length c5_0) := GA0.2 1 (by simp)
  have kg2 : w6.cell? ⟨w5.heap.size, 2, none⟩ = some (.slice b5_0 G0ks.length d5_0) := GA0.2 2 (by simp)
  have kg3 : w6.cell? ⟨w5.heap.size, 3, none⟩ = some (.string G0dat) := GA0.2 3 (by simp)
  have HMK := hide (node_mark (q := 1) GO0 hj0 hj1 HN0.1 HN0.2)
  rw [← HM1.out] at HMK
  go_wp2_with fail
  clear kg0 kg1 kg2 kg3
  refine HMK.out.mono ?_
  rintro e wm0 ⟨rfl, GM0, hO⟩
  clear HMK GO0
  replace GA0 := GA0.only hO (fun hk' => by have := GB.out.1 _ hk'; omega)
  replace HV := HV.trans (hO.from HV.size (fun k hk => by have := GB.out.1 k hk; have := GB.out.2; omega))
  clear hO
  have hnm : ∀ n : Nat, ¬ ((n : Int) < 0) := fun n => by omega
  have hn1 := hnm M1
  clear hnm
  have kg0 : wm0.cell? ⟨w5.heap.size, 0, none⟩ = some (.bool G0dir) := GA0.2 0 (by simp)
  have kg1 : wm0.cell? ⟨w5.heap.size, 1, none⟩ = some (.slice a5_0 G0ns.length c5_0) := GA0.2 1 (by simp)
  have kg2 : wm0.cell? ⟨w5.heap.size, 2, none⟩ = some (.slice b5_0 G0ks.length d5_0) := GA0.2 2 (by simp)
  have kg3 : wm0.cell? ⟨w5.heap.size, 3, none⟩ = some (.string G0dat) := GA0.2 3 (by simp)
  have HHD := hide (node_held (q := 1) GM0 hj0 hj1 HN0.1 HN0.2)
  rw [← HM1.out] at HHD
  go_wp2_with fail
  clear kg0 kg1 kg2 kg3
  refine HHD.out.mono ?_
  rintro e wha0 ⟨rfl, hbx⟩
  clear HHD
  replace GA0 := GA0.below hbx
  replace GM0 := GM0.below hbx
  replace HV := HV.trans (hbx.mono HV.size)
  clear hbx
  go_wp2_with fail
  refine (HIM.out wha0).mono ?_
  rintro e w14 ⟨v0, rfl, ho0, hb14⟩
  obtain ⟨a14_0, c14_0, b14_0, d14_0, rfl⟩ := ho0.shape
  obtain ⟨V14_0, hV14_0⟩ : ∃ V, V = w14.alloc (Obj.cells #[.bool G0dir, .slice a14_0 G0ns.length c14_0, .slice b14_0 G0ks.length d14_0, .string G0dat] 29) := ⟨_, rfl⟩
  have qV14_0 : Below w14.heap.size w14 V14_0 := by rw [hV14_0]; exact (Below.refl _ _).alloc (Nat.le_refl _) _
  have HA0 : At V14_0 w14.heap.size [.bool G0dir, .slice a14_0 G0ns.length c14_0, .slice b14_0 G0ks.length d14_0, .string G0dat] := by rw [hV14_0]; exact at_new w14 [.bool G0dir, .slice a14_0 G0ns.length c14_0, .slice b14_0 G0ks.length d14_0, .string G0dat] _
  obtain ⟨V14, hV14⟩ : ∃ V, V = V14_0 := ⟨_, rfl⟩
  have hbV14 : Below w14.heap.size w14 V14 := by rw [hV14]; exact qV14_0
  rw [← hV14] at HA0
  clear qV14_0
  have HO0 := ho0.below hbV14
  have LAx := LA0.below (HV.trans (hb14.mono HV.size))
  have ky0 : w14.cell? ⟨w3.heap.size, 0, none⟩ = some (.bool G0dir) := LAx.2 0 (by simp)
  have ky1 : w14.cell? ⟨w3.heap.size, 1, none⟩ = some (.slice a3_0 G0ns.length c3_0) := LAx.2 1 (by simp)
  have ky2 : w14.cell? ⟨w3.heap.size, 2, none⟩ = some (.slice b3_0 G0ks.length d3_0) := LAx.2 2 (by simp)
  have ky3 : w14.cell? ⟨w3.heap.size, 3, none⟩ = some (.string G0dat) := LAx.2 3 (by simp)
  have hlt := LAx.1
  clear LAx
  have hbx := after hb14 hbV14
  clear ho0 hb14 hbV14
  replace GA0 := GA0.below hbx
  replace GM0 := GM0.below hbx
  replace HV := HV.trans (hbx.mono HV.size)
  clear hbx
  go_wp2_with fail
  rw [← hV14_0]
  rw [← hV14]
  clear hV14 hV14_0
  clear ky0 ky1 ky2 ky3 hlt
  refine (node_eq HO0.rd (LR0.below HV) hj0 hj1).mono ?_
  rintro e w31 ⟨rfl, hbx⟩
  replace GA0 := GA0.below hbx
  replace GM0 := GM0.below hbx
  replace HO0 := HO0.below hbx
  replace HA0 := HA0.below hbx
  replace HV := HV.trans (hbx.mono HV.size)
  clear hbx
  clear HO0 HA0
  have kg0 : w31.cell? ⟨w5.heap.size, 0, none⟩ = some (.bool G0dir) := GA0.2 0 (by simp)
  have kg1 : w31.cell? ⟨w5.heap.size, 1, none⟩ = some (.slice a5_0 G0ns.length c5_0) := GA0.2 1 (by simp)
  have kg2 : w31.cell? ⟨w5.heap.size, 2, none⟩ = some (.slice b5_0 G0ks.length d5_0) := GA0.2 2 (by simp)
  have kg3 : w31.cell? ⟨w5.heap.size, 3, none⟩ = some (.string G0dat) := GA0.2 3 (by simp)
  have HHD := hide (node_held (q := 1) GM0 hj0 hj1 HN0.1 HN0.2)
  rw [← HM1.out] at HHD
  go_wp2_with fail
  clear kg0 kg1 kg2 kg3
  refine HHD.out.mono ?_
  rintro e whb0 ⟨rfl, hbx⟩
  clear HHD
  replace GA0 := GA0.below hbx
  replace GM0 := GM0.below hbx
  replace HV := HV.trans (hbx.mono HV.size)
  clear hbx
  have hfin : Below w.heap.size w whb0 := after hbW HV
  clear GA0 GM0 HV HIM LR0 LA0
  go_wp2
  go_ret
  exact ⟨rfl, hfin⟩

set_option maxRecDepth 100000 in
theorem lifted (os : Os) (started : os.Started) (H : Type) (enc : TypeId × Value → H) :
    ReturnsInHanded {} Try.checked os 6 .any (Rows.fnExactNodeReadSpec.pre6 enc Try.prog Try.f6 Rows.fnExactNodeReadRow.domain false) (Rows.fnExactNodeReadSpec.post enc Try.prog Try.f6 false true false false) := by
  refine returnsInHanded_of_change (C := Try.checked) own started (by kernel_rfl) Try.func6
    (ChangeSpec.witness6 (enc := enc) (C := Try.checked) false ⟨#[], #[.string ⟨#[]⟩], []⟩ 8 (by kernel_rfl) (by kernel_rfl) (by kernel_rfl) (by kernel_rfl)) ?_
  intro W base args ds gs before hval0 hW hcnd _
  have hval : ∀ (j : Nat) t v, Try.f6.params[j]? = some t → args[j]? = some v → Value.okWide Try.prog W .any base t v := hval0
  have hW' := hW
  obtain ⟨p, q, hA0, hV, rfl, hfz, hnd⟩ := hW
  have hA : DataW.TrodAll enc Try.prog W 0 (fun _ => true) true Try.f6.params.toList args.toList ds p := hA0
  rw [Try.params6] at hA hval
  obtain ⟨v0, vs0, d0, ds0, p0, q0, hargs, rfl, rfl, h0, r0⟩ := trodAll_cons hA
  obtain ⟨rfl, rfl, rfl⟩ := trodAll_nil r0
  obtain rfl : args = #[v0] := by cases args; simp_all
  obtain ⟨rfl, rfl⟩ := trodVars_none hV
  obtain ⟨x0, rfl, rfl, rfl, w0⟩ := open_string Try.underlying9 (hval 0 9 v0 rfl rfl) h0
  clear hA0 hval0
  refine (walk x0 W w0).mono fun e W' ⟨he, bel⟩ => ?_
  subst he
  exact ⟨_, rfl, _, _, _, [], _, [], hW', trodAll_mk1 (shut_bool Try.underlying4 _), (trodAll_cons_mk (shut_string Try.underlying9 w0) trodAll_mk0), rfl, bel.frame _, fun h => by cases h⟩

theorem over : Rows.fnExactNodeReadRow.holds Try.pinned (OpenSpec.ofChange Rows.fnExactNodeReadSpec) :=
  OpenClaim.holds_of_wide 6 Try.f6 rfl rfl rfl rfl rfl rfl rfl ⟨rfl, rfl, rfl, rfl, rfl⟩ rfl rfl rfl rfl rfl (by kernel_rfl) Try.func6 (by kernel_rfl)
    (of_decide_eq_true (by kernel_rfl)) (by unfold Func.isWrapper; first | (rw [if_pos (by decide +kernel)]; kernel_rfl) | (rw [if_neg (by decide +kernel)]; exact ⟨rfl, rfl⟩))
    (fun os started H enc _ => lifted os started H enc)

end Go.Proofs.Ytmolhhljodlhaaa.fnExactNodeRead

namespace Go.Proofs.Ytmolhhljodlhaaa
theorem fnExactNodeRead_holds : Rows.FnExactNodeReadSaid := fnExactNodeRead.over
#print axioms fnExactNodeRead_holds
end Go.Proofs.Ytmolhhljodlhaaa
