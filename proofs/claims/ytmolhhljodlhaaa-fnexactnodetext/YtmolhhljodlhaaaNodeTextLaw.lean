/-
  FnExactNodeText is true at every argument, and leaves it as it was: impl.NodeText answers what spec.NodeText does, in memory of its own. No conditions.
-/
import Derived.Test.YtmolhhljodlhaaaRows
import Derived.Test.YtmolhhljodlhaaaArgFtl
import Derived.Test.YtmolhhljodlhaaaNodeTextBoth
import Derived.WalkKit
import Derived.ProofKit
import Derived.OpenShut
import Derived.ShutString
import Derived.ChangeOld
import Derived.Below
namespace Go.Proofs.Ytmolhhljodlhaaa.fnExactNodeText
open Go.ChangeShapes Go.WideShapes Go.ChangeAt Go.RowKit
open Go.ChangeMaps (open_string shut_string)
set_option linter.unusedVariables false

theorem own : ownKnob Try.prog.godebug = none := by kernel_rfl
theorem laidOut : laidOutB Try.prog = true := by kernel_rfl

set_option maxRecDepth 100000 in
set_option maxHeartbeats 12800000 in
theorem walk (ap : Option Addr) (cp : Nat) (bp : Option Addr) (dp : Nat) (dir : Bool) (ns : List ByteArray) (ks : List Int) (dat : ByteArray) (w : World) (hA0 : NodeRd w (.agg #[.bool dir, .slice ap ns.length cp, .slice bp ks.length dp, .string dat]) dir ns ks dat) (hl0 : ns.length ≤ maxLen) (hl1 : ks.length ≤ maxLen) (hd : dat.size ≤ maxLen) (hs : ∀ s ∈ ns, s.size ≤ maxLen) :
    Calls Try.prog 5 #[.agg #[.bool dir, .slice ap ns.length cp, .slice bp ks.length dp, .string dat]] w fun e w' => e = .returned (.bool true) ∧ Below w.heap.size w w' := by
  obtain ⟨W, hW⟩ : ∃ W, W = w.alloc (Obj.cells #[.bool dir, .slice ap ns.length cp, .slice bp ks.length dp, .string dat] 26) := ⟨_, rfl⟩
  have hbW : Below w.heap.size w W := by rw [hW]; exact (Below.refl _ _).alloc (Nat.le_refl _) _
  have AV : At W w.heap.size [.bool dir, .slice ap ns.length cp, .slice bp ks.length dp, .string dat] := by rw [hW]; exact at_new w [.bool dir, .slice ap ns.length cp, .slice bp ks.length dp, .string dat] _
  have RV0 := hide (hA0.below hbW)
  clear hA0
  go_enter Try.func5, Try.ntmps5
  have kc0 : W.cell? ⟨w.heap.size, 0, none⟩ = some (.bool dir) := AV.2 0 (by simp)
  have kc1 : W.cell? ⟨w.heap.size, 1, none⟩ = some (.slice ap ns.length cp) := AV.2 1 (by simp)
  have kc2 : W.cell? ⟨w.heap.size, 2, none⟩ = some (.slice bp ks.length dp) := AV.2 2 (by simp)
  have kc3 : W.cell? ⟨w.heap.size, 3, none⟩ = some (.string dat) := AV.2 3 (by simp)
  go_wp2_with fail
  rw [← hW]
  clear hW
  refine (node_sz 1048576 RV0.out hl0 hl1 hd hs (by omega)).mono ?_
  rintro e wz0 ⟨⟨r, rfl, hr0, hr1, hr2⟩, hb1⟩
  replace AV := AV.below hb1
  replace RV0 := hide (RV0.out.below hb1)
  replace hbW := after hbW hb1
  clear kc0 kc1 kc2 kc3 hb1 hd hs
  by_cases hneg : r < 0
  · clear hr2 AV RV0
    go_wp2
    go_ret
    exact ⟨rfl, hbW⟩
  obtain ⟨R0, rfl⟩ : ∃ R : Nat, r = R := ⟨r.toNat, by omega⟩
  have HZ0 := hide (hr2 (by omega))
  clear hr2
  have hk0 : ns.length ≤ 1048576 := by have := HZ0.out.1; omega
  have hk1 : ks.length ≤ 1048576 := by have := HZ0.out.1; omega
  obtain ⟨S0, -, HSP, HIM⟩ : ∃  (S0 : ByteArray), (True) ∧ Hid (∀ (u : World) (u0 : Value), NodeRd u u0 dir ns ks dat → Calls Try.prog 16 #[u0] u fun e w' => e = .returned (.string S0) ∧ Below u.heap.size u w') ∧ Hid (∀ (u : World) (u0 : Value), NodeRd u u0 dir ns ks dat → Calls Try.prog 17 #[u0] u fun e w' => e = .returned (.string S0) ∧ Below u.heap.size u w') :=
    fnExactNodeText_both dir ns ks dat hk0 hk1 (by have := HZ0.out.1; omega) HZ0.out.2
  clear HZ0 hl0 hl1
  have kc0 : wz0.cell? ⟨w.heap.size, 0, none⟩ = some (.bool dir) := AV.2 0 (by simp)
  have kc1 : wz0.cell? ⟨w.heap.size, 1, none⟩ = some (.slice ap ns.length cp) := AV.2 1 (by simp)
  have kc2 : wz0.cell? ⟨w.heap.size, 2, none⟩ = some (.slice bp ks.length dp) := AV.2 2 (by simp)
  have kc3 : wz0.cell? ⟨w.heap.size, 3, none⟩ = some (.string dat) := AV.2 3 (by simp)
  go_wp2_with fail
  clear kc0 kc1 kc2 kc3
  refine (node_to RV0.out hk0 hk1).mono ?_
  rintro e w2_0 ⟨v, rfl, hown, hb2⟩
  obtain ⟨a2_0, c2_0, b2_0, d2_0, rfl⟩ := hown.shape
  have HR0 := hide hown.rd
  replace AV := AV.below hb2
  replace RV0 := hide (RV0.out.below hb2)
  replace hbW := after hbW hb2
  clear hown hb2
  go_wp2_with fail
  refine (HSP.out w2_0 _ HR0.out).mono ?_
  rintro e w3 ⟨rfl, hb3⟩
  obtain ⟨V3, hV3⟩ : ∃ V, V = w3 := ⟨_, rfl⟩
  have hbV3 : Below w3.heap.size w3 V3 := by rw [hV3]; exact Below.refl _ _
  replace AV := AV.below hb3
  replace RV0 := hide (RV0.out.below hb3)
  replace hbW := after hbW hb3
  have kc0 : w3.cell? ⟨w.heap.size, 0, none⟩ = some (.bool dir) := AV.2 0 (by simp)
  have kc1 : w3.cell? ⟨w.heap.size, 1, none⟩ = some (.slice ap ns.length cp) := AV.2 1 (by simp)
  have kc2 : w3.cell? ⟨w.heap.size, 2, none⟩ = some (.slice bp ks.length dp) := AV.2 2 (by simp)
  have kc3 : w3.cell? ⟨w.heap.size, 3, none⟩ = some (.string dat) := AV.2 3 (by simp)
  have hlt := AV.1
  replace AV := AV.below hbV3
  replace RV0 := hide (RV0.out.below hbV3)
  replace hbW := after hbW hbV3
  clear HR0 hb3 hbV3 HSP
  go_wp2_with fail
  rw [← hV3]
  clear hV3
  clear kc0 kc1 kc2 kc3 hlt
  have HV : Below V3.heap.size V3 V3 := Below.refl _ _
  refine (node_to (RV0.out.below HV) hk0 hk1).mono ?_
  rintro e w4_0 ⟨v, rfl, hown, hb4⟩
  obtain ⟨a4_0, c4_0, b4_0, d4_0, rfl⟩ := hown.shape
  obtain ⟨V4_0, hV4⟩ : ∃ V, V = w4_0.alloc (Obj.cells #[.bool dir, .slice a4_0 ns.length c4_0, .slice b4_0 ks.length d4_0, .string dat] 29) := ⟨_, rfl⟩
  have hb4V : Below w4_0.heap.size w4_0 V4_0 := by rw [hV4]; exact (Below.refl _ _).alloc (Nat.le_refl _) _
  have XA0 : At V4_0 w4_0.heap.size [.bool dir, .slice a4_0 ns.length c4_0, .slice b4_0 ks.length d4_0, .string dat] := by rw [hV4]; exact at_new w4_0 [.bool dir, .slice a4_0 ns.length c4_0, .slice b4_0 ks.length d4_0, .string dat] _
  have XB0 : Hid ((∀ k, some k ∈ bk (.agg #[.bool dir, .slice a4_0 ns.length c4_0, .slice b4_0 ks.length d4_0, .string dat]) → V3.heap.size ≤ k ∧ k < w4_0.heap.size) ∧ V3.heap.size ≤ w4_0.heap.size ∧ w4_0.heap.size ≤ V4_0.heap.size ∧ V3.heap.size ≤ V3.heap.size ∧ w4_0.heap.size < V4_0.heap.size) := ⟨fun k hk => hown.blk hk, hb4.size, hb4V.size, HV.size, XA0.1⟩
  have XO0 := hown.below hb4V
  have hbx := after hb4 hb4V
  clear hown hb4 hb4V
  replace HV := HV.trans (hbx.mono HV.size)
  clear hbx
  go_wp2_with fail
  rw [← hV4]
  clear hV4
  refine (HIM.out V4_0 _ XO0.rd).mono ?_
  rintro e w5 ⟨rfl, hb5⟩
  obtain ⟨V5, hV5⟩ : ∃ V, V = w5 := ⟨_, rfl⟩
  have hbV5 : Below w5.heap.size w5 V5 := by rw [hV5]; exact Below.refl _ _
  have hb3w5 := HV.trans (hb5.mono HV.size)
  have hbx := after hb5 hbV5
  replace XO0 := XO0.below hbx
  replace XA0 := XA0.below hbx
  replace HV := HV.trans (hbx.mono HV.size)
  clear hbx
  clear  hb5 hbV5
  have hfS0 : (S0.toList == S0.toList) = true := by simp
  rw [← hV5]
  clear hV5 hb3w5
  have AVx := AV.below HV
  have RVx := RV0.out.below HV
  have kc0 : V5.cell? ⟨w.heap.size, 0, none⟩ = some (.bool dir) := AVx.2 0 (by simp)
  have kc1 : V5.cell? ⟨w.heap.size, 1, none⟩ = some (.slice ap ns.length cp) := AVx.2 1 (by simp)
  have kc2 : V5.cell? ⟨w.heap.size, 2, none⟩ = some (.slice bp ks.length dp) := AVx.2 2 (by simp)
  have kc3 : V5.cell? ⟨w.heap.size, 3, none⟩ = some (.string dat) := AVx.2 3 (by simp)
  have kx0 : V5.cell? ⟨w4_0.heap.size, 0, none⟩ = some (.bool dir) := XA0.2 0 (by simp)
  have kx1 : V5.cell? ⟨w4_0.heap.size, 1, none⟩ = some (.slice a4_0 ns.length c4_0) := XA0.2 1 (by simp)
  have kx2 : V5.cell? ⟨w4_0.heap.size, 2, none⟩ = some (.slice b4_0 ks.length d4_0) := XA0.2 2 (by simp)
  have kx3 : V5.cell? ⟨w4_0.heap.size, 3, none⟩ = some (.string dat) := XA0.2 3 (by simp)
  have HT : Hid (∀ u, Below V5.heap.size V5 u → u.cell? ⟨w.heap.size, 0, none⟩ = some (.bool dir) ∧ u.cell? ⟨w.heap.size, 1, none⟩ = some (.slice ap ns.length cp) ∧ u.cell? ⟨w.heap.size, 2, none⟩ = some (.slice bp ks.length dp) ∧ u.cell? ⟨w.heap.size, 3, none⟩ = some (.string dat) ∧ u.cell? ⟨w4_0.heap.size, 0, none⟩ = some (.bool dir) ∧ u.cell? ⟨w4_0.heap.size, 1, none⟩ = some (.slice a4_0 ns.length c4_0) ∧ u.cell? ⟨w4_0.heap.size, 2, none⟩ = some (.slice b4_0 ks.length d4_0) ∧ u.cell? ⟨w4_0.heap.size, 3, none⟩ = some (.string dat)) :=
    fun u hu => ⟨(AVx.below hu).2 0 (by simp), (AVx.below hu).2 1 (by simp), (AVx.below hu).2 2 (by simp), (AVx.below hu).2 3 (by simp), (XA0.below hu).2 0 (by simp), (XA0.below hu).2 1 (by simp), (XA0.below hu).2 2 (by simp), (XA0.below hu).2 3 (by simp)⟩
  have hdr : Below V5.heap.size V5 V5.drew := after_drew (Below.refl _ _) 1
  have HAD := hide (RVx.below hdr)
  have HXD := hide (XO0.rd.below hdr)
  clear AVx RVx
  go_wp2_with fail
  go_region_held (fun w' => w'.cell? ⟨w.heap.size, 0, none⟩ = some (.bool dir) ∧ w'.cell? ⟨w.heap.size, 1, none⟩ = some (.slice ap ns.length cp) ∧ w'.cell? ⟨w.heap.size, 2, none⟩ = some (.slice bp ks.length dp) ∧ w'.cell? ⟨w.heap.size, 3, none⟩ = some (.string dat) ∧ w'.cell? ⟨w4_0.heap.size, 0, none⟩ = some (.bool dir) ∧ w'.cell? ⟨w4_0.heap.size, 1, none⟩ = some (.slice a4_0 ns.length c4_0) ∧ w'.cell? ⟨w4_0.heap.size, 2, none⟩ = some (.slice b4_0 ks.length d4_0) ∧ w'.cell? ⟨w4_0.heap.size, 3, none⟩ = some (.string dat)) (first | assumption | go_keep)
    ((first
      | (go_at_call 13; refine (node_to HAD.out hk0 hk1).mono ?_; rintro e wa ⟨v, rfl, hown, hb7⟩; obtain ⟨a7, c7, b7, d7, hv7⟩ := hown.shape; subst hv7; have HS7 : Hid (Below V5.heap.size V5 wa) := after hdr hb7; have hS := HT.out wa HS7.out; have HR := hide hown.rd; have HX7 := hide (HXD.out.below hb7); clear hown hb7)
      | (go_at_call 15; refine (node_eq HX7.out HR.out hk0 hk1).mono ?_; rintro e wb ⟨rfl, hb8⟩; have HS8 : Hid (Below V5.heap.size V5 wb) := after HS7.out hb8; have hS8 := HT.out wb HS8.out; clear hb8)))
  have hbx := HS8.out
  replace XO0 := XO0.below hbx
  replace XA0 := XA0.below hbx
  replace HV := HV.trans (hbx.mono HV.size)
  clear hbx
  clear kc0 kc1 kc2 kc3 kx0 kx1 kx2 kx3 HT HAD HXD hdr HR HX7 HS7 hS8 hS HS8
  have hfin : Below w.heap.size w wb := after hbW HV
  clear XO0 XA0 HV HIM RV0 AV
  go_wp2
  go_ret
  exact ⟨rfl, hfin⟩

set_option maxRecDepth 100000 in
theorem lifted (os : Os) (started : os.Started) (H : Type) (enc : TypeId × Value → H) :
    ReturnsInHanded {} Try.checked os 5 .any (Rows.fnExactNodeTextSpec.pre6 enc Try.prog Try.f5 Rows.fnExactNodeTextRow.domain false) (Rows.fnExactNodeTextSpec.post enc Try.prog Try.f5 false true false false) := by
  refine returnsInHanded_of_change (C := Try.checked) own started (by kernel_rfl) Try.func5
    (ChangeSpec.witness6 (enc := enc) (C := Try.checked) false ⟨#[], #[.agg #[.bool false, .slice none 0 0, .slice none 0 0, .string ⟨#[]⟩]], []⟩ 8 (by kernel_rfl) (by kernel_rfl) (by kernel_rfl) (by kernel_rfl)) ?_
  intro W base args ds gs before hval0 hW hcnd _
  have hval : ∀ (j : Nat) t v, Try.f5.params[j]? = some t → args[j]? = some v → Value.okWide Try.prog W .any base t v := hval0
  have hW' := hW
  obtain ⟨p, q, hA0, hV, rfl, hfz, hnd⟩ := hW
  have hA : DataW.TrodAll enc Try.prog W 0 (fun _ => true) true Try.f5.params.toList args.toList ds p := hA0
  rw [Try.params5] at hA hval
  obtain ⟨v0, vs0, d0, ds0, p0, q0, hargs, rfl, rfl, h0, r0⟩ := trodAll_cons hA
  obtain ⟨rfl, rfl, rfl⟩ := trodAll_nil r0
  obtain rfl : args = #[v0] := by cases args; simp_all
  obtain ⟨rfl, rfl⟩ := trodVars_none hV
  have k0 := h0
  have lt0 : ∀ x ∈ p0, x.block < W.heap.size := by obtain ⟨m, hm⟩ := k0; exact DataW.trod_lt m _ _ _ hm
  obtain ⟨y0dir, z0a, y0ns, z0c, z0b, y0ks, z0d, y0dat, rfl, hR0, hl00, hl01, hd0, hs0⟩ := node_of (hval 0 26 v0 rfl rfl) h0
  clear hA0 hval0
  refine (walk z0a z0c z0b z0d y0dir y0ns y0ks y0dat W hR0 hl00 hl01 hd0 hs0).mono fun e W' ⟨he, bel⟩ => ?_
  subst he
  exact ⟨_, rfl, _, _, _, [], _, [], hW', trodAll_mk1 (shut_bool Try.underlying4 _), (trodAll_cons_mk (Below.trod laidOut (by kernel_rfl) (of_decide_eq_true (by kernel_rfl)) k0 bel lt0) trodAll_mk0), rfl, bel.frame _, fun h => by cases h⟩

theorem over : Rows.fnExactNodeTextRow.holds Try.pinned (OpenSpec.ofChange Rows.fnExactNodeTextSpec) :=
  OpenClaim.holds_of_wide 5 Try.f5 rfl rfl rfl rfl rfl rfl rfl ⟨rfl, rfl, rfl, rfl, rfl⟩ rfl rfl rfl rfl rfl (by kernel_rfl) Try.func5 (by kernel_rfl)
    (of_decide_eq_true (by kernel_rfl)) (by unfold Func.isWrapper; first | (rw [if_pos (by decide +kernel)]; kernel_rfl) | (rw [if_neg (by decide +kernel)]; exact ⟨rfl, rfl⟩))
    (fun os started H enc _ => lifted os started H enc)

end Go.Proofs.Ytmolhhljodlhaaa.fnExactNodeText

namespace Go.Proofs.Ytmolhhljodlhaaa
theorem fnExactNodeText_holds : Rows.FnExactNodeTextSaid := fnExactNodeText.over
#print axioms fnExactNodeText_holds
end Go.Proofs.Ytmolhhljodlhaaa
