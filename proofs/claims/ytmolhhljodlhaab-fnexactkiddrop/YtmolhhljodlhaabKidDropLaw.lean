/-
  FnExactKidDrop is true at every argument, and leaves it as it was: impl.KidDrop answers what spec.KidDrop does, in memory of its own. No conditions.
-/
import Derived.Test.YtmolhhljodlhaabRows
import Derived.Test.YtmolhhljodlhaabArgFtl
import Derived.Test.YtmolhhljodlhaabKidDropBoth
import Derived.WalkKit
import Derived.ProofKit
import Derived.OpenShut
import Derived.ShutString
import Derived.ChangeOld
import Derived.Below
namespace Go.Proofs.Ytmolhhljodlhaab.fnExactKidDrop
open Go.ChangeShapes Go.WideShapes Go.ChangeAt Go.RowKit
open Go.ChangeMaps (open_string shut_string)
set_option linter.unusedVariables false

theorem own : ownKnob Try.prog.godebug = none := by kernel_rfl
theorem laidOut : laidOutB Try.prog = true := by kernel_rfl

set_option maxRecDepth 100000 in
set_option maxHeartbeats 12800000 in
theorem walk (ap : Option Addr) (cp : Nat) (bp : Option Addr) (dp : Nat) (dir : Bool) (ns : List ByteArray) (ks : List Int) (dat : ByteArray) (name : ByteArray) (w : World) (hA0 : NodeRd w (.agg #[.bool dir, .slice ap ns.length cp, .slice bp ks.length dp, .string dat]) dir ns ks dat) (hl0 : ns.length ≤ maxLen) (hl1 : ks.length ≤ maxLen) (hd : dat.size ≤ maxLen) (hs : ∀ s ∈ ns, s.size ≤ maxLen) (hname : name.size ≤ maxLen) :
    Calls Try.prog 3 #[.agg #[.bool dir, .slice ap ns.length cp, .slice bp ks.length dp, .string dat], .string name] w fun e w' => e = .returned (.bool true) ∧ Below w.heap.size w w' := by
  obtain ⟨W, hW⟩ : ∃ W, W = w.alloc (Obj.cells #[.bool dir, .slice ap ns.length cp, .slice bp ks.length dp, .string dat] 25) := ⟨_, rfl⟩
  have hbW : Below w.heap.size w W := by rw [hW]; exact (Below.refl _ _).alloc (Nat.le_refl _) _
  have AV : At W w.heap.size [.bool dir, .slice ap ns.length cp, .slice bp ks.length dp, .string dat] := by rw [hW]; exact at_new w [.bool dir, .slice ap ns.length cp, .slice bp ks.length dp, .string dat] _
  have RV0 := hide (hA0.below hbW)
  clear hA0
  by_cases hbigname : (1048576 : Int) < (name.size : Int)
  · unfold maxLen at hname
    clear RV0 hd hs AV
    go_enter Try.func3, Try.ntmps3
    go_wp2
    go_ret
    exact ⟨rfl, by first | exact hW ▸ hbW | exact Below.refl _ _⟩
  have hname' : name.size ≤ 1048576 := by omega
  go_enter Try.func3, Try.ntmps3
  have kc0 : W.cell? ⟨w.heap.size, 0, none⟩ = some (.bool dir) := AV.2 0 (by simp)
  have kc1 : W.cell? ⟨w.heap.size, 1, none⟩ = some (.slice ap ns.length cp) := AV.2 1 (by simp)
  have kc2 : W.cell? ⟨w.heap.size, 2, none⟩ = some (.slice bp ks.length dp) := AV.2 2 (by simp)
  have kc3 : W.cell? ⟨w.heap.size, 3, none⟩ = some (.string dat) := AV.2 3 (by simp)
  go_wp2_with fail
  rw [← hW]
  clear hW
  refine (node_sz 1048576 RV0.out hl0 hl1 hd hs (by omega)).mono ?_
  rintro e wz0 ⟨⟨r, rfl, hr0, hr1, hr2⟩, hb1⟩
  replace AV := AV.below hb1
  replace RV0 := hide (RV0.out.below hb1)
  replace hbW := after hbW hb1
  clear kc0 kc1 kc2 kc3 hb1 hd hs
  by_cases hneg : r < 0
  · clear hr2 AV RV0
    go_wp2
    go_ret
    exact ⟨rfl, hbW⟩
  obtain ⟨R0, rfl⟩ : ∃ R : Nat, r = R := ⟨r.toNat, by omega⟩
  have HZ0 := hide (hr2 (by omega))
  clear hr2
  have hk0 : ns.length ≤ 1048576 := by have := HZ0.out.1; omega
  have hk1 : ks.length ≤ 1048576 := by have := HZ0.out.1; omega
  have hsum : ns.length + ks.length + dat.size ≤ 1048576 := by have := HZ0.out.1; omega
  obtain ⟨G0dir, G0ns, G0ks, G0dat, ⟨hg0, hg1⟩, HSP, HIM⟩ : ∃ (G0dir : Bool) (G0ns : List ByteArray) (G0ks : List Int) (G0dat : ByteArray) , (G0ns.length ≤ 600000 ∧ G0ks.length ≤ 600000) ∧ Hid (∀ (u : World) (u0 : Value), NodeRd u u0 dir ns ks dat → Calls Try.prog 5 #[u0, .string name] u fun e w' => ∃ v0, e = .returned (v0) ∧ (NodeOwn w' u.heap.size v0 G0dir G0ns G0ks G0dat) ∧ Below u.heap.size u w') ∧ Hid (∀ (u : World) (u0 : Value), NodeRd u u0 dir ns ks dat → Calls Try.prog 7 #[u0, .string name] u fun e w' => ∃ v0, e = .returned (v0) ∧ (NodeOwn w' u.heap.size v0 G0dir G0ns G0ks G0dat) ∧ Below u.heap.size u w') :=
    fnExactKidDrop_both dir ns ks dat name hk0 hk1 hsum (by have := HZ0.out.1; omega) HZ0.out.2 hname'
  clear hsum HZ0 hl0 hl1
  have hj0 : G0ns.length ≤ 1048576 := by omega
  have hj1 : G0ks.length ≤ 1048576 := by omega
  have HN0 : 0 < 1 ∧ 1 ≤ 1000000 := by decide
  obtain ⟨M1, hM1⟩ : ∃ m : Nat, m = 1 + G0ns.length + G0ks.length := ⟨_, rfl⟩
  have HN1 : 0 < M1 ∧ M1 ≤ 100000000 := by omega
  have HM1 := hide hM1
  clear hM1
  have kc0 : wz0.cell? ⟨w.heap.size, 0, none⟩ = some (.bool dir) := AV.2 0 (by simp)
  have kc1 : wz0.cell? ⟨w.heap.size, 1, none⟩ = some (.slice ap ns.length cp) := AV.2 1 (by simp)
  have kc2 : wz0.cell? ⟨w.heap.size, 2, none⟩ = some (.slice bp ks.length dp) := AV.2 2 (by simp)
  have kc3 : wz0.cell? ⟨w.heap.size, 3, none⟩ = some (.string dat) := AV.2 3 (by simp)
  go_wp2_with fail
  clear kc0 kc1 kc2 kc3
  refine (node_to RV0.out hk0 hk1).mono ?_
  rintro e w2_0 ⟨v, rfl, hown, hb2⟩
  obtain ⟨a2_0, c2_0, b2_0, d2_0, rfl⟩ := hown.shape
  have HR0 := hide hown.rd
  replace AV := AV.below hb2
  replace RV0 := hide (RV0.out.below hb2)
  replace hbW := after hbW hb2
  clear hown hb2
  go_wp2_with fail
  refine (HSP.out w2_0 _ HR0.out).mono ?_
  rintro e w3 ⟨v0, rfl, ho0, hb3⟩
  obtain ⟨a3_0, c3_0, b3_0, d3_0, rfl⟩ := ho0.shape
  obtain ⟨V3_0, hV3_0⟩ : ∃ V, V = w3.alloc (Obj.cells #[.bool G0dir, .slice a3_0 G0ns.length c3_0, .slice b3_0 G0ks.length d3_0, .string G0dat] 27) := ⟨_, rfl⟩
  have qV3_0 : Below w3.heap.size w3 V3_0 := by rw [hV3_0]; exact (Below.refl _ _).alloc (Nat.le_refl _) _
  have LA0 : At V3_0 w3.heap.size [.bool G0dir, .slice a3_0 G0ns.length c3_0, .slice b3_0 G0ks.length d3_0, .string G0dat] := by rw [hV3_0]; exact at_new w3 [.bool G0dir, .slice a3_0 G0ns.length c3_0, .slice b3_0 G0ks.length d3_0, .string G0dat] _
  obtain ⟨V3, hV3⟩ : ∃ V, V = V3_0 := ⟨_, rfl⟩
  have hbV3 : Below w3.heap.size w3 V3 := by rw [hV3]; exact qV3_0
  rw [← hV3] at LA0
  clear qV3_0
  have LR0 := ho0.rd.below hbV3
  replace AV := AV.below hb3
  replace RV0 := hide (RV0.out.below hb3)
  replace hbW := after hbW hb3
  have kc0 : w3.cell? ⟨w.heap.size, 0, none⟩ = some (.bool dir) := AV.2 0 (by simp)
  have kc1 : w3.cell? ⟨w.heap.size, 1, none⟩ = some (.slice ap ns.length cp) := AV.2 1 (by simp)
  have kc2 : w3.cell? ⟨w.heap.size, 2, none⟩ = some (.slice bp ks.length dp) := AV.2 2 (by simp)
  have kc3 : w3.cell? ⟨w.heap.size, 3, none⟩ = some (.string dat) := AV.2 3 (by simp)
  have hlt := AV.1
  replace AV := AV.below hbV3
  replace RV0 := hide (RV0.out.below hbV3)
  replace hbW := after hbW hbV3
  clear ho0 HR0 hb3 hbV3 HSP
  go_wp2_with fail
  rw [← hV3_0]
  rw [← hV3]
  clear hV3 hV3_0
  clear kc0 kc1 kc2 kc3 hlt
  have HV : Below V3.heap.size V3 V3 := Below.refl _ _
  refine (node_to (RV0.out.below HV) hk0 hk1).mono ?_
  rintro e w4_0 ⟨v, rfl, hown, hb4⟩
  obtain ⟨a4_0, c4_0, b4_0, d4_0, rfl⟩ := hown.shape
  obtain ⟨V4_0, hV4⟩ : ∃ V, V = w4_0.alloc (Obj.cells #[.bool dir, .slice a4_0 ns.length c4_0, .slice b4_0 ks.length d4_0, .string dat] 27) := ⟨_, rfl⟩
  have hb4V : Below w4_0.heap.size w4_0 V4_0 := by rw [hV4]; exact (Below.refl _ _).alloc (Nat.le_refl _) _
  have XA0 : At V4_0 w4_0.heap.size [.bool dir, .slice a4_0 ns.length c4_0, .slice b4_0 ks.length d4_0, .string dat] := by rw [hV4]; exact at_new w4_0 [.bool dir, .slice a4_0 ns.length c4_0, .slice b4_0 ks.length d4_0, .string dat] _
  have XB0 : Hid ((∀ k, some k ∈ bk (.agg #[.bool dir, .slice a4_0 ns.length c4_0, .slice b4_0 ks.length d4_0, .string dat]) → V3.heap.size ≤ k ∧ k < w4_0.heap.size) ∧ V3.heap.size ≤ w4_0.heap.size ∧ w4_0.heap.size ≤ V4_0.heap.size ∧ V3.heap.size ≤ V3.heap.size ∧ w4_0.heap.size < V4_0.heap.size) := ⟨fun k hk => hown.blk hk, hb4.size, hb4V.size, HV.size, XA0.1⟩
  have XO0 := hown.below hb4V
  have hbx := after hb4 hb4V
  clear hown hb4 hb4V
  replace HV := HV.trans (hbx.mono HV.size)
  clear hbx
  go_wp2_with fail
  rw [← hV4]
  clear hV4
  refine (HIM.out V4_0 _ XO0.rd).mono ?_
  rintro e w5 ⟨v0, rfl, ho0, hb5⟩
  obtain ⟨a5_0, c5_0, b5_0, d5_0, rfl⟩ := ho0.shape
  obtain ⟨V5_0, hV5_0⟩ : ∃ V, V = w5.alloc (Obj.cells #[.bool G0dir, .slice a5_0 G0ns.length c5_0, .slice b5_0 G0ks.length d5_0, .string G0dat] 27) := ⟨_, rfl⟩
  have qV5_0 : Below w5.heap.size w5 V5_0 := by rw [hV5_0]; exact (Below.refl _ _).alloc (Nat.le_refl _) _
  have GA0 : At V5_0 w5.heap.size [.bool G0dir, .slice a5_0 G0ns.length c5_0, .slice b5_0 G0ks.length d5_0, .string G0dat] := by rw [hV5_0]; exact at_new w5 [.bool G0dir, .slice a5_0 G0ns.length c5_0, .slice b5_0 G0ks.length d5_0, .string G0dat] _
  obtain ⟨V5, hV5⟩ : ∃ V, V = V5_0 := ⟨_, rfl⟩
  have hbV5 : Below w5.heap.size w5 V5 := by rw [hV5]; exact qV5_0
  rw [← hV5] at GA0
  clear qV5_0
  have GO0 := ho0.below hbV5
  have GB : Hid (((∀ k, some k ∈ bk (.agg #[.bool G0dir, .slice a5_0 G0ns.length c5_0, .slice b5_0 G0ks.length d5_0, .string G0dat]) → V4_0.heap.size ≤ k ∧ k < w5.heap.size)) ∧ V4_0.heap.size ≤ w5.heap.size ∧ V3.heap.size ≤ V4_0.heap.size) := ⟨fun k hk => ho0.blk hk, hb5.size, HV.size⟩
  have hb3w5 := HV.trans (hb5.mono HV.size)
  have hbx := after hb5 hbV5
  replace XO0 := XO0.below hbx
  replace XA0 := XA0.below hbx
  replace HV := HV.trans (hbx.mono HV.size)
  clear hbx
  have LAx := LA0.below hb3w5
  have ky0 : w5.cell? ⟨w3.heap.size, 0, none⟩ = some (.bool G0dir) := LAx.2 0 (by simp)
  have ky1 : w5.cell? ⟨w3.heap.size, 1, none⟩ = some (.slice a3_0 G0ns.length c3_0) := LAx.2 1 (by simp)
  have ky2 : w5.cell? ⟨w3.heap.size, 2, none⟩ = some (.slice b3_0 G0ks.length d3_0) := LAx.2 2 (by simp)
  have ky3 : w5.cell? ⟨w3.heap.size, 3, none⟩ = some (.string G0dat) := LAx.2 3 (by simp)
  have hlt := LAx.1
  clear LAx
  clear ho0 hb5 hbV5
  go_wp2_with fail
  rw [← hV5_0]
  rw [← hV5]
  clear hV5 hV5_0
  clear ky0 ky1 ky2 ky3 hb3w5 hlt
  refine (node_eq GO0.rd (LR0.below HV) hj0 hj1).mono ?_
  rintro e w6 ⟨rfl, hbx⟩
  replace XO0 := XO0.below hbx
  replace XA0 := XA0.below hbx
  replace GO0 := GO0.below hbx
  replace GA0 := GA0.below hbx
  replace HV := HV.trans (hbx.mono HV.size)
  clear hbx
  have AVx := AV.below HV
  have RVx := RV0.out.below HV
  have kc0 : w6.cell? ⟨w.heap.size, 0, none⟩ = some (.bool dir) := AVx.2 0 (by simp)
  have kc1 : w6.cell? ⟨w.heap.size, 1, none⟩ = some (.slice ap ns.length cp) := AVx.2 1 (by simp)
  have kc2 : w6.cell? ⟨w.heap.size, 2, none⟩ = some (.slice bp ks.length dp) := AVx.2 2 (by simp)
  have kc3 : w6.cell? ⟨w.heap.size, 3, none⟩ = some (.string dat) := AVx.2 3 (by simp)
  have kx0 : w6.cell? ⟨w4_0.heap.size, 0, none⟩ = some (.bool dir) := XA0.2 0 (by simp)
  have kx1 : w6.cell? ⟨w4_0.heap.size, 1, none⟩ = some (.slice a4_0 ns.length c4_0) := XA0.2 1 (by simp)
  have kx2 : w6.cell? ⟨w4_0.heap.size, 2, none⟩ = some (.slice b4_0 ks.length d4_0) := XA0.2 2 (by simp)
  have kx3 : w6.cell? ⟨w4_0.heap.size, 3, none⟩ = some (.string dat) := XA0.2 3 (by simp)
  have HT : Hid (∀ u, Below w6.heap.size w6 u → u.cell? ⟨w.heap.size, 0, none⟩ = some (.bool dir) ∧ u.cell? ⟨w.heap.size, 1, none⟩ = some (.slice ap ns.length cp) ∧ u.cell? ⟨w.heap.size, 2, none⟩ = some (.slice bp ks.length dp) ∧ u.cell? ⟨w.heap.size, 3, none⟩ = some (.string dat) ∧ u.cell? ⟨w4_0.heap.size, 0, none⟩ = some (.bool dir) ∧ u.cell? ⟨w4_0.heap.size, 1, none⟩ = some (.slice a4_0 ns.length c4_0) ∧ u.cell? ⟨w4_0.heap.size, 2, none⟩ = some (.slice b4_0 ks.length d4_0) ∧ u.cell? ⟨w4_0.heap.size, 3, none⟩ = some (.string dat)) :=
    fun u hu => ⟨(AVx.below hu).2 0 (by simp), (AVx.below hu).2 1 (by simp), (AVx.below hu).2 2 (by simp), (AVx.below hu).2 3 (by simp), (XA0.below hu).2 0 (by simp), (XA0.below hu).2 1 (by simp), (XA0.below hu).2 2 (by simp), (XA0.below hu).2 3 (by simp)⟩
  have hdr : Below w6.heap.size w6 w6.drew := after_drew (Below.refl _ _) 1
  have HAD := hide (RVx.below hdr)
  have HXD := hide (XO0.rd.below hdr)
  clear AVx RVx
  go_wp2_with fail
  go_region_held (fun w' => w'.cell? ⟨w.heap.size, 0, none⟩ = some (.bool dir) ∧ w'.cell? ⟨w.heap.size, 1, none⟩ = some (.slice ap ns.length cp) ∧ w'.cell? ⟨w.heap.size, 2, none⟩ = some (.slice bp ks.length dp) ∧ w'.cell? ⟨w.heap.size, 3, none⟩ = some (.string dat) ∧ w'.cell? ⟨w4_0.heap.size, 0, none⟩ = some (.bool dir) ∧ w'.cell? ⟨w4_0.heap.size, 1, none⟩ = some (.slice a4_0 ns.length c4_0) ∧ w'.cell? ⟨w4_0.heap.size, 2, none⟩ = some (.slice b4_0 ks.length d4_0) ∧ w'.cell? ⟨w4_0.heap.size, 3, none⟩ = some (.string dat)) (first | assumption | go_keep)
    ((first
      | (go_at_call 6; refine (node_to HAD.out hk0 hk1).mono ?_; rintro e wa ⟨v, rfl, hown, hb7⟩; obtain ⟨a7, c7, b7, d7, hv7⟩ := hown.shape; subst hv7; have HS7 : Hid (Below w6.heap.size w6 wa) := after hdr hb7; have hS := HT.out wa HS7.out; have HR := hide hown.rd; have HX7 := hide (HXD.out.below hb7); clear hown hb7)
      | (go_at_call 8; refine (node_eq HX7.out HR.out hk0 hk1).mono ?_; rintro e wb ⟨rfl, hb8⟩; have HS8 : Hid (Below w6.heap.size w6 wb) := after HS7.out hb8; have hS8 := HT.out wb HS8.out; clear hb8)))
  have hbx := HS8.out
  replace XO0 := XO0.below hbx
  replace XA0 := XA0.below hbx
  replace GO0 := GO0.below hbx
  replace GA0 := GA0.below hbx
  replace HV := HV.trans (hbx.mono HV.size)
  clear hbx
  clear kc0 kc1 kc2 kc3 kx0 kx1 kx2 kx3 HT HAD HXD hdr HR HX7 HS7 hS8 hS HS8
  have kx0 : wb.cell? ⟨w4_0.heap.size, 0, none⟩ = some (.bool dir) := XA0.2 0 (by simp)
  have kx1 : wb.cell? ⟨w4_0.heap.size, 1, none⟩ = some (.slice a4_0 ns.length c4_0) := XA0.2 1 (by simp)
  have kx2 : wb.cell? ⟨w4_0.heap.size, 2, none⟩ = some (.slice b4_0 ks.length d4_0) := XA0.2 2 (by simp)
  have kx3 : wb.cell? ⟨w4_0.heap.size, 3, none⟩ = some (.string dat) := XA0.2 3 (by simp)
  have HMK := hide (node_mark (q := 1) XO0 hk0 hk1 (by decide) (by decide))
  obtain ⟨K1, hK1⟩ : ∃ m : Nat, m = 1 + ns.length + ks.length := ⟨_, rfl⟩
  rw [← hK1] at HMK
  have HK1 := hide hK1
  have hKb1 : 0 < K1 ∧ K1 ≤ 16000000 := by omega
  clear hK1
  go_wp2_with fail
  clear kx0 kx1 kx2 kx3
  refine HMK.out.mono ?_
  rintro e wk0 ⟨rfl, -, hO⟩
  clear HMK
  replace GO0 := GO0.only hO (fun k hk hk' => by have := GB.out.1 k hk; have := XB0.out.1 k hk'; have := XB0.out.2; omega)
  replace GA0 := GA0.only hO (fun hk' => by have := XB0.out.1 _ hk'; have := XB0.out.2; have := GB.out.2; omega)
  replace HV := HV.trans (hO.from HV.size (fun k hk => by have := XB0.out.1 k hk; have := XB0.out.2; omega))
  clear hO XO0 XA0
  have hnn : ¬ ((K1 : Int) < 0) := by omega
  have LAx := LA0.below HV
  have ky0 : wk0.cell? ⟨w3.heap.size, 0, none⟩ = some (.bool G0dir) := LAx.2 0 (by simp)
  have ky1 : wk0.cell? ⟨w3.heap.size, 1, none⟩ = some (.slice a3_0 G0ns.length c3_0) := LAx.2 1 (by simp)
  have ky2 : wk0.cell? ⟨w3.heap.size, 2, none⟩ = some (.slice b3_0 G0ks.length d3_0) := LAx.2 2 (by simp)
  have ky3 : wk0.cell? ⟨w3.heap.size, 3, none⟩ = some (.string G0dat) := LAx.2 3 (by simp)
  clear LAx
  have kg0 : wk0.cell? ⟨w5.heap.size, 0, none⟩ = some (.bool G0dir) := GA0.2 0 (by simp)
  have kg1 : wk0.cell? ⟨w5.heap.size, 1, none⟩ = some (.slice a5_0 G0ns.length c5_0) := GA0.2 1 (by simp)
  have kg2 : wk0.cell? ⟨w5.heap.size, 2, none⟩ = some (.slice b5_0 G0ks.length d5_0) := GA0.2 2 (by simp)
  have kg3 : wk0.cell? ⟨w5.heap.size, 3, none⟩ = some (.string G0dat) := GA0.2 3 (by simp)
  go_wp2_with fail
  clear ky0 ky1 ky2 ky3 kg0 kg1 kg2 kg3
  refine (node_eq GO0.rd (LR0.below HV) hj0 hj1).mono ?_
  rintro e w21 ⟨rfl, hbx⟩
  replace GO0 := GO0.below hbx
  replace GA0 := GA0.below hbx
  replace HV := HV.trans (hbx.mono HV.size)
  clear hbx
  have kg0 : w21.cell? ⟨w5.heap.size, 0, none⟩ = some (.bool G0dir) := GA0.2 0 (by simp)
  have kg1 : w21.cell? ⟨w5.heap.size, 1, none⟩ = some (.slice a5_0 G0ns.length c5_0) := GA0.2 1 (by simp)
  have kg2 : w21.cell? ⟨w5.heap.size, 2, none⟩ = some (.slice b5_0 G0ks.length d5_0) := GA0.2 2 (by simp)
  have kg3 : w21.cell? ⟨w5.heap.size, 3, none⟩ = some (.string G0dat) := GA0.2 3 (by simp)
  have HMK := hide (node_mark (q := 1) GO0 hj0 hj1 HN0.1 HN0.2)
  rw [← HM1.out] at HMK
  go_wp2_with fail
  clear kg0 kg1 kg2 kg3
  refine HMK.out.mono ?_
  rintro e wm0 ⟨rfl, GM0, hO⟩
  clear HMK GO0
  replace GA0 := GA0.only hO (fun hk' => by have := GB.out.1 _ hk'; omega)
  replace HV := HV.trans (hO.from HV.size (fun k hk => by have := GB.out.1 k hk; have := GB.out.2; omega))
  clear hO
  have hnm : ∀ n : Nat, ¬ ((n : Int) < 0) := fun n => by omega
  have hn1 := hnm M1
  clear hnm hnn
  have kg0 : wm0.cell? ⟨w5.heap.size, 0, none⟩ = some (.bool G0dir) := GA0.2 0 (by simp)
  have kg1 : wm0.cell? ⟨w5.heap.size, 1, none⟩ = some (.slice a5_0 G0ns.length c5_0) := GA0.2 1 (by simp)
  have kg2 : wm0.cell? ⟨w5.heap.size, 2, none⟩ = some (.slice b5_0 G0ks.length d5_0) := GA0.2 2 (by simp)
  have kg3 : wm0.cell? ⟨w5.heap.size, 3, none⟩ = some (.string G0dat) := GA0.2 3 (by simp)
  have HHD := hide (node_held (q := 1) GM0 hj0 hj1 HN0.1 HN0.2)
  rw [← HM1.out] at HHD
  go_wp2_with fail
  clear kg0 kg1 kg2 kg3
  refine HHD.out.mono ?_
  rintro e wha0 ⟨rfl, hbx⟩
  clear HHD
  replace GA0 := GA0.below hbx
  replace GM0 := GM0.below hbx
  replace HV := HV.trans (hbx.mono HV.size)
  clear hbx
  have RVx := RV0.out.below HV
  have AVx := AV.below HV
  have kc0 : wha0.cell? ⟨w.heap.size, 0, none⟩ = some (.bool dir) := AVx.2 0 (by simp)
  have kc1 : wha0.cell? ⟨w.heap.size, 1, none⟩ = some (.slice ap ns.length cp) := AVx.2 1 (by simp)
  have kc2 : wha0.cell? ⟨w.heap.size, 2, none⟩ = some (.slice bp ks.length dp) := AVx.2 2 (by simp)
  have kc3 : wha0.cell? ⟨w.heap.size, 3, none⟩ = some (.string dat) := AVx.2 3 (by simp)
  clear AVx
  go_wp2_with fail
  clear kc0 kc1 kc2 kc3
  refine (node_to RVx hk0 hk1).mono ?_
  rintro e w13_0 ⟨v, rfl, hown, hbx⟩
  obtain ⟨a13_0, c13_0, b13_0, d13_0, rfl⟩ := hown.shape
  have HR0 := hide hown.rd
  clear hown RVx
  replace GA0 := GA0.below hbx
  replace GM0 := GM0.below hbx
  replace HV := HV.trans (hbx.mono HV.size)
  clear hbx
  go_wp2_with fail
  refine (HIM.out w13_0 _ HR0.out).mono ?_
  rintro e w14 ⟨v0, rfl, ho0, hb14⟩
  obtain ⟨a14_0, c14_0, b14_0, d14_0, rfl⟩ := ho0.shape
  obtain ⟨V14_0, hV14_0⟩ : ∃ V, V = w14.alloc (Obj.cells #[.bool G0dir, .slice a14_0 G0ns.length c14_0, .slice b14_0 G0ks.length d14_0, .string G0dat] 27) := ⟨_, rfl⟩
  have qV14_0 : Below w14.heap.size w14 V14_0 := by rw [hV14_0]; exact (Below.refl _ _).alloc (Nat.le_refl _) _
  have HA0 : At V14_0 w14.heap.size [.bool G0dir, .slice a14_0 G0ns.length c14_0, .slice b14_0 G0ks.length d14_0, .string G0dat] := by rw [hV14_0]; exact at_new w14 [.bool G0dir, .slice a14_0 G0ns.length c14_0, .slice b14_0 G0ks.length d14_0, .string G0dat] _
  obtain ⟨V14, hV14⟩ : ∃ V, V = V14_0 := ⟨_, rfl⟩
  have hbV14 : Below w14.heap.size w14 V14 := by rw [hV14]; exact qV14_0
  rw [← hV14] at HA0
  clear qV14_0
  have HO0 := ho0.below hbV14
  have LAx := LA0.below (HV.trans (hb14.mono HV.size))
  have ky0 : w14.cell? ⟨w3.heap.size, 0, none⟩ = some (.bool G0dir) := LAx.2 0 (by simp)
  have ky1 : w14.cell? ⟨w3.heap.size, 1, none⟩ = some (.slice a3_0 G0ns.length c3_0) := LAx.2 1 (by simp)
  have ky2 : w14.cell? ⟨w3.heap.size, 2, none⟩ = some (.slice b3_0 G0ks.length d3_0) := LAx.2 2 (by simp)
  have ky3 : w14.cell? ⟨w3.heap.size, 3, none⟩ = some (.string G0dat) := LAx.2 3 (by simp)
  have hlt := LAx.1
  clear LAx
  have hbx := after hb14 hbV14
  clear ho0 hb14 hbV14 HR0
  replace GA0 := GA0.below hbx
  replace GM0 := GM0.below hbx
  replace HV := HV.trans (hbx.mono HV.size)
  clear hbx
  go_wp2_with fail
  rw [← hV14_0]
  rw [← hV14]
  clear hV14 hV14_0
  clear ky0 ky1 ky2 ky3 hlt
  refine (node_eq HO0.rd (LR0.below HV) hj0 hj1).mono ?_
  rintro e w31 ⟨rfl, hbx⟩
  replace GA0 := GA0.below hbx
  replace GM0 := GM0.below hbx
  replace HO0 := HO0.below hbx
  replace HA0 := HA0.below hbx
  replace HV := HV.trans (hbx.mono HV.size)
  clear hbx
  clear HO0 HA0
  have kg0 : w31.cell? ⟨w5.heap.size, 0, none⟩ = some (.bool G0dir) := GA0.2 0 (by simp)
  have kg1 : w31.cell? ⟨w5.heap.size, 1, none⟩ = some (.slice a5_0 G0ns.length c5_0) := GA0.2 1 (by simp)
  have kg2 : w31.cell? ⟨w5.heap.size, 2, none⟩ = some (.slice b5_0 G0ks.length d5_0) := GA0.2 2 (by simp)
  have kg3 : w31.cell? ⟨w5.heap.size, 3, none⟩ = some (.string G0dat) := GA0.2 3 (by simp)
  have HHD := hide (node_held (q := 1) GM0 hj0 hj1 HN0.1 HN0.2)
  rw [← HM1.out] at HHD
  go_wp2_with fail
  clear kg0 kg1 kg2 kg3
  refine HHD.out.mono ?_
  rintro e whb0 ⟨rfl, hbx⟩
  clear HHD
  replace GA0 := GA0.below hbx
  replace GM0 := GM0.below hbx
  replace HV := HV.trans (hbx.mono HV.size)
  clear hbx
  have hfin : Below w.heap.size w whb0 := after hbW HV
  clear GA0 GM0 HV HIM RV0 AV LR0 LA0
  go_wp2
  go_ret
  exact ⟨rfl, hfin⟩

set_option maxRecDepth 100000 in
theorem lifted (os : Os) (started : os.Started) (H : Type) (enc : TypeId × Value → H) :
    ReturnsInHanded {} Try.checked os 3 .any (Rows.fnExactKidDropSpec.pre6 enc Try.prog Try.f3 Rows.fnExactKidDropRow.domain false) (Rows.fnExactKidDropSpec.post enc Try.prog Try.f3 false true false false) := by
  refine returnsInHanded_of_change (C := Try.checked) own started (by kernel_rfl) Try.func3
    (ChangeSpec.witness6 (enc := enc) (C := Try.checked) false ⟨#[], #[.agg #[.bool false, .slice none 0 0, .slice none 0 0, .string ⟨#[]⟩], .string ⟨#[]⟩], []⟩ 8 (by kernel_rfl) (by kernel_rfl) (by kernel_rfl) (by kernel_rfl)) ?_
  intro W base args ds gs before hval0 hW hcnd _
  have hval : ∀ (j : Nat) t v, Try.f3.params[j]? = some t → args[j]? = some v → Value.okWide Try.prog W .any base t v := hval0
  have hW' := hW
  obtain ⟨p, q, hA0, hV, rfl, hfz, hnd⟩ := hW
  have hA : DataW.TrodAll enc Try.prog W 0 (fun _ => true) true Try.f3.params.toList args.toList ds p := hA0
  rw [Try.params3] at hA hval
  obtain ⟨v0, vs0, d0, ds0, p0, q0, hargs, rfl, rfl, h0, r0⟩ := trodAll_cons hA
  obtain ⟨v1, vs1, d1, ds1, p1, q1, rfl, rfl, rfl, h1, r1⟩ := trodAll_cons r0
  obtain ⟨rfl, rfl, rfl⟩ := trodAll_nil r1
  obtain rfl : args = #[v0, v1] := by cases args; simp_all
  obtain ⟨rfl, rfl⟩ := trodVars_none hV
  have k0 := h0
  have lt0 : ∀ x ∈ p0, x.block < W.heap.size := by obtain ⟨m, hm⟩ := k0; exact DataW.trod_lt m _ _ _ hm
  obtain ⟨y0dir, z0a, y0ns, z0c, z0b, y0ks, z0d, y0dat, rfl, hR0, hl00, hl01, hd0, hs0⟩ := node_of (hval 0 25 v0 rfl rfl) h0
  obtain ⟨x1, rfl, rfl, rfl, w1⟩ := open_string Try.underlying9 (hval 1 9 v1 rfl rfl) h1
  clear hA0 hval0
  refine (walk z0a z0c z0b z0d y0dir y0ns y0ks y0dat x1 W hR0 hl00 hl01 hd0 hs0 w1).mono fun e W' ⟨he, bel⟩ => ?_
  subst he
  exact ⟨_, rfl, _, _, _, [], _, [], hW', trodAll_mk1 (shut_bool Try.underlying4 _), (trodAll_cons_mk (Below.trod laidOut (by kernel_rfl) (of_decide_eq_true (by kernel_rfl)) k0 bel lt0) (trodAll_cons_mk (shut_string Try.underlying9 w1) trodAll_mk0)), rfl, bel.frame _, fun h => by cases h⟩

theorem over : Rows.fnExactKidDropRow.holds Try.pinned (OpenSpec.ofChange Rows.fnExactKidDropSpec) :=
  OpenClaim.holds_of_wide 3 Try.f3 rfl rfl rfl rfl rfl rfl rfl ⟨rfl, rfl, rfl, rfl, rfl⟩ rfl rfl rfl rfl rfl (by kernel_rfl) Try.func3 (by kernel_rfl)
    (of_decide_eq_true (by kernel_rfl)) (by unfold Func.isWrapper; first | (rw [if_pos (by decide +kernel)]; kernel_rfl) | (rw [if_neg (by decide +kernel)]; exact ⟨rfl, rfl⟩))
    (fun os started H enc _ => lifted os started H enc)

end Go.Proofs.Ytmolhhljodlhaab.fnExactKidDrop

namespace Go.Proofs.Ytmolhhljodlhaab
theorem fnExactKidDrop_holds : Rows.FnExactKidDropSaid := fnExactKidDrop.over
#print axioms fnExactKidDrop_holds
end Go.Proofs.Ytmolhhljodlhaab
