/-
  FnExactRecover is true at every argument, and leaves it as it was: impl.Recover answers what spec.Recover does, in memory of its own. No conditions.
-/
import Derived.Test.YtdicjbabnknjhaaGreatRows
import Derived.Test.YtdicjbabnknjhaaGreatJRecover11
import Derived.Test.YtdicjbabnknjhaaGreatJRecover42
import Derived.WalkKit
import Derived.ProofKit
import Derived.OpenShut
import Derived.ShutString
import Derived.ChangeOld
import Derived.Below
namespace Go.Proofs.YtdicjbabnknjhaaGreat.fnExactRecover
open Go.ChangeShapes Go.WideShapes Go.ChangeAt Go.RowKit
open Go.ChangeMaps (open_string shut_string)
set_option linter.unusedVariables false

theorem own : ownKnob Tryz.prog.godebug = none := by kernel_rfl
theorem laidOut : laidOutB Tryz.prog = true := by kernel_rfl

set_option maxRecDepth 100000 in
set_option maxHeartbeats 12800000 in
theorem walk (a : Option Addr) (c : Nat) (b : Option Addr) (d : Nat) (e : Option Addr) (f : Nat) (ps : List ByteArray) (ws : List Int) (ms : List Int) (q : Int)  (w : World) (hA : FtlRd w (.agg #[.slice a ps.length c, .slice b ws.length d, .slice e ms.length f, .int .i64 q]) ps ws ms q) (hl0 : ps.length ≤ maxLen) (hl1 : ws.length ≤ maxLen) (hl2 : ms.length ≤ maxLen) (hs : ∀ s ∈ ps, s.size ≤ maxLen) (hq : (Lit.int .i64 q).wf = true)  :
    Calls Tryz.prog 4 #[.agg #[.slice a ps.length c, .slice b ws.length d, .slice e ms.length f, .int .i64 q]] w fun e w' => e = .returned (.bool true) ∧ Below w.heap.size w w' := by
  obtain ⟨W, hW⟩ : ∃ W, W = w.alloc (Obj.cells #[.slice a ps.length c, .slice b ws.length d, .slice e ms.length f, .int .i64 q] 27) := ⟨_, rfl⟩
  have hbW : Below w.heap.size w W := by rw [hW]; exact (Below.refl _ _).alloc (Nat.le_refl _) _
  have AV : At W w.heap.size [.slice a ps.length c, .slice b ws.length d, .slice e ms.length f, .int .i64 q] := by rw [hW]; exact at_new w [.slice a ps.length c, .slice b ws.length d, .slice e ms.length f, .int .i64 q] _
  have RV := hA.below hbW
  clear hA
  go_enter Tryz.func4, Tryz.ntmps4
  have kc0 : W.cell? ⟨w.heap.size, 0, none⟩ = some (.slice a ps.length c) := AV.2 0 (by simp)
  have kc1 : W.cell? ⟨w.heap.size, 1, none⟩ = some (.slice b ws.length d) := AV.2 1 (by simp)
  have kc2 : W.cell? ⟨w.heap.size, 2, none⟩ = some (.slice e ms.length f) := AV.2 2 (by simp)
  have kc3 : W.cell? ⟨w.heap.size, 3, none⟩ = some (.int .i64 q) := AV.2 3 (by simp)
  go_wp2_with fail
  rw [← hW]
  clear hW
  refine (ftl_sz 1048576 RV hl0 hl1 hl2 hs (Nat.le_refl _)).mono ?_
  rintro e w1 ⟨⟨r, rfl, hr0, hr1, hr2⟩, hb1⟩
  replace AV := AV.below hb1
  replace RV := RV.below hb1
  replace hbW := after hbW hb1
  clear kc0 kc1 kc2 kc3 hb1 hs
  by_cases hneg : r < 0
  · clear hr2 AV RV
    go_wp2
    go_ret
    exact ⟨rfl, hbW⟩
  obtain ⟨hk0, hk1, hk2, hs'⟩ := hr2 (by omega)
  obtain ⟨G0cs, G1ps, G1ws, G1ms, G1q, S2, ⟨hg0, hg1, hg2, hg3⟩, HSP, HIM⟩ : ∃ (G0cs : List (Int × Int × ByteArray)) (G1ps : List ByteArray) (G1ws : List Int) (G1ms : List Int) (G1q : Int) (S2 : Bool), (G0cs.length ≤ 20000 ∧ G1ps.length ≤ 20000 ∧ G1ws.length ≤ 20000 ∧ G1ms.length ≤ 20000) ∧ Hid (∀ (u : World) (v : Value), FtlRd u v ps ws ms q → Calls Tryz.prog 19 #[v] u fun e w' => ∃ v0 v1, e = .returned (.tuple #[v0, v1, .bool S2]) ∧ (ActsOwn w' u.heap.size v0 G0cs ∧ FtlOwn w' u.heap.size v1 G1ps G1ws G1ms G1q) ∧ Below u.heap.size u w') ∧ Hid (∀ (u : World) (v : Value), FtlRd u v ps ws ms q → Calls Tryz.prog 20 #[v] u fun e w' => ∃ v0 v1, e = .returned (.tuple #[v0, v1, .bool S2]) ∧ (ActsOwn w' u.heap.size v0 G0cs ∧ FtlOwn w' u.heap.size v1 G1ps G1ws G1ms G1q) ∧ Below u.heap.size u w') :=
    fnExactRecover_both ps ws ms q hk0 hk1 hk2 hs' hq 
  clear hr2 hs' hl0 hl1 hl2 hq
  have hj0 : G0cs.length ≤ 1048576 := by omega
  have hj1 : G1ps.length ≤ 1048576 := by omega
  have hj2 : G1ws.length ≤ 1048576 := by omega
  have hj3 : G1ms.length ≤ 1048576 := by omega
  have HN0 : 0 < 1 ∧ 1 ≤ 1000000 := by decide
  obtain ⟨M1, hM1⟩ : ∃ m : Nat, m = 1 + G0cs.length * 3 := ⟨_, rfl⟩
  have HN1 : 0 < M1 ∧ M1 ≤ 1000000 := by omega
  obtain ⟨M2, hM2⟩ : ∃ m : Nat, m = M1 + G1ps.length + G1ws.length + G1ms.length := ⟨_, rfl⟩
  have HN2 : 0 < M2 ∧ M2 ≤ 1000000 := by omega
  have HM1 := hide hM1
  have HM2 := hide hM2
  clear hM1 hM2
  have kc0 : w1.cell? ⟨w.heap.size, 0, none⟩ = some (.slice a ps.length c) := AV.2 0 (by simp)
  have kc1 : w1.cell? ⟨w.heap.size, 1, none⟩ = some (.slice b ws.length d) := AV.2 1 (by simp)
  have kc2 : w1.cell? ⟨w.heap.size, 2, none⟩ = some (.slice e ms.length f) := AV.2 2 (by simp)
  have kc3 : w1.cell? ⟨w.heap.size, 3, none⟩ = some (.int .i64 q) := AV.2 3 (by simp)
  go_wp2_with fail
  refine (ftl_to RV hk0 hk1 hk2).mono ?_
  rintro e w2 ⟨v, rfl, hown, hb2⟩
  obtain ⟨a2, c2, b2, d2, e2, f2, rfl⟩ := hown.shape
  replace AV := AV.below hb2
  replace RV := RV.below hb2
  replace hbW := after hbW hb2
  have HR := hide hown.rd
  clear kc0 kc1 kc2 kc3 hown hb2
  go_wp2_with fail
  refine (HSP.out w2 _ HR.out).mono ?_
  rintro e w3 ⟨v0, v1, rfl, ⟨ho0, ho1⟩, hb3⟩
  obtain ⟨a3_0, c3_0, rfl⟩ := ho0.shape
  obtain ⟨a3_1, c3_1, b3_1, d3_1, e3_1, f3_1, rfl⟩ := ho1.shape
  obtain ⟨V3, hV3⟩ : ∃ V, V = (w3).alloc (Obj.cells #[.slice a3_1 G1ps.length c3_1, .slice b3_1 G1ws.length d3_1, .slice e3_1 G1ms.length f3_1, .int .i64 G1q] 34) := ⟨_, rfl⟩
  have hbV3 : Below w3.heap.size w3 V3 := by rw [hV3]; exact (Below.refl _ _).alloc (Nat.le_refl _) _
  have LA1 : At V3 (w3.heap.size) [.slice a3_1 G1ps.length c3_1, .slice b3_1 G1ws.length d3_1, .slice e3_1 G1ms.length f3_1, .int .i64 G1q] := by rw [hV3]; exact at_new w3 [.slice a3_1 G1ps.length c3_1, .slice b3_1 G1ws.length d3_1, .slice e3_1 G1ms.length f3_1, .int .i64 G1q] _
  have LR0 := ho0.rd.below hbV3
  have LR1 := ho1.rd.below hbV3
  replace AV := AV.below hb3
  replace RV := RV.below hb3
  have kc0 : w3.cell? ⟨w.heap.size, 0, none⟩ = some (.slice a ps.length c) := AV.2 0 (by simp)
  have kc1 : w3.cell? ⟨w.heap.size, 1, none⟩ = some (.slice b ws.length d) := AV.2 1 (by simp)
  have kc2 : w3.cell? ⟨w.heap.size, 2, none⟩ = some (.slice e ms.length f) := AV.2 2 (by simp)
  have kc3 : w3.cell? ⟨w.heap.size, 3, none⟩ = some (.int .i64 q) := AV.2 3 (by simp)
  have hlt := AV.1
  replace AV := AV.below hbV3
  replace RV := RV.below hbV3
  replace hbW := after (after hbW hb3) hbV3
  clear ho0 ho1 HR hb3 hbV3 HSP
  go_wp2_with fail
  rw [← hV3]
  clear kc0 kc1 kc2 kc3 hV3 hlt
  refine (ftl_to RV hk0 hk1 hk2).mono ?_
  rintro e w4 ⟨v, rfl, hown, hb4⟩
  obtain ⟨a4, c4, b4, d4, e4, f4, rfl⟩ := hown.shape
  obtain ⟨V4, hV4⟩ : ∃ V, V = w4.alloc (Obj.cells #[.slice a4 ps.length c4, .slice b4 ws.length d4, .slice e4 ms.length f4, .int .i64 q] 34) := ⟨_, rfl⟩
  have hb4V : Below w4.heap.size w4 V4 := by rw [hV4]; exact (Below.refl _ _).alloc (Nat.le_refl _) _
  have HV : Below V3.heap.size V3 V4 := after hb4 hb4V
  have XA : At V4 w4.heap.size [.slice a4 ps.length c4, .slice b4 ws.length d4, .slice e4 ms.length f4, .int .i64 q] := by rw [hV4]; exact at_new w4 [.slice a4 ps.length c4, .slice b4 ws.length d4, .slice e4 ms.length f4, .int .i64 q] _
  have XO := hown.below hb4V
  have XB : Hid ((∀ k, some k ∈ bk (.agg #[.slice a4 ps.length c4, .slice b4 ws.length d4, .slice e4 ms.length f4, .int .i64 q]) → V3.heap.size ≤ k ∧ k < w4.heap.size) ∧ V3.heap.size ≤ w4.heap.size ∧ w4.heap.size < V4.heap.size) := ⟨fun k hk => hown.blk hk, hb4.size, XA.1⟩
  clear hown hb4 hb4V
  go_wp2_with fail
  rw [← hV4]
  clear hV4
  refine (HIM.out V4 _ XO.rd).mono ?_
  rintro e w5 ⟨v0, v1, rfl, ⟨ho0, ho1⟩, hb5⟩
  obtain ⟨a5_0, c5_0, rfl⟩ := ho0.shape
  obtain ⟨a5_1, c5_1, b5_1, d5_1, e5_1, f5_1, rfl⟩ := ho1.shape
  obtain ⟨V5, hV5⟩ : ∃ V, V = (w5).alloc (Obj.cells #[.slice a5_1 G1ps.length c5_1, .slice b5_1 G1ws.length d5_1, .slice e5_1 G1ms.length f5_1, .int .i64 G1q] 34) := ⟨_, rfl⟩
  have hbV5 : Below w5.heap.size w5 V5 := by rw [hV5]; exact (Below.refl _ _).alloc (Nat.le_refl _) _
  have GA1 : At V5 (w5.heap.size) [.slice a5_1 G1ps.length c5_1, .slice b5_1 G1ws.length d5_1, .slice e5_1 G1ms.length f5_1, .int .i64 G1q] := by rw [hV5]; exact at_new w5 [.slice a5_1 G1ps.length c5_1, .slice b5_1 G1ws.length d5_1, .slice e5_1 G1ms.length f5_1, .int .i64 G1q] _
  have GO0 := ho0.below hbV5
  have GO1 := ho1.below hbV5
  have GB : Hid (((∀ k, some k ∈ bk (.slice a5_0 G0cs.length c5_0) → V4.heap.size ≤ k ∧ k < w5.heap.size) ∧ (∀ k, some k ∈ bk (.agg #[.slice a5_1 G1ps.length c5_1, .slice b5_1 G1ws.length d5_1, .slice e5_1 G1ms.length f5_1, .int .i64 G1q]) → V4.heap.size ≤ k ∧ k < w5.heap.size)) ∧ V4.heap.size ≤ w5.heap.size) := ⟨⟨fun k hk => ho0.blk hk, fun k hk => ho1.blk hk⟩, hb5.size⟩
  have HAP01 := hide (acts_ftl_apart ho0 ho1)
  have hb3w5 := HV.trans (hb5.mono HV.size)
  have hb45 : Below V4.heap.size V4 V5 := after hb5 hbV5
  replace XA := XA.below hb45
  replace XO := XO.below hb45
  replace HV := HV.trans (hb45.mono HV.size)
  clear ho0 ho1 hb5 hbV5 hb45
  go_wp2_with fail
  rw [← hV5]
  clear hV5 hb3w5
  have hfS2 : (S2 != S2) = false := by simp
  refine (acts_eq GO0.rd (LR0.below HV) hj0).mono ?_
  rintro e w6 ⟨rfl, hbx⟩
  replace XA := XA.below hbx
  replace XO := XO.below hbx
  replace GO0 := GO0.below hbx
  replace GO1 := GO1.below hbx
  replace GA1 := GA1.below hbx
  replace HV := HV.trans (hbx.mono HV.size)
  clear hbx
  have LAx := LA1.below HV
  have ky0 : w6.cell? ⟨w3.heap.size, 0, none⟩ = some (.slice a3_1 G1ps.length c3_1) := LAx.2 0 (by simp)
  have ky1 : w6.cell? ⟨w3.heap.size, 1, none⟩ = some (.slice b3_1 G1ws.length d3_1) := LAx.2 1 (by simp)
  have ky2 : w6.cell? ⟨w3.heap.size, 2, none⟩ = some (.slice e3_1 G1ms.length f3_1) := LAx.2 2 (by simp)
  have ky3 : w6.cell? ⟨w3.heap.size, 3, none⟩ = some (.int .i64 G1q) := LAx.2 3 (by simp)
  clear LAx
  have kg0 : w6.cell? ⟨w5.heap.size, 0, none⟩ = some (.slice a5_1 G1ps.length c5_1) := GA1.2 0 (by simp)
  have kg1 : w6.cell? ⟨w5.heap.size, 1, none⟩ = some (.slice b5_1 G1ws.length d5_1) := GA1.2 1 (by simp)
  have kg2 : w6.cell? ⟨w5.heap.size, 2, none⟩ = some (.slice e5_1 G1ms.length f5_1) := GA1.2 2 (by simp)
  have kg3 : w6.cell? ⟨w5.heap.size, 3, none⟩ = some (.int .i64 G1q) := GA1.2 3 (by simp)
  go_wp2_with fail
  clear ky0 ky1 ky2 ky3 kg0 kg1 kg2 kg3
  refine (ftl_eq GO1.rd (LR1.below HV) hj1 hj2 hj3).mono ?_
  rintro e w7 ⟨rfl, hbx⟩
  replace XA := XA.below hbx
  replace XO := XO.below hbx
  replace GO0 := GO0.below hbx
  replace GO1 := GO1.below hbx
  replace GA1 := GA1.below hbx
  replace HV := HV.trans (hbx.mono HV.size)
  clear hbx
  have AVx := AV.below HV
  have RVx := RV.below HV
  have kc0 : w7.cell? ⟨w.heap.size, 0, none⟩ = some (.slice a ps.length c) := AVx.2 0 (by simp)
  have kc1 : w7.cell? ⟨w.heap.size, 1, none⟩ = some (.slice b ws.length d) := AVx.2 1 (by simp)
  have kc2 : w7.cell? ⟨w.heap.size, 2, none⟩ = some (.slice e ms.length f) := AVx.2 2 (by simp)
  have kc3 : w7.cell? ⟨w.heap.size, 3, none⟩ = some (.int .i64 q) := AVx.2 3 (by simp)
  have kx0 : w7.cell? ⟨w4.heap.size, 0, none⟩ = some (.slice a4 ps.length c4) := XA.2 0 (by simp)
  have kx1 : w7.cell? ⟨w4.heap.size, 1, none⟩ = some (.slice b4 ws.length d4) := XA.2 1 (by simp)
  have kx2 : w7.cell? ⟨w4.heap.size, 2, none⟩ = some (.slice e4 ms.length f4) := XA.2 2 (by simp)
  have kx3 : w7.cell? ⟨w4.heap.size, 3, none⟩ = some (.int .i64 q) := XA.2 3 (by simp)
  have HT : Hid (∀ u, Below w7.heap.size w7 u → u.cell? ⟨w.heap.size, 0, none⟩ = some (.slice a ps.length c) ∧ u.cell? ⟨w.heap.size, 1, none⟩ = some (.slice b ws.length d) ∧ u.cell? ⟨w.heap.size, 2, none⟩ = some (.slice e ms.length f) ∧ u.cell? ⟨w.heap.size, 3, none⟩ = some (.int .i64 q) ∧ u.cell? ⟨w4.heap.size, 0, none⟩ = some (.slice a4 ps.length c4) ∧ u.cell? ⟨w4.heap.size, 1, none⟩ = some (.slice b4 ws.length d4) ∧ u.cell? ⟨w4.heap.size, 2, none⟩ = some (.slice e4 ms.length f4) ∧ u.cell? ⟨w4.heap.size, 3, none⟩ = some (.int .i64 q)) :=
    fun u hu => ⟨(AVx.below hu).2 0 (by simp), (AVx.below hu).2 1 (by simp), (AVx.below hu).2 2 (by simp), (AVx.below hu).2 3 (by simp), (XA.below hu).2 0 (by simp), (XA.below hu).2 1 (by simp), (XA.below hu).2 2 (by simp), (XA.below hu).2 3 (by simp)⟩
  have hdr : Below w7.heap.size w7 w7.drew := after_drew (Below.refl _ _) 1
  have HAD := hide (RVx.below hdr)
  have HXD := hide (XO.rd.below hdr)
  clear AVx RVx
  go_wp2_with fail
  go_region_held (fun w' => w'.cell? ⟨w.heap.size, 0, none⟩ = some (.slice a ps.length c) ∧ w'.cell? ⟨w.heap.size, 1, none⟩ = some (.slice b ws.length d) ∧ w'.cell? ⟨w.heap.size, 2, none⟩ = some (.slice e ms.length f) ∧ w'.cell? ⟨w.heap.size, 3, none⟩ = some (.int .i64 q) ∧ w'.cell? ⟨w4.heap.size, 0, none⟩ = some (.slice a4 ps.length c4) ∧ w'.cell? ⟨w4.heap.size, 1, none⟩ = some (.slice b4 ws.length d4) ∧ w'.cell? ⟨w4.heap.size, 2, none⟩ = some (.slice e4 ms.length f4) ∧ w'.cell? ⟨w4.heap.size, 3, none⟩ = some (.int .i64 q)) (first | assumption | go_keep)
    ((first
      | (go_at_call 8; refine (ftl_to HAD.out hk0 hk1 hk2).mono ?_; rintro e wa ⟨v, rfl, hown, hb7⟩; obtain ⟨a7, c7, b7, d7, e7, f7, hv7⟩ := hown.shape; subst hv7; have HS7 : Hid (Below w7.heap.size w7 wa) := after hdr hb7; have hS := HT.out wa HS7.out; have HR := hide hown.rd; have HX7 := hide (HXD.out.below hb7); clear hown hb7)
      | (go_at_call 12; refine (ftl_eq HX7.out HR.out hk0 hk1 hk2).mono ?_; rintro e wb ⟨rfl, hb8⟩; have HS8 : Hid (Below w7.heap.size w7 wb) := after HS7.out hb8; have hS8 := HT.out wb HS8.out; clear hb8)))
  have hbx := HS8.out
  replace XA := XA.below hbx
  replace XO := XO.below hbx
  replace GO0 := GO0.below hbx
  replace GO1 := GO1.below hbx
  replace GA1 := GA1.below hbx
  replace HV := HV.trans (hbx.mono HV.size)
  clear hbx
  clear kc0 kc1 kc2 kc3 kx0 kx1 kx2 kx3 HT HAD HXD hdr HR HX7 HS7 hS8 hS HS8
  have kx0 : wb.cell? ⟨w4.heap.size, 0, none⟩ = some (.slice a4 ps.length c4) := XA.2 0 (by simp)
  have kx1 : wb.cell? ⟨w4.heap.size, 1, none⟩ = some (.slice b4 ws.length d4) := XA.2 1 (by simp)
  have kx2 : wb.cell? ⟨w4.heap.size, 2, none⟩ = some (.slice e4 ms.length f4) := XA.2 2 (by simp)
  have kx3 : wb.cell? ⟨w4.heap.size, 3, none⟩ = some (.int .i64 q) := XA.2 3 (by simp)
  go_wp2_with fail
  refine (ftl_mark (q := 1) XO hk0 hk1 hk2 (by decide) (by decide)).mono ?_
  rintro e wc ⟨rfl, -, hO⟩
  replace GO0 := GO0.only hO (fun k hk hk' => by have := GB.out.1.1 k hk; have := XB.out.1 k hk'; have := XB.out.2; omega)
  replace GO1 := GO1.only hO (fun k hk hk' => by have := GB.out.1.2 k hk; have := XB.out.1 k hk'; have := XB.out.2; omega)
  replace GA1 := GA1.only hO (fun hk' => by have := XB.out.1 _ hk'; have := XB.out.2; have := GB.out.2; omega)
  replace HV := HV.trans (hO.from HV.size (fun k hk => (XB.out.1 k hk).1))
  clear kx0 kx1 kx2 kx3 XA XO hO
  have hnn : ¬ (((1 + ps.length + ws.length + ms.length : Nat) : Int) < 0) := by omega
  go_wp2_with fail
  refine (acts_eq GO0.rd (LR0.below HV) hj0).mono ?_
  rintro e w21 ⟨rfl, hbx⟩
  replace GO0 := GO0.below hbx
  replace GO1 := GO1.below hbx
  replace GA1 := GA1.below hbx
  replace HV := HV.trans (hbx.mono HV.size)
  clear hbx
  have LAx := LA1.below HV
  have ky0 : w21.cell? ⟨w3.heap.size, 0, none⟩ = some (.slice a3_1 G1ps.length c3_1) := LAx.2 0 (by simp)
  have ky1 : w21.cell? ⟨w3.heap.size, 1, none⟩ = some (.slice b3_1 G1ws.length d3_1) := LAx.2 1 (by simp)
  have ky2 : w21.cell? ⟨w3.heap.size, 2, none⟩ = some (.slice e3_1 G1ms.length f3_1) := LAx.2 2 (by simp)
  have ky3 : w21.cell? ⟨w3.heap.size, 3, none⟩ = some (.int .i64 G1q) := LAx.2 3 (by simp)
  clear LAx
  have kg0 : w21.cell? ⟨w5.heap.size, 0, none⟩ = some (.slice a5_1 G1ps.length c5_1) := GA1.2 0 (by simp)
  have kg1 : w21.cell? ⟨w5.heap.size, 1, none⟩ = some (.slice b5_1 G1ws.length d5_1) := GA1.2 1 (by simp)
  have kg2 : w21.cell? ⟨w5.heap.size, 2, none⟩ = some (.slice e5_1 G1ms.length f5_1) := GA1.2 2 (by simp)
  have kg3 : w21.cell? ⟨w5.heap.size, 3, none⟩ = some (.int .i64 G1q) := GA1.2 3 (by simp)
  go_wp2_with fail
  clear ky0 ky1 ky2 ky3 kg0 kg1 kg2 kg3
  refine (ftl_eq GO1.rd (LR1.below HV) hj1 hj2 hj3).mono ?_
  rintro e w22 ⟨rfl, hbx⟩
  replace GO0 := GO0.below hbx
  replace GO1 := GO1.below hbx
  replace GA1 := GA1.below hbx
  replace HV := HV.trans (hbx.mono HV.size)
  clear hbx
  have HMK := hide (acts_mark (q := 1) GO0 hj0 HN0.1 HN0.2)
  rw [← HM1.out] at HMK
  go_wp2_with fail
  refine HMK.out.mono ?_
  rintro e wm0 ⟨rfl, GM0, hO⟩
  clear HMK GO0
  replace GO1 := GO1.only hO (HAP01.out.2)
  replace GA1 := GA1.only hO (fun hk' => by have := GB.out.1.1 _ hk'; omega)
  replace HV := HV.trans (hO.from HV.size (fun k hk => by have := GB.out.1.1 k hk; have := XB.out.2; omega))
  clear hO
  have kg0 : wm0.cell? ⟨w5.heap.size, 0, none⟩ = some (.slice a5_1 G1ps.length c5_1) := GA1.2 0 (by simp)
  have kg1 : wm0.cell? ⟨w5.heap.size, 1, none⟩ = some (.slice b5_1 G1ws.length d5_1) := GA1.2 1 (by simp)
  have kg2 : wm0.cell? ⟨w5.heap.size, 2, none⟩ = some (.slice e5_1 G1ms.length f5_1) := GA1.2 2 (by simp)
  have kg3 : wm0.cell? ⟨w5.heap.size, 3, none⟩ = some (.int .i64 G1q) := GA1.2 3 (by simp)
  have HMK := hide (ftl_mark (q := M1) GO1 hj1 hj2 hj3 HN1.1 HN1.2)
  rw [← HM2.out] at HMK
  go_wp2_with fail
  clear kg0 kg1 kg2 kg3
  refine HMK.out.mono ?_
  rintro e wm1 ⟨rfl, GM1, hO⟩
  clear HMK GO1
  replace GM0 := GM0.only hO (HAP01.out.1)
  replace GA1 := GA1.only hO (fun hk' => by have := GB.out.1.2 _ hk'; omega)
  replace HV := HV.trans (hO.from HV.size (fun k hk => by have := GB.out.1.2 k hk; have := XB.out.2; omega))
  clear hO
  have hnm : ∀ n : Nat, ¬ ((n : Int) < 0) := fun n => by omega
  have hn1 := hnm M1
  have hn2 := hnm M2
  clear hnm hnn
  have HHD := hide (acts_held (q := 1) GM0 hj0 HN0.1 HN0.2)
  rw [← HM1.out] at HHD
  go_wp2_with fail
  refine HHD.out.mono ?_
  rintro e wha0 ⟨rfl, hbx⟩
  clear HHD
  replace GA1 := GA1.below hbx
  replace GM0 := GM0.below hbx
  replace GM1 := GM1.below hbx
  replace HV := HV.trans (hbx.mono HV.size)
  clear hbx
  have kg0 : wha0.cell? ⟨w5.heap.size, 0, none⟩ = some (.slice a5_1 G1ps.length c5_1) := GA1.2 0 (by simp)
  have kg1 : wha0.cell? ⟨w5.heap.size, 1, none⟩ = some (.slice b5_1 G1ws.length d5_1) := GA1.2 1 (by simp)
  have kg2 : wha0.cell? ⟨w5.heap.size, 2, none⟩ = some (.slice e5_1 G1ms.length f5_1) := GA1.2 2 (by simp)
  have kg3 : wha0.cell? ⟨w5.heap.size, 3, none⟩ = some (.int .i64 G1q) := GA1.2 3 (by simp)
  have HHD := hide (ftl_held (q := M1) GM1 hj1 hj2 hj3 HN1.1 HN1.2)
  rw [← HM2.out] at HHD
  go_wp2_with fail
  clear kg0 kg1 kg2 kg3
  refine HHD.out.mono ?_
  rintro e wha1 ⟨rfl, hbx⟩
  clear HHD
  replace GA1 := GA1.below hbx
  replace GM0 := GM0.below hbx
  replace GM1 := GM1.below hbx
  replace HV := HV.trans (hbx.mono HV.size)
  clear hbx
  have AVx := AV.below HV
  have RVx := RV.below HV
  have kc0 : wha1.cell? ⟨w.heap.size, 0, none⟩ = some (.slice a ps.length c) := AVx.2 0 (by simp)
  have kc1 : wha1.cell? ⟨w.heap.size, 1, none⟩ = some (.slice b ws.length d) := AVx.2 1 (by simp)
  have kc2 : wha1.cell? ⟨w.heap.size, 2, none⟩ = some (.slice e ms.length f) := AVx.2 2 (by simp)
  have kc3 : wha1.cell? ⟨w.heap.size, 3, none⟩ = some (.int .i64 q) := AVx.2 3 (by simp)
  clear AVx
  go_wp2_with fail
  refine (ftl_to RVx hk0 hk1 hk2).mono ?_
  rintro e w13 ⟨v, rfl, hown, hbx⟩
  obtain ⟨a13, c13, b13, d13, e13, f13, rfl⟩ := hown.shape
  have HR := hide hown.rd
  clear hown RVx
  replace GA1 := GA1.below hbx
  replace GM0 := GM0.below hbx
  replace GM1 := GM1.below hbx
  replace HV := HV.trans (hbx.mono HV.size)
  clear hbx
  clear kc0 kc1 kc2 kc3
  go_wp2_with fail
  refine (HIM.out w13 _ HR.out).mono ?_
  rintro e w14 ⟨v0, v1, rfl, ⟨ho0, ho1⟩, hb14⟩
  obtain ⟨a14_0, c14_0, rfl⟩ := ho0.shape
  obtain ⟨a14_1, c14_1, b14_1, d14_1, e14_1, f14_1, rfl⟩ := ho1.shape
  obtain ⟨V14, hV14⟩ : ∃ V, V = (w14).alloc (Obj.cells #[.slice a14_1 G1ps.length c14_1, .slice b14_1 G1ws.length d14_1, .slice e14_1 G1ms.length f14_1, .int .i64 G1q] 34) := ⟨_, rfl⟩
  have hbV14 : Below w14.heap.size w14 V14 := by rw [hV14]; exact (Below.refl _ _).alloc (Nat.le_refl _) _
  have HA1 : At V14 (w14.heap.size) [.slice a14_1 G1ps.length c14_1, .slice b14_1 G1ws.length d14_1, .slice e14_1 G1ms.length f14_1, .int .i64 G1q] := by rw [hV14]; exact at_new w14 [.slice a14_1 G1ps.length c14_1, .slice b14_1 G1ws.length d14_1, .slice e14_1 G1ms.length f14_1, .int .i64 G1q] _
  have HO0 := ho0.below hbV14
  have HO1 := ho1.below hbV14
  have hbx := after hb14 hbV14
  clear ho0 ho1 hb14 hbV14 HR
  replace GA1 := GA1.below hbx
  replace GM0 := GM0.below hbx
  replace GM1 := GM1.below hbx
  replace HV := HV.trans (hbx.mono HV.size)
  clear hbx
  go_wp2_with fail
  rw [← hV14]
  clear hV14
  refine (acts_eq HO0.rd (LR0.below HV) hj0).mono ?_
  rintro e w31 ⟨rfl, hbx⟩
  replace GA1 := GA1.below hbx
  replace GM0 := GM0.below hbx
  replace GM1 := GM1.below hbx
  replace HO0 := HO0.below hbx
  replace HO1 := HO1.below hbx
  replace HA1 := HA1.below hbx
  replace HV := HV.trans (hbx.mono HV.size)
  clear hbx
  have LAx := LA1.below HV
  have ky0 : w31.cell? ⟨w3.heap.size, 0, none⟩ = some (.slice a3_1 G1ps.length c3_1) := LAx.2 0 (by simp)
  have ky1 : w31.cell? ⟨w3.heap.size, 1, none⟩ = some (.slice b3_1 G1ws.length d3_1) := LAx.2 1 (by simp)
  have ky2 : w31.cell? ⟨w3.heap.size, 2, none⟩ = some (.slice e3_1 G1ms.length f3_1) := LAx.2 2 (by simp)
  have ky3 : w31.cell? ⟨w3.heap.size, 3, none⟩ = some (.int .i64 G1q) := LAx.2 3 (by simp)
  clear LAx
  have kg0 : w31.cell? ⟨w14.heap.size, 0, none⟩ = some (.slice a14_1 G1ps.length c14_1) := HA1.2 0 (by simp)
  have kg1 : w31.cell? ⟨w14.heap.size, 1, none⟩ = some (.slice b14_1 G1ws.length d14_1) := HA1.2 1 (by simp)
  have kg2 : w31.cell? ⟨w14.heap.size, 2, none⟩ = some (.slice e14_1 G1ms.length f14_1) := HA1.2 2 (by simp)
  have kg3 : w31.cell? ⟨w14.heap.size, 3, none⟩ = some (.int .i64 G1q) := HA1.2 3 (by simp)
  go_wp2_with fail
  clear ky0 ky1 ky2 ky3 kg0 kg1 kg2 kg3
  refine (ftl_eq HO1.rd (LR1.below HV) hj1 hj2 hj3).mono ?_
  rintro e w32 ⟨rfl, hbx⟩
  replace GA1 := GA1.below hbx
  replace GM0 := GM0.below hbx
  replace GM1 := GM1.below hbx
  replace HO0 := HO0.below hbx
  replace HO1 := HO1.below hbx
  replace HA1 := HA1.below hbx
  replace HV := HV.trans (hbx.mono HV.size)
  clear hbx
  clear HO0 HO1 HA1
  have HHD := hide (acts_held (q := 1) GM0 hj0 HN0.1 HN0.2)
  rw [← HM1.out] at HHD
  go_wp2_with fail
  refine HHD.out.mono ?_
  rintro e whb0 ⟨rfl, hbx⟩
  clear HHD
  replace GA1 := GA1.below hbx
  replace GM0 := GM0.below hbx
  replace GM1 := GM1.below hbx
  replace HV := HV.trans (hbx.mono HV.size)
  clear hbx
  have kg0 : whb0.cell? ⟨w5.heap.size, 0, none⟩ = some (.slice a5_1 G1ps.length c5_1) := GA1.2 0 (by simp)
  have kg1 : whb0.cell? ⟨w5.heap.size, 1, none⟩ = some (.slice b5_1 G1ws.length d5_1) := GA1.2 1 (by simp)
  have kg2 : whb0.cell? ⟨w5.heap.size, 2, none⟩ = some (.slice e5_1 G1ms.length f5_1) := GA1.2 2 (by simp)
  have kg3 : whb0.cell? ⟨w5.heap.size, 3, none⟩ = some (.int .i64 G1q) := GA1.2 3 (by simp)
  have HHD := hide (ftl_held (q := M1) GM1 hj1 hj2 hj3 HN1.1 HN1.2)
  rw [← HM2.out] at HHD
  go_wp2_with fail
  clear kg0 kg1 kg2 kg3
  refine HHD.out.mono ?_
  rintro e whb1 ⟨rfl, hbx⟩
  clear HHD
  replace GA1 := GA1.below hbx
  replace GM0 := GM0.below hbx
  replace GM1 := GM1.below hbx
  replace HV := HV.trans (hbx.mono HV.size)
  clear hbx
  have hfin : Below w.heap.size w whb1 := after hbW HV
  clear GA1 GM0 GM1 HV AV RV HIM LR0 LR1 LA1
  go_wp2
  go_ret
  exact ⟨rfl, hfin⟩

set_option maxRecDepth 100000 in
theorem lifted (os : Os) (started : os.Started) (H : Type) (enc : TypeId × Value → H) :
    ReturnsInHanded {} Tryz.checked os 4 .any (Rows.fnExactRecoverSpec.pre6 enc Tryz.prog Tryz.f4 Rows.fnExactRecoverRow.domain false) (Rows.fnExactRecoverSpec.post enc Tryz.prog Tryz.f4 false true false false) := by
  refine returnsInHanded_of_change (C := Tryz.checked) own started (by kernel_rfl) Tryz.func4
    (ChangeSpec.witness6 (enc := enc) (C := Tryz.checked) false ⟨#[], #[.agg #[.slice none 0 0, .slice none 0 0, .slice none 0 0, .int .i64 0]], []⟩ 8 (by kernel_rfl) (by kernel_rfl) (by kernel_rfl) (by kernel_rfl)) ?_
  intro W base args ds gs before hval0 hW hcnd _
  have hval : ∀ (j : Nat) t v, Tryz.f4.params[j]? = some t → args[j]? = some v → Value.okWide Tryz.prog W .any base t v := hval0
  have hW' := hW
  obtain ⟨p, q, hA0, hV, rfl, hfz, hnd⟩ := hW
  have hA : DataW.TrodAll enc Tryz.prog W 0 (fun _ => true) true Tryz.f4.params.toList args.toList ds p := hA0
  rw [Tryz.params4] at hA hval
  obtain ⟨v0, vs0, d0, ds0, p0, q0, hargs, rfl, rfl, h0, r0⟩ := trodAll_cons hA
  obtain ⟨rfl, rfl, rfl⟩ := trodAll_nil r0
  obtain rfl : args = #[v0] := by cases args; simp_all
  obtain ⟨rfl, rfl⟩ := trodVars_none hV
  have k0 := h0
  have lt0 : ∀ x ∈ p0, x.block < W.heap.size := by obtain ⟨m, hm⟩ := k0; exact DataW.trod_lt m _ _ _ hm
  obtain ⟨za, zp, zc, zb, zw, ze, zf, zm, zg, zq, rfl, hR, hl0, hl1, hl2, hs, hq⟩ := ftl_of (hval 0 27 v0 rfl rfl) h0
  clear hA0 hval0
  refine (walk za zc zb ze zf zg zp zw zm zq  W hR hl0 hl1 hl2 hs hq).mono fun e W' ⟨he, bel⟩ => ?_
  subst he
  exact ⟨_, rfl, _, _, _, [], _, [], hW', trodAll_mk1 (shut_bool Tryz.underlying4 _), (trodAll_cons_mk (Below.trod laidOut (by kernel_rfl) (of_decide_eq_true (by kernel_rfl)) k0 bel lt0) trodAll_mk0), rfl, bel.frame _, fun h => by cases h⟩

theorem over : Rows.fnExactRecoverRow.holds Tryz.pinned (OpenSpec.ofChange Rows.fnExactRecoverSpec) :=
  OpenClaim.holds_of_wide 4 Tryz.f4 rfl rfl rfl rfl rfl rfl rfl ⟨rfl, rfl, rfl, rfl, rfl⟩ rfl rfl rfl rfl rfl (by kernel_rfl) Tryz.func4 (by kernel_rfl)
    (of_decide_eq_true (by kernel_rfl)) (by unfold Func.isWrapper; first | (rw [if_pos (by decide +kernel)]; kernel_rfl) | (rw [if_neg (by decide +kernel)]; exact ⟨rfl, rfl⟩))
    (fun os started H enc _ => lifted os started H enc)

end Go.Proofs.YtdicjbabnknjhaaGreat.fnExactRecover

namespace Go.Proofs.YtdicjbabnknjhaaGreat
theorem fnExactRecover_holds : Rows.FnExactRecoverSaid := fnExactRecover.over
#print axioms fnExactRecover_holds
end Go.Proofs.YtdicjbabnknjhaaGreat
