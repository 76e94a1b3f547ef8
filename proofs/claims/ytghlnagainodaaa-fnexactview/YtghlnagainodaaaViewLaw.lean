/-
  FnExactView is true at every argument, and leaves it as it was: impl.View answers what spec.View does, in memory of its own. No conditions.
-/
import Derived.Test.YtghlnagainodaaaRows
import Derived.Test.YtghlnagainodaaaArgFtl
import Derived.Test.YtghlnagainodaaaView
import Derived.WalkKit
import Derived.ProofKit
import Derived.OpenShut
import Derived.ShutString
import Derived.ChangeOld
import Derived.Below
namespace Go.Proofs.Ytghlnagainodaaa.fnExactView
open Go.ChangeShapes Go.WideShapes Go.ChangeAt Go.RowKit
open Go.ChangeMaps (open_string shut_string)
set_option linter.unusedVariables false

theorem own : ownKnob Try.prog.godebug = none := by kernel_rfl
theorem laidOut : laidOutB Try.prog = true := by kernel_rfl

set_option maxRecDepth 100000 in
set_option maxHeartbeats 12800000 in
theorem walk (a : Option Addr) (c : Nat) (b : Option Addr) (d : Nat) (e : Option Addr) (f : Nat) (ps : List ByteArray) (ws : List Int) (ms : List Int) (q : Int)  (w : World) (hA : FtlRd w (.agg #[.slice a ps.length c, .slice b ws.length d, .slice e ms.length f, .int .i64 q]) ps ws ms q) (hl0 : ps.length ≤ maxLen) (hl1 : ws.length ≤ maxLen) (hl2 : ms.length ≤ maxLen) (hs : ∀ s ∈ ps, s.size ≤ maxLen) (hq : (Lit.int .i64 q).wf = true)  :
    Calls Try.prog 3 #[.agg #[.slice a ps.length c, .slice b ws.length d, .slice e ms.length f, .int .i64 q]] w fun e w' => e = .returned (.bool true) ∧ Below w.heap.size w w' := by
  obtain ⟨W, hW⟩ : ∃ W, W = w.alloc (Obj.cells #[.slice a ps.length c, .slice b ws.length d, .slice e ms.length f, .int .i64 q] 27) := ⟨_, rfl⟩
  have hbW : Below w.heap.size w W := by rw [hW]; exact (Below.refl _ _).alloc (Nat.le_refl _) _
  have A0 : At W w.heap.size [.slice a ps.length c, .slice b ws.length d, .slice e ms.length f, .int .i64 q] := by rw [hW]; exact at_new w [.slice a ps.length c, .slice b ws.length d, .slice e ms.length f, .int .i64 q] _
  have R0 := hA.below hbW
  clear hA
  go_enter Try.func3, Try.ntmps3
  have kc0 : W.cell? ⟨w.heap.size, 0, none⟩ = some (.slice a ps.length c) := A0.2 0 (by simp)
  have kc1 : W.cell? ⟨w.heap.size, 1, none⟩ = some (.slice b ws.length d) := A0.2 1 (by simp)
  have kc2 : W.cell? ⟨w.heap.size, 2, none⟩ = some (.slice e ms.length f) := A0.2 2 (by simp)
  have kc3 : W.cell? ⟨w.heap.size, 3, none⟩ = some (.int .i64 q) := A0.2 3 (by simp)
  go_wp2_with fail
  rw [← hW]
  clear hW
  refine (ftl_sz 1048576 R0 hl0 hl1 hl2 hs (Nat.le_refl _)).mono ?_
  rintro e w1 ⟨⟨r, rfl, hr0, hr1, hr2⟩, hb1⟩
  have A1 := A0.below hb1
  have R1 := R0.below hb1
  have hbw1 := after hbW hb1
  clear kc0 kc1 kc2 kc3 A0 R0 hb1 hbW hs
  by_cases hneg : r < 0
  · clear hr2 A1 R1
    go_wp2
    go_ret
    exact ⟨rfl, hbw1⟩
  obtain ⟨hk0, hk1, hk2, hs'⟩ := hr2 (by omega)
  obtain ⟨Gxs, hg0, HSP, HIM⟩ : ∃ (Gxs : List ByteArray) , Gxs.length ≤ 1000 ∧ Hid (∀ (u : World) (v : Value), FtlRd u v ps ws ms q → Calls Try.prog 7 #[v] u fun e w' => ∃ v, e = .returned (v) ∧ StrsOwn w' u.heap.size v Gxs ∧ Below u.heap.size u w') ∧ Hid (∀ (u : World) (v : Value), FtlRd u v ps ws ms q → Calls Try.prog 9 #[v] u fun e w' => ∃ v, e = .returned (v) ∧ StrsOwn w' u.heap.size v Gxs ∧ Below u.heap.size u w') :=
    fnExactView_both ps ws ms q hk0 hk1 hk2 hs' hq 
  clear hr2 hs' hl0 hl1 hl2 hq
  have hj0 : Gxs.length ≤ 1048576 := by omega
  have kc0 : w1.cell? ⟨w.heap.size, 0, none⟩ = some (.slice a ps.length c) := A1.2 0 (by simp)
  have kc1 : w1.cell? ⟨w.heap.size, 1, none⟩ = some (.slice b ws.length d) := A1.2 1 (by simp)
  have kc2 : w1.cell? ⟨w.heap.size, 2, none⟩ = some (.slice e ms.length f) := A1.2 2 (by simp)
  have kc3 : w1.cell? ⟨w.heap.size, 3, none⟩ = some (.int .i64 q) := A1.2 3 (by simp)
  go_wp2_with fail
  refine (ftl_to R1 hk0 hk1 hk2).mono ?_
  rintro e w2 ⟨v, rfl, hown, hb2⟩
  obtain ⟨a2, c2, b2, d2, e2, f2, rfl⟩ := hown.shape
  have A2 := A1.below hb2
  have R2 := R1.below hb2
  have hbw2 := after hbw1 hb2
  have HR := hide hown.rd
  clear hown hb2 A1 R1 kc0 kc1 kc2 kc3 hbw1
  go_wp2_with fail
  refine (HSP.out w2 _ HR.out).mono ?_
  rintro e w3 ⟨v, rfl, hown, hb3⟩
  obtain ⟨a3, c3, rfl⟩ := hown.shape
  obtain ⟨V3, hV3⟩ : ∃ V, V = w3 := ⟨_, rfl⟩
  have hbV3 : Below w3.heap.size w3 V3 := by rw [hV3]; exact Below.refl _ _
  have LR := hown.rd.below hbV3
  have A3 := A2.below hb3
  have R3 := R2.below hb3
  have kc0 : w3.cell? ⟨w.heap.size, 0, none⟩ = some (.slice a ps.length c) := A3.2 0 (by simp)
  have kc1 : w3.cell? ⟨w.heap.size, 1, none⟩ = some (.slice b ws.length d) := A3.2 1 (by simp)
  have kc2 : w3.cell? ⟨w.heap.size, 2, none⟩ = some (.slice e ms.length f) := A3.2 2 (by simp)
  have kc3 : w3.cell? ⟨w.heap.size, 3, none⟩ = some (.int .i64 q) := A3.2 3 (by simp)
  have hlt := A3.1
  have AV := A3.below hbV3
  have RV := R3.below hbV3
  have hbwV := after (after hbw2 hb3) hbV3
  clear hown hb3 A2 R2 hbw2 HR A3 R3 hbV3 HSP
  go_wp2_with fail
  rw [← hV3]
  clear hV3 kc0 kc1 kc2 kc3 hlt
  refine (ftl_to RV hk0 hk1 hk2).mono ?_
  rintro e w4 ⟨v, rfl, hown, hb4⟩
  obtain ⟨a4, c4, b4, d4, e4, f4, rfl⟩ := hown.shape
  obtain ⟨V4, hV4⟩ : ∃ V, V = w4.alloc (Obj.cells #[.slice a4 ps.length c4, .slice b4 ws.length d4, .slice e4 ms.length f4, .int .i64 q] 32) := ⟨_, rfl⟩
  have hb4V : Below w4.heap.size w4 V4 := by rw [hV4]; exact (Below.refl _ _).alloc (Nat.le_refl _) _
  have hb34 : Below V3.heap.size V3 V4 := after hb4 hb4V
  have XA : At V4 w4.heap.size [.slice a4 ps.length c4, .slice b4 ws.length d4, .slice e4 ms.length f4, .int .i64 q] := by rw [hV4]; exact at_new w4 [.slice a4 ps.length c4, .slice b4 ws.length d4, .slice e4 ms.length f4, .int .i64 q] _
  have XO := hown.below hb4V
  have XB : Hid (∀ k, some k ∈ bk (.agg #[.slice a4 ps.length c4, .slice b4 ws.length d4, .slice e4 ms.length f4, .int .i64 q]) → V3.heap.size ≤ k ∧ k < w4.heap.size) := fun k hk => hown.blk hk
  have hs34 := hb4.size
  have hs4 := XA.1
  clear hown hb4 hb4V
  go_wp2_with fail
  rw [← hV4]
  clear hV4
  refine (HIM.out V4 _ XO.rd).mono ?_
  rintro e w5 ⟨v, rfl, hown, hb5⟩
  obtain ⟨a5, c5, rfl⟩ := hown.shape
  obtain ⟨V5, hV5⟩ : ∃ V, V = w5 := ⟨_, rfl⟩
  have hb5V : Below w5.heap.size w5 V5 := by rw [hV5]; exact Below.refl _ _
  have hb45 : Below V4.heap.size V4 V5 := after hb5 hb5V
  have GO := hown.below hb5V
  have GB : Hid (∀ k, some k ∈ bk (.slice a5 Gxs.length c5) → V4.heap.size ≤ k ∧ k < w5.heap.size) := fun k hk => hown.blk hk
  have hb35 : Below V3.heap.size V3 V5 := hb34.trans (hb45.mono hb34.size)
  have XA5 := XA.below hb45
  have XO5 := XO.below hb45
  have hs45 := hb5.size
  clear hown hb5 hb5V XA XO hb45
  go_wp2_with fail
  rw [← hV5]
  clear hV5
  refine (strs_eq GO.rd (LR.below hb35) hj0).mono ?_
  rintro e w6 ⟨rfl, hb6⟩
  have GO6 := GO.below hb6
  have XA6 := XA5.below hb6
  have XO6 := XO5.below hb6
  have hb36 : Below V3.heap.size V3 w6 := hb35.trans (hb6.mono hb35.size)
  have hs56 := hb6.size
  clear GO XA5 XO5 hb6 hb35
  have AV6 := AV.below hb36
  have RV6 := RV.below hb36
  have kc0 : w6.cell? ⟨w.heap.size, 0, none⟩ = some (.slice a ps.length c) := AV6.2 0 (by simp)
  have kc1 : w6.cell? ⟨w.heap.size, 1, none⟩ = some (.slice b ws.length d) := AV6.2 1 (by simp)
  have kc2 : w6.cell? ⟨w.heap.size, 2, none⟩ = some (.slice e ms.length f) := AV6.2 2 (by simp)
  have kc3 : w6.cell? ⟨w.heap.size, 3, none⟩ = some (.int .i64 q) := AV6.2 3 (by simp)
  have kx0 : w6.cell? ⟨w4.heap.size, 0, none⟩ = some (.slice a4 ps.length c4) := XA6.2 0 (by simp)
  have kx1 : w6.cell? ⟨w4.heap.size, 1, none⟩ = some (.slice b4 ws.length d4) := XA6.2 1 (by simp)
  have kx2 : w6.cell? ⟨w4.heap.size, 2, none⟩ = some (.slice e4 ms.length f4) := XA6.2 2 (by simp)
  have kx3 : w6.cell? ⟨w4.heap.size, 3, none⟩ = some (.int .i64 q) := XA6.2 3 (by simp)
  have HT : Hid (∀ u, Below w6.heap.size w6 u → u.cell? ⟨w.heap.size, 0, none⟩ = some (.slice a ps.length c) ∧ u.cell? ⟨w.heap.size, 1, none⟩ = some (.slice b ws.length d) ∧ u.cell? ⟨w.heap.size, 2, none⟩ = some (.slice e ms.length f) ∧ u.cell? ⟨w.heap.size, 3, none⟩ = some (.int .i64 q) ∧ u.cell? ⟨w4.heap.size, 0, none⟩ = some (.slice a4 ps.length c4) ∧ u.cell? ⟨w4.heap.size, 1, none⟩ = some (.slice b4 ws.length d4) ∧ u.cell? ⟨w4.heap.size, 2, none⟩ = some (.slice e4 ms.length f4) ∧ u.cell? ⟨w4.heap.size, 3, none⟩ = some (.int .i64 q)) :=
    fun u hu => ⟨(AV6.below hu).2 0 (by simp), (AV6.below hu).2 1 (by simp), (AV6.below hu).2 2 (by simp), (AV6.below hu).2 3 (by simp), (XA6.below hu).2 0 (by simp), (XA6.below hu).2 1 (by simp), (XA6.below hu).2 2 (by simp), (XA6.below hu).2 3 (by simp)⟩
  have hdr : Below w6.heap.size w6 w6.drew := after_drew (Below.refl _ _) 1
  have HAD := hide (RV6.below hdr)
  have HXD := hide (XO6.rd.below hdr)
  clear AV6 RV6
  go_wp2_with fail
  go_region_held (fun w' => w'.cell? ⟨w.heap.size, 0, none⟩ = some (.slice a ps.length c) ∧ w'.cell? ⟨w.heap.size, 1, none⟩ = some (.slice b ws.length d) ∧ w'.cell? ⟨w.heap.size, 2, none⟩ = some (.slice e ms.length f) ∧ w'.cell? ⟨w.heap.size, 3, none⟩ = some (.int .i64 q) ∧ w'.cell? ⟨w4.heap.size, 0, none⟩ = some (.slice a4 ps.length c4) ∧ w'.cell? ⟨w4.heap.size, 1, none⟩ = some (.slice b4 ws.length d4) ∧ w'.cell? ⟨w4.heap.size, 2, none⟩ = some (.slice e4 ms.length f4) ∧ w'.cell? ⟨w4.heap.size, 3, none⟩ = some (.int .i64 q)) (first | assumption | go_keep)
    ((first
      | (go_at_call 8; refine (ftl_to HAD.out hk0 hk1 hk2).mono ?_; rintro e w7 ⟨v, rfl, hown, hb7⟩; obtain ⟨a7, c7, b7, d7, e7, f7, hv7⟩ := hown.shape; subst hv7; have HS7 : Hid (Below w6.heap.size w6 w7) := after hdr hb7; have hS := HT.out w7 HS7.out; have HR := hide hown.rd; have HX7 := hide (HXD.out.below hb7); clear hown hb7)
      | (go_at_call 11; refine (ftl_eq HX7.out HR.out hk0 hk1 hk2).mono ?_; rintro e w8 ⟨rfl, hb8⟩; have HS8 : Hid (Below w6.heap.size w6 w8) := after HS7.out hb8; have hS8 := HT.out w8 HS8.out; clear hb8)))
  have XA8 := XA6.below HS8.out
  have XO8 := XO6.below HS8.out
  have GO8 := GO6.below HS8.out
  have hb38 : Below V3.heap.size V3 w8 := hb36.trans (HS8.out.mono hb36.size)
  have hs68 := HS8.out.size
  clear XA6 XO6 GO6 HT HAD HXD hdr kc0 kc1 kc2 kc3 kx0 kx1 kx2 kx3 hb36 HR HX7 HS7 hS8 hS
  have kx0 : w8.cell? ⟨w4.heap.size, 0, none⟩ = some (.slice a4 ps.length c4) := XA8.2 0 (by simp)
  have kx1 : w8.cell? ⟨w4.heap.size, 1, none⟩ = some (.slice b4 ws.length d4) := XA8.2 1 (by simp)
  have kx2 : w8.cell? ⟨w4.heap.size, 2, none⟩ = some (.slice e4 ms.length f4) := XA8.2 2 (by simp)
  have kx3 : w8.cell? ⟨w4.heap.size, 3, none⟩ = some (.int .i64 q) := XA8.2 3 (by simp)
  go_wp2_with fail
  refine (ftl_mark (q := 1) XO8 hk0 hk1 hk2 (by decide) (by decide)).mono ?_
  rintro e w9 ⟨rfl, -, hO⟩
  have GO9 := GO8.only hO (fun k hk hk' => by have := GB.out k hk; have := XB.out k hk'; have := hb34.size; have := XA8.1; omega)
  have hb39 : Below V3.heap.size V3 w9 := hb38.trans (hO.from hb38.size (fun k hk => (XB.out k hk).1))
  have LR9 := LR.below hb39
  clear XA8 XO8 GO8 hO hb38 kx0 kx1 kx2 kx3 HS8
  have hnn : ¬ (((1 + ps.length + ws.length + ms.length : Nat) : Int) < 0) := by omega
  go_wp2_with fail
  refine (strs_eq GO9.rd LR9 hj0).mono ?_
  rintro e w10 ⟨rfl, hb10⟩
  have GO10 := GO9.below hb10
  have hb310 : Below V3.heap.size V3 w10 := hb39.trans (hb10.mono hb39.size)
  clear GO9 LR9 hb10 hb39
  go_wp2_with fail
  refine (strs_mark (q := 1) GO10 hj0 (by decide) (by decide)).mono ?_
  rintro e w11 ⟨rfl, GM, hO⟩
  have hb311 : Below V3.heap.size V3 w11 := hb310.trans (hO.from hb310.size (fun k hk => by have := GB.out k hk; have := hb34.size; omega))
  clear GO10 hO hb310
  go_wp2_with fail
  refine (strs_held (q := 1) GM hj0 (by decide) (by decide)).mono ?_
  rintro e w12 ⟨rfl, hb12⟩
  have GM12 := GM.below hb12
  have hb312 : Below V3.heap.size V3 w12 := hb311.trans (hb12.mono hb311.size)
  have A12 := AV.below hb312
  have R12 := RV.below hb312
  clear GM hb12 hb311 hnn
  have hnn : ¬ (((1 + Gxs.length : Nat) : Int) < 0) := by omega
  have kc0 : w12.cell? ⟨w.heap.size, 0, none⟩ = some (.slice a ps.length c) := A12.2 0 (by simp)
  have kc1 : w12.cell? ⟨w.heap.size, 1, none⟩ = some (.slice b ws.length d) := A12.2 1 (by simp)
  have kc2 : w12.cell? ⟨w.heap.size, 2, none⟩ = some (.slice e ms.length f) := A12.2 2 (by simp)
  have kc3 : w12.cell? ⟨w.heap.size, 3, none⟩ = some (.int .i64 q) := A12.2 3 (by simp)
  go_wp2_with fail
  refine (ftl_to R12 hk0 hk1 hk2).mono ?_
  rintro e w13 ⟨v, rfl, hown, hb13⟩
  obtain ⟨a13, c13, b13, d13, e13, f13, rfl⟩ := hown.shape
  have GM13 := GM12.below hb13
  have hb313 : Below V3.heap.size V3 w13 := hb312.trans (hb13.mono hb312.size)
  have HR := hide hown.rd
  clear hown hb13 GM12 hb312 A12 R12 kc0 kc1 kc2 kc3
  go_wp2_with fail
  refine (HIM.out w13 _ HR.out).mono ?_
  rintro e w14 ⟨v, rfl, hown, hb14⟩
  obtain ⟨a14, c14, rfl⟩ := hown.shape
  obtain ⟨V14, hV14⟩ : ∃ V, V = w14 := ⟨_, rfl⟩
  have hb14V : Below w14.heap.size w14 V14 := by rw [hV14]; exact Below.refl _ _
  have hbV14 := after hb14 hb14V
  have H14 := hown.rd.below hb14V
  have GM14 := GM13.below hbV14
  have hb314 : Below V3.heap.size V3 V14 := hb313.trans (hbV14.mono hb313.size)
  have LR14 := LR.below hb314
  clear hown hb14 hb14V GM13 hb313 hbV14 HR
  go_wp2_with fail
  rw [← hV14]
  clear hV14
  refine (strs_eq H14 LR14 hj0).mono ?_
  rintro e w15 ⟨rfl, hb15⟩
  have GM15 := GM14.below hb15
  have hb315 : Below V3.heap.size V3 w15 := hb314.trans (hb15.mono hb314.size)
  clear GM14 H14 LR14 hb15 hb314
  go_wp2_with fail
  refine (strs_held (q := 1) GM15 hj0 (by decide) (by decide)).mono ?_
  rintro e w16 ⟨rfl, hb16⟩
  have hfin : Below w.heap.size w w16 := after hbwV (hb315.trans (hb16.mono hb315.size))
  clear GM15 hb16 hb315 LR AV RV HIM hb34 hbwV
  go_wp2
  go_ret
  exact ⟨rfl, hfin⟩

set_option maxRecDepth 100000 in
theorem lifted (os : Os) (started : os.Started) (H : Type) (enc : TypeId × Value → H) :
    ReturnsInHanded {} Try.checked os 3 .any (Rows.fnExactViewSpec.pre6 enc Try.prog Try.f3 Rows.fnExactViewRow.domain false) (Rows.fnExactViewSpec.post enc Try.prog Try.f3 false true false false) := by
  refine returnsInHanded_of_change (C := Try.checked) own started (by kernel_rfl) Try.func3
    (ChangeSpec.witness6 (enc := enc) (C := Try.checked) false ⟨#[], #[.agg #[.slice none 0 0, .slice none 0 0, .slice none 0 0, .int .i64 0]], []⟩ 8 (by kernel_rfl) (by kernel_rfl) (by kernel_rfl) (by kernel_rfl)) ?_
  intro W base args ds gs before hval0 hW hcnd _
  have hval : ∀ (j : Nat) t v, Try.f3.params[j]? = some t → args[j]? = some v → Value.okWide Try.prog W .any base t v := hval0
  have hW' := hW
  obtain ⟨p, q, hA0, hV, rfl, hfz, hnd⟩ := hW
  have hA : DataW.TrodAll enc Try.prog W 0 (fun _ => true) true Try.f3.params.toList args.toList ds p := hA0
  rw [Try.params3] at hA hval
  obtain ⟨v0, vs0, d0, ds0, p0, q0, hargs, rfl, rfl, h0, r0⟩ := trodAll_cons hA
  obtain ⟨rfl, rfl, rfl⟩ := trodAll_nil r0
  obtain rfl : args = #[v0] := by cases args; simp_all
  obtain ⟨rfl, rfl⟩ := trodVars_none hV
  have k0 := h0
  have lt0 : ∀ x ∈ p0, x.block < W.heap.size := by obtain ⟨m, hm⟩ := k0; exact DataW.trod_lt m _ _ _ hm
  obtain ⟨za, zp, zc, zb, zw, ze, zf, zm, zg, zq, rfl, hR, hl0, hl1, hl2, hs, hq⟩ := ftl_of (hval 0 27 v0 rfl rfl) h0
  clear hA0 hval0
  refine (walk za zc zb ze zf zg zp zw zm zq  W hR hl0 hl1 hl2 hs hq).mono fun e W' ⟨he, bel⟩ => ?_
  subst he
  exact ⟨_, rfl, _, _, _, [], _, [], hW', trodAll_mk1 (shut_bool Try.underlying4 _), (trodAll_cons_mk (Below.trod laidOut (by kernel_rfl) (of_decide_eq_true (by kernel_rfl)) k0 bel lt0) trodAll_mk0), rfl, bel.frame _, fun h => by cases h⟩

theorem over : Rows.fnExactViewRow.holds Try.pinned (OpenSpec.ofChange Rows.fnExactViewSpec) :=
  OpenClaim.holds_of_wide 3 Try.f3 rfl rfl rfl rfl rfl rfl rfl ⟨rfl, rfl, rfl, rfl, rfl⟩ rfl rfl rfl rfl rfl (by kernel_rfl) Try.func3 (by kernel_rfl)
    (of_decide_eq_true (by kernel_rfl)) (by unfold Func.isWrapper; first | (rw [if_pos (by decide +kernel)]; kernel_rfl) | (rw [if_neg (by decide +kernel)]; exact ⟨rfl, rfl⟩))
    (fun os started H enc _ => lifted os started H enc)

end Go.Proofs.Ytghlnagainodaaa.fnExactView

namespace Go.Proofs.Ytghlnagainodaaa
theorem fnExactView_holds : Rows.FnExactViewSaid := fnExactView.over
#print axioms fnExactView_holds
end Go.Proofs.Ytghlnagainodaaa
