/-
  FnExactHalf is true at every argument, and leaves the chip as it was: impl.Half answers what spec.Half does, in memory of its own. No conditions.
-/
import Derived.Test.YtgfadkgmpljolaaRows
import Derived.Test.YtgfadkgmpljolaaLawChip
import Derived.Test.YtgfadkgmpljolaaImplHalf
import Derived.WalkKit
import Derived.ProofKit
import Derived.OpenShut
import Derived.ShutString
import Derived.ChangeOld
import Derived.Below
namespace Go.Proofs.Ytgfadkgmpljolaa.fnExactHalf
open Go.ChangeShapes Go.WideShapes Go.ChangeAt Go.RowKit
open Go.ChangeMaps (open_string shut_string)
set_option linter.unusedVariables false

theorem own : ownKnob Try.prog.godebug = none := by kernel_rfl
theorem laidOut : laidOutB Try.prog = true := by kernel_rfl

set_option maxHeartbeats 12800000 in
theorem walk (a b : Option Addr) (ps : List ByteArray) (ws : List Int) (c d : Nat) (block n : Int) (w : World) (hp : Rd w a (vsString ps)) (hw : Rd w b (vsInt ws)) (hl : ps.length ≤ maxLen) (hm : ws.length ≤ maxLen) (hs : ∀ s ∈ ps, s.size ≤ maxLen) (hn : (Lit.int .i64 n).wf = true) :
    Calls Try.prog 8 #[.agg #[.slice a ps.length c, .slice b ws.length d], .int .i64 block, .int .i64 n] w fun e w' => e = .returned (.bool true) ∧ Below w.heap.size w w' := by
  obtain ⟨W, hW⟩ : ∃ W, W = w.alloc (Obj.cells #[.slice a ps.length c, .slice b ws.length d] 25) := ⟨_, rfl⟩
  have hbW : Below w.heap.size w W := by subst hW; exact (Below.refl _ _).alloc (Nat.le_refl _) _
  have A0 : Loc W w.heap.size a b c d ps ws := ⟨by subst hW; simp, by subst hW; simp, hp.below hbW, hw.below hbW⟩
  clear hp hw
  · go_enter Try.func8, Try.ntmps8
    obtain ⟨c0, c1, -⟩ := id A0
    go_wp2_with fail
    rw [← hW]
    clear hW
    refine (szChip_any a b ps ws.length c d 1048576 W A0.2.2.1 hl hs hm (Nat.le_refl _)).mono ?_
    rintro e w1 ⟨⟨r, rfl, hr0, hr1, hr2⟩, hb1⟩
    have A1 := A0.below hb1
    have hbw1 := after hbW hb1
    clear c0 c1 A0 hb1 hbW hs
    by_cases hneg : r < 0
    · clear hr2 A1
      go_wp2
      go_ret
      exact ⟨rfl, hbw1⟩
    · obtain ⟨hl', hs', hm'⟩ := hr2 (by omega)
      obtain ⟨PS, WS, hPS, hWS, HSP, HIM⟩ : ∃ (PS : List ByteArray) (WS : List Int), PS.length ≤ 60 ∧ WS.length ≤ 10 ∧ Hid (∀ (u : World) (u2 u3 : Option Addr) (c2 d2 : Nat), Rd u u2 (vsString ps) → Rd u u3 (vsInt ws) → Calls Try.prog 24 #[.agg #[.slice u2 ps.length c2, .slice u3 ws.length d2], .int .i64 block, .int .i64 n] u fun e w' => ∃ v, e = .returned (v) ∧ ChipOwn w' u.heap.size v PS WS ∧ Below u.heap.size u w') ∧
          Hid (∀ (u : World) (u2 u3 : Option Addr) (c2 d2 : Nat), Rd u u2 (vsString ps) → Rd u u3 (vsInt ws) → Calls Try.prog 25 #[.agg #[.slice u2 ps.length c2, .slice u3 ws.length d2], .int .i64 block, .int .i64 n] u fun e w' => ∃ v, e = .returned (v) ∧ ChipOwn w' u.heap.size v PS WS ∧ Below u.heap.size u w') :=
        ⟨halfP ps ws block n, clearW ps ws block, halfP_len _ _ _ _, clearW_len _ _ _, fun u u2 u3 c2 d2 h1 h2 => specHalf_fn u2 u3 ps ws c2 d2 block n u h1 h2 hl' hm' hs' hn, fun u u2 u3 c2 d2 h1 h2 => implHalf_fn u2 u3 ps ws c2 d2 block n u h1 h2 hl' hm' hs' hn⟩
      clear hr2 hs' hl hm hn
      have hl6 : PS.length ≤ 1048576 := by omega
      have hm6 : WS.length ≤ 1048576 := by omega
      obtain ⟨c0, c1, -⟩ := id A1
      go_wp2_with fail
      refine (toChip_any a b ps ws c d w1 A1.2.2.1 A1.2.2.2 hl' hm').mono ?_
      rintro e w2 ⟨v, rfl, hown, hb2⟩
      obtain ⟨a2, k2, b2, l2, rfl, ho1, ho2, -⟩ := own_open hown
      have A2 := A1.below hb2
      have hbw2 := after hbw1 hb2
      have HR1 := hide (rd_of_own ho1)
      have HR2 := hide (rd_of_own ho2)
      clear hown hb2 ho1 ho2 A1 c0 c1 hbw1
      go_wp2_with fail
      refine (HSP.out w2 a2 b2 k2 l2 HR1.out HR2.out).mono ?_
      rintro e w3 ⟨v, rfl, hown, hb3⟩
      obtain ⟨a3, k3, b3, l3, rfl, ho1, ho2, hne⟩ := own_open hown
      obtain ⟨V3, hV3⟩ : ∃ V, V = w3.alloc (Obj.cells #[.slice a3 PS.length k3, .slice b3 WS.length l3] 28) := ⟨_, rfl⟩
      have hbV3 : Below w3.heap.size w3 V3 := by rw [hV3]; exact (Below.refl _ _).alloc (Nat.le_refl _) _
      have LW : Loc V3 w3.heap.size a3 b3 k3 l3 PS WS := by rw [hV3]; exact (locO_new ho1 ho2 hne hb3.size).loc
      have A3 := A2.below hb3
      obtain ⟨c0, c1, -⟩ := id A3
      have hlt := lt_of_cell c0
      have AV := A3.below hbV3
      have hbwV := after (after hbw2 hb3) hbV3
      clear hown hb3 ho1 ho2 hne A2 hbw2 HR1 HR2 A3 hbV3 HSP
      go_wp2_with fail
      rw [← hV3]
      clear hV3 c0 c1 hlt
      refine (toChip_any a b ps ws c d V3 AV.2.2.1 AV.2.2.2 hl' hm').mono ?_
      rintro e w4 ⟨v, rfl, hown, hb4⟩
      obtain ⟨a4, k4, b4, l4, rfl, ho1, ho2, hne⟩ := own_open hown
      obtain ⟨V4, hV4⟩ : ∃ V, V = w4.alloc (Obj.cells #[.slice a4 ps.length k4, .slice b4 ws.length l4] 28) := ⟨_, rfl⟩
      have hb34 : Below V3.heap.size V3 V4 := by rw [hV4]; exact after hb4 ((Below.refl _ _).alloc (Nat.le_refl _) _)
      have X4 : LocO V4 w4.heap.size V3.heap.size a4 b4 ps.length ws.length k4 l4 (vsString ps) (vsInt ws) := by rw [hV4]; exact locO_new ho1 ho2 hne hb4.size
      have hs4 : w4.heap.size < V4.heap.size := by rw [hV4]; simp
      clear hown hb4 ho1 ho2 hne
      go_wp2_with fail
      rw [← hV4]
      clear hV4
      refine (HIM.out V4 a4 b4 k4 l4 (rd_of_own X4.2.2.1) (rd_of_own X4.2.2.2.1)).mono ?_
      rintro e w5 ⟨v, rfl, hown, hb5⟩
      obtain ⟨a5, k5, b5, l5, rfl, ho1, ho2, hne⟩ := own_open hown
      obtain ⟨V5, hV5⟩ : ∃ V, V = w5.alloc (Obj.cells #[.slice a5 PS.length k5, .slice b5 WS.length l5] 28) := ⟨_, rfl⟩
      have hb45 : Below V4.heap.size V4 V5 := by rw [hV5]; exact after hb5 ((Below.refl _ _).alloc (Nat.le_refl _) _)
      have G5 : LocO V5 w5.heap.size V4.heap.size a5 b5 PS.length WS.length k5 l5 (vsString PS) (vsInt WS) := by rw [hV5]; exact locO_new ho1 ho2 hne hb5.size
      have X5 := X4.below hb45
      have hb35 : Below V3.heap.size V3 V5 := hb34.trans (hb45.mono hb34.size)
      have LW5 := LW.below hb35
      obtain ⟨c0, c1, -⟩ := id (LW.below (hb34.trans (hb5.mono hb34.size)))
      have hlt := lt_of_cell c0
      clear hown hb5 ho1 ho2 hne X4 hb45
      go_wp2_with fail
      rw [← hV5]
      clear hV5 c0 c1 hlt
      refine (eqChip_same a5 b5 a3 b3 PS WS k5 l5 k3 l3 V5 G5.loc.2.2.1 G5.loc.2.2.2 LW5.2.2.1 LW5.2.2.2 hl6 hm6).mono ?_
      rintro e w6 ⟨rfl, hb6⟩
      have G6 := G5.below hb6
      have X6 := X5.below hb6
      have hb36 : Below V3.heap.size V3 w6 := hb35.trans (hb6.mono hb35.size)
      have A6 := AV.below hb36
      clear G5 X5 hb6 hb35 LW5
      obtain ⟨c0, c1, -⟩ := id A6
      obtain ⟨d0, d1, -⟩ := id X6
      have HT : Hid (∀ u, Below w6.heap.size w6 u → u.cell? ⟨w.heap.size, 0, none⟩ = some (.slice a ps.length c) ∧ u.cell? ⟨w.heap.size, 1, none⟩ = some (.slice b ws.length d) ∧ u.cell? ⟨w4.heap.size, 0, none⟩ = some (.slice a4 ps.length k4) ∧ u.cell? ⟨w4.heap.size, 1, none⟩ = some (.slice b4 ws.length l4)) :=
        fun u hu => ⟨(A6.below hu).1, (A6.below hu).2.1, (X6.below hu).1, (X6.below hu).2.1⟩
      have hdr : Below w6.heap.size w6 w6.drew := after_drew (Below.refl _ _) 1
      have HAD := hide (A6.below hdr)
      have HXD := hide (X6.below hdr).loc
      clear A6
      go_wp2_with fail
      go_region_held (fun w' => w'.cell? ⟨w.heap.size, 0, none⟩ = some (.slice a ps.length c) ∧ w'.cell? ⟨w.heap.size, 1, none⟩ = some (.slice b ws.length d) ∧ w'.cell? ⟨w4.heap.size, 0, none⟩ = some (.slice a4 ps.length k4) ∧ w'.cell? ⟨w4.heap.size, 1, none⟩ = some (.slice b4 ws.length l4)) (first | assumption | go_keep)
        ((first
          | (go_at_call 11; refine (toChip_any a b ps ws c d _ HAD.out.2.2.1 HAD.out.2.2.2 hl' hm').mono ?_; rintro e w7 ⟨v, rfl, hown, hb7⟩; obtain ⟨a7, k7, b7, l7, hv7, ho1, ho2, -⟩ := own_open hown; subst hv7; have HS7 : Hid (Below w6.heap.size w6 w7) := after hdr hb7; have hS := HT.out w7 HS7.out; have HR1 := hide (rd_of_own ho1); have HR2 := hide (rd_of_own ho2); have HX7 := hide (HXD.out.below hb7); clear hown ho1 ho2 hb7)
          | (go_at_call 13; refine (eqChip_same a4 b4 a7 b7 ps ws k4 l4 k7 l7 _ HX7.out.2.2.1 HX7.out.2.2.2 HR1.out HR2.out hl' hm').mono ?_; rintro e w8 ⟨rfl, hb8⟩; have HS8 : Hid (Below w6.heap.size w6 w8) := after HS7.out hb8; have hS8 := HT.out w8 HS8.out; clear hb8)))
      have X8 := X6.below HS8.out
      have G8 := G6.below HS8.out
      have hb38 : Below V3.heap.size V3 w8 := hb36.trans (HS8.out.mono hb36.size)
      clear X6 G6 HT HAD HXD hdr c0 c1 d0 d1 hb36 HR1 HR2 HX7 HS7 hS8 hS
      obtain ⟨c0, c1, -⟩ := id X8
      go_wp2_with fail
      refine (markChip_any a4 b4 ps.length ws.length k4 l4 V3.heap.size 1 _ _ w8 X8.2.2.1 X8.2.2.2.1 X8.2.2.2.2.1 hl' hm' (by decide) (by decide)).mono ?_
      rintro e w9 ⟨rfl, hx, hy, hO⟩
      have G9 := G8.apart hO (fun k hk => Nat.lt_trans (X8.blocks k hk) hs4)
      have hb39 : Below V3.heap.size V3 w9 := hb38.trans (X8.older hO (Nat.le_refl _) hb38.size)
      have LW9 := LW.below hb39
      clear X8 G8 hO hx hy hb38 c0 c1 HS8
      have hnn : ¬ (((1 + ps.length + ws.length : Nat) : Int) < 0) := by omega
      obtain ⟨c0, c1, -⟩ := id G9
      obtain ⟨d0, d1, -⟩ := id LW9
      go_wp2_with fail
      refine (eqChip_same a5 b5 a3 b3 PS WS k5 l5 k3 l3 w9 G9.loc.2.2.1 G9.loc.2.2.2 LW9.2.2.1 LW9.2.2.2 hl6 hm6).mono ?_
      rintro e w10 ⟨rfl, hb10⟩
      have G10 := G9.below hb10
      have hb310 : Below V3.heap.size V3 w10 := hb39.trans (hb10.mono hb39.size)
      clear G9 LW9 hb10 hb39 c0 c1 d0 d1
      obtain ⟨c0, c1, -⟩ := id G10
      go_wp2_with fail
      refine (markChip_any a5 b5 PS.length WS.length k5 l5 V4.heap.size 1 _ _ w10 G10.2.2.1 G10.2.2.2.1 G10.2.2.2.2.1 hl6 hm6 (by decide) (by decide)).mono ?_
      rintro e w11 ⟨rfl, hx, hy, hO⟩
      have G11 := G10.marked hO hx hy
      have hb311 : Below V3.heap.size V3 w11 := hb310.trans (G10.older hO hb34.size hb310.size)
      clear G10 hO hx hy hb310 c0 c1
      obtain ⟨c0, c1, -⟩ := id G11
      go_wp2_with fail
      refine (heldChip_any a5 b5 PS.length WS.length k5 l5 V4.heap.size 1 w11 G11.2.2.1 G11.2.2.2.1 hl6 hm6 (by decide) (by decide)).mono ?_
      rintro e w12 ⟨rfl, hb12⟩
      have G12 := G11.below hb12
      have hb312 : Below V3.heap.size V3 w12 := hb311.trans (hb12.mono hb311.size)
      have A12 := AV.below hb312
      clear G11 hb12 hb311 c0 c1 hnn
      have hnn : ¬ (((1 + PS.length + WS.length : Nat) : Int) < 0) := by omega
      obtain ⟨c0, c1, -⟩ := id A12
      go_wp2_with fail
      refine (toChip_any a b ps ws c d w12 A12.2.2.1 A12.2.2.2 hl' hm').mono ?_
      rintro e w13 ⟨v, rfl, hown, hb13⟩
      obtain ⟨a13, k13, b13, l13, rfl, ho1, ho2, -⟩ := own_open hown
      have G13 := G12.below hb13
      have hb313 : Below V3.heap.size V3 w13 := hb312.trans (hb13.mono hb312.size)
      have HR1 := hide (rd_of_own ho1)
      have HR2 := hide (rd_of_own ho2)
      clear hown hb13 ho1 ho2 G12 hb312 A12 c0 c1
      go_wp2_with fail
      refine (HIM.out w13 a13 b13 k13 l13 HR1.out HR2.out).mono ?_
      rintro e w14 ⟨v, rfl, hown, hb14⟩
      obtain ⟨a14, k14, b14, l14, rfl, ho1, ho2, hne⟩ := own_open hown
      obtain ⟨V14, hV14⟩ : ∃ V, V = w14.alloc (Obj.cells #[.slice a14 PS.length k14, .slice b14 WS.length l14] 28) := ⟨_, rfl⟩
      have hbV14 : Below w13.heap.size w13 V14 := by rw [hV14]; exact after hb14 ((Below.refl _ _).alloc (Nat.le_refl _) _)
      have H14 : Loc V14 w14.heap.size a14 b14 k14 l14 PS WS := by rw [hV14]; exact (locO_new ho1 ho2 hne hb14.size).loc
      have G14 := G13.below hbV14
      have hb314 : Below V3.heap.size V3 V14 := hb313.trans (hbV14.mono hb313.size)
      have LW14 := LW.below hb314
      obtain ⟨c0, c1, -⟩ := id (LW.below (hb313.trans (hb14.mono hb313.size)))
      have hlt := lt_of_cell c0
      clear hown hb14 ho1 ho2 hne G13 hb313 hbV14 HR1 HR2
      go_wp2_with fail
      rw [← hV14]
      clear hV14 c0 c1 hlt
      refine (eqChip_same a14 b14 a3 b3 PS WS k14 l14 k3 l3 V14 H14.2.2.1 H14.2.2.2 LW14.2.2.1 LW14.2.2.2 hl6 hm6).mono ?_
      rintro e w15 ⟨rfl, hb15⟩
      have G15 := G14.below hb15
      have hb315 : Below V3.heap.size V3 w15 := hb314.trans (hb15.mono hb314.size)
      clear G14 H14 LW14 hb15 hb314
      obtain ⟨c0, c1, -⟩ := id G15
      go_wp2_with fail
      refine (heldChip_any a5 b5 PS.length WS.length k5 l5 V4.heap.size 1 w15 G15.2.2.1 G15.2.2.2.1 hl6 hm6 (by decide) (by decide)).mono ?_
      rintro e w16 ⟨rfl, hb16⟩
      have hfin : Below w.heap.size w w16 := after hbwV (hb315.trans (hb16.mono hb315.size))
      clear G15 hb16 hb315 c0 c1 LW AV HIM hb34 hbwV
      go_wp2
      go_ret
      exact ⟨rfl, hfin⟩

set_option maxRecDepth 100000 in
theorem lifted (os : Os) (started : os.Started) (H : Type) (enc : TypeId × Value → H) :
    ReturnsInHanded {} Try.checked os 8 .any (Rows.fnExactHalfSpec.pre6 enc Try.prog Try.f8 Rows.fnExactHalfRow.domain false) (Rows.fnExactHalfSpec.post enc Try.prog Try.f8 false true false false) := by
  refine returnsInHanded_of_change (C := Try.checked) own started (by kernel_rfl) Try.func8
    (ChangeSpec.witness6 (enc := enc) (C := Try.checked) false ⟨#[], #[.agg #[.slice none 0 0, .slice none 0 0], .int .i64 0, .int .i64 0], []⟩ 8 (by kernel_rfl) (by kernel_rfl) (by kernel_rfl) (by kernel_rfl)) ?_
  intro W base args ds gs before hval0 hW hcnd _
  have hval : ∀ (j : Nat) t v, Try.f8.params[j]? = some t → args[j]? = some v → Value.okWide Try.prog W .any base t v := hval0
  have hW' := hW
  obtain ⟨p, q, hA0, hV, rfl, hfz, hnd⟩ := hW
  have hA : DataW.TrodAll enc Try.prog W 0 (fun _ => true) true Try.f8.params.toList args.toList ds p := hA0
  rw [Try.params8] at hA hval
  obtain ⟨v0, vs0, d0, ds0, p0, q0, hargs, rfl, rfl, h0, r0⟩ := trodAll_cons hA
  obtain ⟨v1, vs1, d1, ds1, p1, q1, rfl, rfl, rfl, h1, r1⟩ := trodAll_cons r0
  obtain ⟨v2, vs2, d2, ds2, p2, q2, rfl, rfl, rfl, h2, r2⟩ := trodAll_cons r1
  obtain ⟨rfl, rfl, rfl⟩ := trodAll_nil r2
  obtain rfl : args = #[v0, v1, v2] := by cases args; simp_all
  obtain ⟨rfl, rfl⟩ := trodVars_none hV
  have k0 := h0
  have lt0 : ∀ x ∈ p0, x.block < W.heap.size := by obtain ⟨m, hm⟩ := k0; exact DataW.trod_lt m _ _ _ hm
  obtain ⟨a, ps, c, b, ws, e, rfl, hp, hw, hl, hm, hs⟩ := chip_of (hval 0 25 v0 rfl rfl) h0
  obtain ⟨x1, rfl, rfl, rfl, w1⟩ := open_int Try.underlying3 (hval 1 3 v1 rfl rfl) h1
  obtain ⟨x2, rfl, rfl, rfl, w2⟩ := open_int Try.underlying3 (hval 2 3 v2 rfl rfl) h2
  clear hA0 hval0
  refine (walk a b ps ws c e x1 x2 W hp hw hl hm hs w2).mono fun e W' ⟨he, bel⟩ => ?_
  subst he
  exact ⟨_, rfl, _, _, _, [], _, [], hW', trodAll_mk1 (shut_bool Try.underlying4 _), (trodAll_cons_mk (Below.trod laidOut (by kernel_rfl) (of_decide_eq_true (by kernel_rfl)) k0 bel lt0) (trodAll_cons_mk (shut_int Try.underlying3 w1) (trodAll_cons_mk (shut_int Try.underlying3 w2) trodAll_mk0))), rfl, bel.frame _, fun h => by cases h⟩

theorem over : Rows.fnExactHalfRow.holds Try.pinned (OpenSpec.ofChange Rows.fnExactHalfSpec) :=
  OpenClaim.holds_of_wide 8 Try.f8 rfl rfl rfl rfl rfl rfl rfl ⟨rfl, rfl, rfl, rfl, rfl⟩ rfl rfl rfl rfl rfl (by kernel_rfl) Try.func8 (by kernel_rfl)
    (of_decide_eq_true (by kernel_rfl)) (by unfold Func.isWrapper; first | (rw [if_pos (by decide +kernel)]; kernel_rfl) | (rw [if_neg (by decide +kernel)]; exact ⟨rfl, rfl⟩))
    (fun os started H enc _ => lifted os started H enc)

end Go.Proofs.Ytgfadkgmpljolaa.fnExactHalf

namespace Go.Proofs.Ytgfadkgmpljolaa
theorem fnExactHalf_holds : Rows.FnExactHalfSaid := fnExactHalf.over
#print axioms fnExactHalf_holds
end Go.Proofs.Ytgfadkgmpljolaa
