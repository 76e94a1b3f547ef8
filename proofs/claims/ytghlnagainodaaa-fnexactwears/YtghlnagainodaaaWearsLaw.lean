/-
  FnExactWears is true at every argument, and leaves it as it was: impl.Wears answers what spec.Wears does, in memory of its own. No conditions.
-/
import Derived.Test.YtghlnagainodaaaRows
import Derived.Test.YtghlnagainodaaaArgFtl
import Derived.Test.YtghlnagainodaaaWears
import Derived.WalkKit
import Derived.ProofKit
import Derived.OpenShut
import Derived.ShutString
import Derived.ChangeOld
import Derived.Below
namespace Go.Proofs.Ytghlnagainodaaa.fnExactWears
open Go.ChangeShapes Go.WideShapes Go.ChangeAt Go.RowKit
open Go.ChangeMaps (open_string shut_string)
set_option linter.unusedVariables false

theorem own : ownKnob Try.prog.godebug = none := by kernel_rfl
theorem laidOut : laidOutB Try.prog = true := by kernel_rfl

set_option maxRecDepth 100000 in
set_option maxHeartbeats 12800000 in
theorem walk (a : Option Addr) (c : Nat) (b : Option Addr) (d : Nat) (e : Option Addr) (f : Nat) (ps : List ByteArray) (ws : List Int) (ms : List Int) (q : Int)  (w : World) (hA : FtlRd w (.agg #[.slice a ps.length c, .slice b ws.length d, .slice e ms.length f, .int .i64 q]) ps ws ms q) (hl0 : ps.length ≤ maxLen) (hl1 : ws.length ≤ maxLen) (hl2 : ms.length ≤ maxLen) (hs : ∀ s ∈ ps, s.size ≤ maxLen) (hq : (Lit.int .i64 q).wf = true)  :
    Calls Try.prog 4 #[.agg #[.slice a ps.length c, .slice b ws.length d, .slice e ms.length f, .int .i64 q]] w fun e w' => e = .returned (.bool true) ∧ Below w.heap.size w w' := by
  obtain ⟨W, hW⟩ : ∃ W, W = w.alloc (Obj.cells #[.slice a ps.length c, .slice b ws.length d, .slice e ms.length f, .int .i64 q] 27) := ⟨_, rfl⟩
  have hbW : Below w.heap.size w W := by rw [hW]; exact (Below.refl _ _).alloc (Nat.le_refl _) _
  have A0 : At W w.heap.size [.slice a ps.length c, .slice b ws.length d, .slice e ms.length f, .int .i64 q] := by rw [hW]; exact at_new w [.slice a ps.length c, .slice b ws.length d, .slice e ms.length f, .int .i64 q] _
  have R0 := hA.below hbW
  clear hA
  go_enter Try.func4, Try.ntmps4
  have kc0 : W.cell? ⟨w.heap.size, 0, none⟩ = some (.slice a ps.length c) := A0.2 0 (by simp)
  have kc1 : W.cell? ⟨w.heap.size, 1, none⟩ = some (.slice b ws.length d) := A0.2 1 (by simp)
  have kc2 : W.cell? ⟨w.heap.size, 2, none⟩ = some (.slice e ms.length f) := A0.2 2 (by simp)
  have kc3 : W.cell? ⟨w.heap.size, 3, none⟩ = some (.int .i64 q) := A0.2 3 (by simp)
  go_wp2_with fail
  rw [← hW]
  clear hW
  refine (ftl_sz 1048576 R0 hl0 hl1 hl2 hs (Nat.le_refl _)).mono ?_
  rintro e w1 ⟨⟨r, rfl, hr0, hr1, hr2⟩, hb1⟩
  have A1 := A0.below hb1
  have R1 := R0.below hb1
  have hbw1 := after hbW hb1
  clear kc0 kc1 kc2 kc3 A0 R0 hb1 hbW hs
  by_cases hneg : r < 0
  · clear hr2 A1 R1
    go_wp2
    go_ret
    exact ⟨rfl, hbw1⟩
  obtain ⟨hk0, hk1, hk2, hs'⟩ := hr2 (by omega)
  obtain ⟨S0, S1, HSP, HIM⟩ : ∃  (S0 : Int) (S1 : Int), Hid (∀ (u : World) (v : Value), FtlRd u v ps ws ms q → Calls Try.prog 15 #[v] u fun e w' => e = .returned (.tuple #[.int .i64 S0, .int .i64 S1]) ∧ Below u.heap.size u w') ∧ Hid (∀ (u : World) (v : Value), FtlRd u v ps ws ms q → Calls Try.prog 16 #[v] u fun e w' => e = .returned (.tuple #[.int .i64 S0, .int .i64 S1]) ∧ Below u.heap.size u w') :=
    fnExactWears_both ps ws ms q hk0 hk1 hk2 hs' hq 
  clear hr2 hs' hl0 hl1 hl2 hq
  have kc0 : w1.cell? ⟨w.heap.size, 0, none⟩ = some (.slice a ps.length c) := A1.2 0 (by simp)
  have kc1 : w1.cell? ⟨w.heap.size, 1, none⟩ = some (.slice b ws.length d) := A1.2 1 (by simp)
  have kc2 : w1.cell? ⟨w.heap.size, 2, none⟩ = some (.slice e ms.length f) := A1.2 2 (by simp)
  have kc3 : w1.cell? ⟨w.heap.size, 3, none⟩ = some (.int .i64 q) := A1.2 3 (by simp)
  go_wp2_with fail
  refine (ftl_to R1 hk0 hk1 hk2).mono ?_
  rintro e w2 ⟨v, rfl, hown, hb2⟩
  obtain ⟨a2, c2, b2, d2, e2, f2, rfl⟩ := hown.shape
  have A2 := A1.below hb2
  have R2 := R1.below hb2
  have hbw2 := after hbw1 hb2
  have HR := hide hown.rd
  clear hown hb2 A1 R1 kc0 kc1 kc2 kc3 hbw1
  go_wp2_with fail
  refine (HSP.out w2 _ HR.out).mono ?_
  rintro e V3 ⟨rfl, hb3⟩
  have AV := A2.below hb3
  have RV := R2.below hb3
  have hbwV := after hbw2 hb3
  have kc0 : V3.cell? ⟨w.heap.size, 0, none⟩ = some (.slice a ps.length c) := AV.2 0 (by simp)
  have kc1 : V3.cell? ⟨w.heap.size, 1, none⟩ = some (.slice b ws.length d) := AV.2 1 (by simp)
  have kc2 : V3.cell? ⟨w.heap.size, 2, none⟩ = some (.slice e ms.length f) := AV.2 2 (by simp)
  have kc3 : V3.cell? ⟨w.heap.size, 3, none⟩ = some (.int .i64 q) := AV.2 3 (by simp)
  clear hb3 A2 R2 hbw2 HR HSP
  go_wp2_with fail
  clear kc0 kc1 kc2 kc3
  refine (ftl_to RV hk0 hk1 hk2).mono ?_
  rintro e w4 ⟨v, rfl, hown, hb4⟩
  obtain ⟨a4, c4, b4, d4, e4, f4, rfl⟩ := hown.shape
  obtain ⟨V4, hV4⟩ : ∃ V, V = w4.alloc (Obj.cells #[.slice a4 ps.length c4, .slice b4 ws.length d4, .slice e4 ms.length f4, .int .i64 q] 32) := ⟨_, rfl⟩
  have hb4V : Below w4.heap.size w4 V4 := by rw [hV4]; exact (Below.refl _ _).alloc (Nat.le_refl _) _
  have hb34 : Below V3.heap.size V3 V4 := after hb4 hb4V
  have XA : At V4 w4.heap.size [.slice a4 ps.length c4, .slice b4 ws.length d4, .slice e4 ms.length f4, .int .i64 q] := by rw [hV4]; exact at_new w4 [.slice a4 ps.length c4, .slice b4 ws.length d4, .slice e4 ms.length f4, .int .i64 q] _
  have XO := hown.below hb4V
  have XB : Hid (∀ k, some k ∈ bk (.agg #[.slice a4 ps.length c4, .slice b4 ws.length d4, .slice e4 ms.length f4, .int .i64 q]) → V3.heap.size ≤ k ∧ k < w4.heap.size) := fun k hk => hown.blk hk
  have hs34 := hb4.size
  have hs4 := XA.1
  clear hown hb4 hb4V
  go_wp2_with fail
  rw [← hV4]
  clear hV4
  refine (HIM.out V4 _ XO.rd).mono ?_
  rintro e w6 ⟨rfl, hb6⟩
  have XA6 := XA.below hb6
  have XO6 := XO.below hb6
  have hb36 : Below V3.heap.size V3 w6 := hb34.trans (hb6.mono hb34.size)
  clear XA XO hb6
  have hfS0 : (S0 != S0) = false := by simp
  have hfS1 : (S1 != S1) = false := by simp
  have AV6 := AV.below hb36
  have RV6 := RV.below hb36
  have kc0 : w6.cell? ⟨w.heap.size, 0, none⟩ = some (.slice a ps.length c) := AV6.2 0 (by simp)
  have kc1 : w6.cell? ⟨w.heap.size, 1, none⟩ = some (.slice b ws.length d) := AV6.2 1 (by simp)
  have kc2 : w6.cell? ⟨w.heap.size, 2, none⟩ = some (.slice e ms.length f) := AV6.2 2 (by simp)
  have kc3 : w6.cell? ⟨w.heap.size, 3, none⟩ = some (.int .i64 q) := AV6.2 3 (by simp)
  have kx0 : w6.cell? ⟨w4.heap.size, 0, none⟩ = some (.slice a4 ps.length c4) := XA6.2 0 (by simp)
  have kx1 : w6.cell? ⟨w4.heap.size, 1, none⟩ = some (.slice b4 ws.length d4) := XA6.2 1 (by simp)
  have kx2 : w6.cell? ⟨w4.heap.size, 2, none⟩ = some (.slice e4 ms.length f4) := XA6.2 2 (by simp)
  have kx3 : w6.cell? ⟨w4.heap.size, 3, none⟩ = some (.int .i64 q) := XA6.2 3 (by simp)
  have HT : Hid (∀ u, Below w6.heap.size w6 u → u.cell? ⟨w.heap.size, 0, none⟩ = some (.slice a ps.length c) ∧ u.cell? ⟨w.heap.size, 1, none⟩ = some (.slice b ws.length d) ∧ u.cell? ⟨w.heap.size, 2, none⟩ = some (.slice e ms.length f) ∧ u.cell? ⟨w.heap.size, 3, none⟩ = some (.int .i64 q) ∧ u.cell? ⟨w4.heap.size, 0, none⟩ = some (.slice a4 ps.length c4) ∧ u.cell? ⟨w4.heap.size, 1, none⟩ = some (.slice b4 ws.length d4) ∧ u.cell? ⟨w4.heap.size, 2, none⟩ = some (.slice e4 ms.length f4) ∧ u.cell? ⟨w4.heap.size, 3, none⟩ = some (.int .i64 q)) :=
    fun u hu => ⟨(AV6.below hu).2 0 (by simp), (AV6.below hu).2 1 (by simp), (AV6.below hu).2 2 (by simp), (AV6.below hu).2 3 (by simp), (XA6.below hu).2 0 (by simp), (XA6.below hu).2 1 (by simp), (XA6.below hu).2 2 (by simp), (XA6.below hu).2 3 (by simp)⟩
  have hdr : Below w6.heap.size w6 w6.drew := after_drew (Below.refl _ _) 1
  have HAD := hide (RV6.below hdr)
  have HXD := hide (XO6.rd.below hdr)
  clear AV6 RV6
  go_wp2_with fail
  go_region_held (fun w' => w'.cell? ⟨w.heap.size, 0, none⟩ = some (.slice a ps.length c) ∧ w'.cell? ⟨w.heap.size, 1, none⟩ = some (.slice b ws.length d) ∧ w'.cell? ⟨w.heap.size, 2, none⟩ = some (.slice e ms.length f) ∧ w'.cell? ⟨w.heap.size, 3, none⟩ = some (.int .i64 q) ∧ w'.cell? ⟨w4.heap.size, 0, none⟩ = some (.slice a4 ps.length c4) ∧ w'.cell? ⟨w4.heap.size, 1, none⟩ = some (.slice b4 ws.length d4) ∧ w'.cell? ⟨w4.heap.size, 2, none⟩ = some (.slice e4 ms.length f4) ∧ w'.cell? ⟨w4.heap.size, 3, none⟩ = some (.int .i64 q)) (first | assumption | go_keep)
    ((first
      | (go_at_call 8; refine (ftl_to HAD.out hk0 hk1 hk2).mono ?_; rintro e w7 ⟨v, rfl, hown, hb7⟩; obtain ⟨a7, c7, b7, d7, e7, f7, hv7⟩ := hown.shape; subst hv7; have HS7 : Hid (Below w6.heap.size w6 w7) := after hdr hb7; have hS := HT.out w7 HS7.out; have HR := hide hown.rd; have HX7 := hide (HXD.out.below hb7); clear hown hb7)
      | (go_at_call 11; refine (ftl_eq HX7.out HR.out hk0 hk1 hk2).mono ?_; rintro e w8 ⟨rfl, hb8⟩; have HS8 : Hid (Below w6.heap.size w6 w8) := after HS7.out hb8; have hS8 := HT.out w8 HS8.out; clear hb8)))
  have hfin : Below w.heap.size w w8 := after hbwV (hb36.trans (HS8.out.mono hb36.size))
  clear HT HAD HXD hdr kc0 kc1 kc2 kc3 kx0 kx1 kx2 kx3 hb36 HR HX7 HS7 hS8 hS XA6 XO6 AV RV HIM
  go_wp2
  go_ret
  exact ⟨rfl, hfin⟩

set_option maxRecDepth 100000 in
theorem lifted (os : Os) (started : os.Started) (H : Type) (enc : TypeId × Value → H) :
    ReturnsInHanded {} Try.checked os 4 .any (Rows.fnExactWearsSpec.pre6 enc Try.prog Try.f4 Rows.fnExactWearsRow.domain false) (Rows.fnExactWearsSpec.post enc Try.prog Try.f4 false true false false) := by
  refine returnsInHanded_of_change (C := Try.checked) own started (by kernel_rfl) Try.func4
    (ChangeSpec.witness6 (enc := enc) (C := Try.checked) false ⟨#[], #[.agg #[.slice none 0 0, .slice none 0 0, .slice none 0 0, .int .i64 0]], []⟩ 8 (by kernel_rfl) (by kernel_rfl) (by kernel_rfl) (by kernel_rfl)) ?_
  intro W base args ds gs before hval0 hW hcnd _
  have hval : ∀ (j : Nat) t v, Try.f4.params[j]? = some t → args[j]? = some v → Value.okWide Try.prog W .any base t v := hval0
  have hW' := hW
  obtain ⟨p, q, hA0, hV, rfl, hfz, hnd⟩ := hW
  have hA : DataW.TrodAll enc Try.prog W 0 (fun _ => true) true Try.f4.params.toList args.toList ds p := hA0
  rw [Try.params4] at hA hval
  obtain ⟨v0, vs0, d0, ds0, p0, q0, hargs, rfl, rfl, h0, r0⟩ := trodAll_cons hA
  obtain ⟨rfl, rfl, rfl⟩ := trodAll_nil r0
  obtain rfl : args = #[v0] := by cases args; simp_all
  obtain ⟨rfl, rfl⟩ := trodVars_none hV
  have k0 := h0
  have lt0 : ∀ x ∈ p0, x.block < W.heap.size := by obtain ⟨m, hm⟩ := k0; exact DataW.trod_lt m _ _ _ hm
  obtain ⟨za, zp, zc, zb, zw, ze, zf, zm, zg, zq, rfl, hR, hl0, hl1, hl2, hs, hq⟩ := ftl_of (hval 0 27 v0 rfl rfl) h0
  clear hA0 hval0
  refine (walk za zc zb ze zf zg zp zw zm zq  W hR hl0 hl1 hl2 hs hq).mono fun e W' ⟨he, bel⟩ => ?_
  subst he
  exact ⟨_, rfl, _, _, _, [], _, [], hW', trodAll_mk1 (shut_bool Try.underlying4 _), (trodAll_cons_mk (Below.trod laidOut (by kernel_rfl) (of_decide_eq_true (by kernel_rfl)) k0 bel lt0) trodAll_mk0), rfl, bel.frame _, fun h => by cases h⟩

theorem over : Rows.fnExactWearsRow.holds Try.pinned (OpenSpec.ofChange Rows.fnExactWearsSpec) :=
  OpenClaim.holds_of_wide 4 Try.f4 rfl rfl rfl rfl rfl rfl rfl ⟨rfl, rfl, rfl, rfl, rfl⟩ rfl rfl rfl rfl rfl (by kernel_rfl) Try.func4 (by kernel_rfl)
    (of_decide_eq_true (by kernel_rfl)) (by unfold Func.isWrapper; first | (rw [if_pos (by decide +kernel)]; kernel_rfl) | (rw [if_neg (by decide +kernel)]; exact ⟨rfl, rfl⟩))
    (fun os started H enc _ => lifted os started H enc)

end Go.Proofs.Ytghlnagainodaaa.fnExactWears

namespace Go.Proofs.Ytghlnagainodaaa
theorem fnExactWears_holds : Rows.FnExactWearsSaid := fnExactWears.over
#print axioms fnExactWears_holds
end Go.Proofs.Ytghlnagainodaaa
