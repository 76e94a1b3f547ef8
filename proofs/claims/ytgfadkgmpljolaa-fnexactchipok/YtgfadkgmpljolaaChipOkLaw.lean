/-
  FnExactChipOk is true at every chip, and leaves it as it was: impl.ChipOk answers what spec.ChipOk does. No conditions.
-/
import Derived.Test.YtgfadkgmpljolaaRows
import Derived.Test.YtgfadkgmpljolaaArgChip
import Derived.Test.YtgfadkgmpljolaaSpecChip
import Derived.Test.YtgfadkgmpljolaaImplChip
import Derived.WalkKit
import Derived.ProofKit
import Derived.OpenShut
import Derived.ShutString
import Derived.ChangeOld
import Derived.Below
namespace Go.Proofs.Ytgfadkgmpljolaa.fnExactChipOk
open Go.ChangeShapes Go.WideShapes Go.ChangeAt Go.RowKit
set_option linter.unusedVariables false

theorem own : ownKnob Try.prog.godebug = none := by kernel_rfl
theorem laidOut : laidOutB Try.prog = true := by kernel_rfl

set_option maxHeartbeats 1600000 in
theorem walk (a b : Option Addr) (ps : List ByteArray) (ws : List Int) (c d : Nat) (w : World) (hp : Rd w a (vsString ps)) (hw : Rd w b (vsInt ws)) (hl : ps.length ≤ maxLen) (hm : ws.length ≤ maxLen) (hs : ∀ s ∈ ps, s.size ≤ maxLen) :
    Calls Try.prog 3 #[.agg #[.slice a ps.length c, .slice b ws.length d]] w fun e w' => e = .returned (.bool true) ∧ Below w.heap.size w w' := by
  obtain ⟨W, hW⟩ : ∃ W, W = w.alloc (Obj.cells #[.slice a ps.length c, .slice b ws.length d] 25) := ⟨_, rfl⟩
  have hbW : Below w.heap.size w W := by subst hW; exact (Below.refl _ _).alloc (Nat.le_refl _) _
  have c0 : W.cell? ⟨w.heap.size, 0, none⟩ = some (.slice a ps.length c) := by subst hW; simp
  have c1 : W.cell? ⟨w.heap.size, 1, none⟩ = some (.slice b ws.length d) := by subst hW; simp
  have hsW : w.heap.size < W.heap.size := by subst hW; simp
  go_enter Try.func3, Try.ntmps3
  go_wp2_with fail
  rw [← hW]
  clear hW
  refine (szChip_any a b ps ws.length c d 1048576 W (hp.below hbW) hl hs hm (Nat.le_refl _)).mono ?_
  rintro e w1 ⟨⟨r, rfl, hr0, hr1, hr2⟩, hb1⟩
  have hbw1 := after hbW hb1
  have hs1 := hb1.size
  have d0 := (hb1.cell (p := ⟨w.heap.size, 0, none⟩) (by show _ < _; exact hsW)).trans c0
  have d1 := (hb1.cell (p := ⟨w.heap.size, 1, none⟩) (by show _ < _; exact hsW)).trans c1
  by_cases hneg : r < 0
  · clear hp hw hs hr2 hb1 hbW c0 c1
    go_wp2
    go_ret
    exact ⟨rfl, hbw1⟩
  · obtain ⟨hl', hs', hm'⟩ := hr2 (by omega)
    have hp1 := hp.below hbw1
    have hw1 := hw.below hbw1
    clear hp hw hs hr2 hb1 hbW c0 c1 hl hm
    go_wp2_with fail
    refine (toChip_any a b ps ws c d w1 hp1 hw1 hl' hm').mono ?_
    rintro e w2 ⟨v, rfl, hown, hb2⟩
    obtain ⟨a2, k2, b2, l2, rfl, ho1, ho2, -⟩ := own_open hown
    have hbw2 := after hbw1 hb2
    have hs2 := hb2.size
    have e0 := (hb2.cell (p := ⟨w.heap.size, 0, none⟩) (by show _ < _; simp; omega)).trans d0
    have e1 := (hb2.cell (p := ⟨w.heap.size, 1, none⟩) (by show _ < _; simp; omega)).trans d1
    have hp2 := hp1.below hb2
    have hw2 := hw1.below hb2
    have HR1 : Hid (Rd w2 a2 (vsString ps)) := rd_of_own ho1
    have HR2 : Hid (Rd w2 b2 (vsInt ws)) := rd_of_own ho2
    clear hown hb2 d0 d1 hp1 hw1 ho1 ho2
    go_wp2_with fail
    refine (specChipOk_any a2 b2 ps ws k2 l2 w2 HR1.out HR2.out hl' hm' hs').mono ?_
    rintro e w3 ⟨rfl, hb3⟩
    have hbw3 := after hbw2 hb3
    have hs3 := hb3.size
    have f0 := (hb3.cell (p := ⟨w.heap.size, 0, none⟩) (by show _ < _; simp; omega)).trans e0
    have f1 := (hb3.cell (p := ⟨w.heap.size, 1, none⟩) (by show _ < _; simp; omega)).trans e1
    have hp3 := hp2.below hb3
    have hw3 := hw2.below hb3
    clear HR1 HR2 hb3 e0 e1 hp2 hw2
    obtain ⟨B, hB⟩ : ∃ B, B = chipOkB ps ws := ⟨_, rfl⟩
    rw [← hB]
    have HB : Hid (B = chipOkB ps ws) := hB
    clear hB
    go_wp2_with fail
    refine (toChip_any a b ps ws c d w3 hp3 hw3 hl' hm').mono ?_
    rintro e w4 ⟨v, rfl, hown, hb4⟩
    obtain ⟨a4, k4, b4, l4, rfl, ho1, ho2, -⟩ := own_open hown
    have hbw4 := after hbw3 hb4
    have hs4 := hb4.size
    have g0 := (hb4.cell (p := ⟨w.heap.size, 0, none⟩) (by show _ < _; simp; omega)).trans f0
    have g1 := (hb4.cell (p := ⟨w.heap.size, 1, none⟩) (by show _ < _; simp; omega)).trans f1
    have hp4 := hp3.below hb4
    have hw4 := hw3.below hb4
    have R1 : Rd w4 a4 (vsString ps) := rd_of_own ho1
    have R2 : Rd w4 b4 (vsInt ws) := rd_of_own ho2
    clear hown hb4 f0 f1 hp3 hw3 ho1 ho2
    obtain ⟨V, hV⟩ : ∃ V, V = w4.alloc (Obj.cells #[.slice a4 ps.length k4, .slice b4 ws.length l4] 28) := ⟨_, rfl⟩
    have hbV : Below w4.heap.size w4 V := by subst hV; exact (Below.refl _ _).alloc (Nat.le_refl _) _
    have hsV : w4.heap.size < V.heap.size := by subst hV; simp
    have h0 : V.cell? ⟨w4.heap.size, 0, none⟩ = some (.slice a4 ps.length k4) := by subst hV; simp
    have h1 : V.cell? ⟨w4.heap.size, 1, none⟩ = some (.slice b4 ws.length l4) := by subst hV; simp
    have i0 := (hbV.cell (p := ⟨w.heap.size, 0, none⟩) (by show _ < _; simp; omega)).trans g0
    have i1 := (hbV.cell (p := ⟨w.heap.size, 1, none⟩) (by show _ < _; simp; omega)).trans g1
    have hpV := hp4.below hbV
    have hwV := hw4.below hbV
    have hbwV := after hbw4 hbV
    have S1 := R1.below hbV
    have S2 := R2.below hbV
    clear R1 R2 hbw1 hbw2 hbw3 hp4 hw4 g0 g1 hbV
    go_wp2_with fail
    rw [← hV]
    clear hV
    refine (implChipOk_any a4 b4 ps ws k4 l4 V S1 S2 hl' hm' hs').mono ?_
    rw [← HB.out]
    rintro e w5 ⟨rfl, hb5⟩
    have hbw5 := after hbwV hb5
    have hs5 := hb5.size
    have j0 := (hb5.cell (p := ⟨w.heap.size, 0, none⟩) (by show _ < _; simp; omega)).trans i0
    have j1 := (hb5.cell (p := ⟨w.heap.size, 1, none⟩) (by show _ < _; simp; omega)).trans i1
    have m0 := (hb5.cell (p := ⟨w4.heap.size, 0, none⟩) (by show _ < _; exact hsV)).trans h0
    have m1 := (hb5.cell (p := ⟨w4.heap.size, 1, none⟩) (by show _ < _; exact hsV)).trans h1
    have hp5 := hpV.below hb5
    have hw5 := hwV.below hb5
    have T1 := S1.below hb5
    have T2 := S2.below hb5
    clear S1 S2 hpV hwV i0 i1 h0 h1 hb5 hbwV hbw4
    have hbb : (B != B) = false := by simp
    have HT1 : Hid (∀ u, Below w5.heap.size w5 u → u.cell? ⟨w.heap.size, 0, none⟩ = some (.slice a ps.length c) ∧ u.cell? ⟨w.heap.size, 1, none⟩ = some (.slice b ws.length d) ∧ u.cell? ⟨w4.heap.size, 0, none⟩ = some (.slice a4 ps.length k4) ∧ u.cell? ⟨w4.heap.size, 1, none⟩ = some (.slice b4 ws.length l4)) :=
      fun u hu => ⟨(hu.cell (p := ⟨w.heap.size, 0, none⟩) (by show _ < _; simp; omega)).trans j0, (hu.cell (p := ⟨w.heap.size, 1, none⟩) (by show _ < _; simp; omega)).trans j1, (hu.cell (p := ⟨w4.heap.size, 0, none⟩) (by show _ < _; simp; omega)).trans m0, (hu.cell (p := ⟨w4.heap.size, 1, none⟩) (by show _ < _; simp; omega)).trans m1⟩
    have hdr : Below w5.heap.size w5 w5.drew := after_drew (Below.refl _ _) 1
    have HP : Hid (Rd w5.drew a (vsString ps)) := hp5.below hdr
    have HW : Hid (Rd w5.drew b (vsInt ws)) := hw5.below hdr
    have HU1 : Hid (Rd w5.drew a4 (vsString ps)) := T1.below hdr
    have HU2 : Hid (Rd w5.drew b4 (vsInt ws)) := T2.below hdr
    have HBW : Hid (Below w.heap.size w w5.drew) := after_drew hbw5 1
    clear hp5 hw5 T1 T2 hbw5
    go_wp2_with fail
    go_region_held (fun w' => w'.cell? ⟨w.heap.size, 0, none⟩ = some (.slice a ps.length c) ∧ w'.cell? ⟨w.heap.size, 1, none⟩ = some (.slice b ws.length d) ∧ w'.cell? ⟨w4.heap.size, 0, none⟩ = some (.slice a4 ps.length k4) ∧ w'.cell? ⟨w4.heap.size, 1, none⟩ = some (.slice b4 ws.length l4)) (first | assumption | go_keep)
      ((first
        | (go_at_call 11; refine (toChip_any a b ps ws c d _ HP.out HW.out hl' hm').mono ?_; rintro e w6 ⟨v, rfl, hown, hb6⟩; obtain ⟨a6, k6, b6, l6, hv6, ho1, ho2, -⟩ := own_open hown; subst hv6; have HS6 : Hid (Below w5.heap.size w5 w6) := after hdr hb6; have hS := HT1.out w6 HS6.out; have HR1 : Hid (Rd w6 a6 (vsString ps)) := rd_of_own ho1; have HR2 : Hid (Rd w6 b6 (vsInt ws)) := rd_of_own ho2; have HV1 : Hid _ := HU1.out.below hb6; have HV2 : Hid _ := HU2.out.below hb6; have HB6 : Hid _ := after HBW.out hb6; clear hown ho1 ho2 hb6)
        | (go_at_call 13; refine (eqChip_same a4 b4 a6 b6 ps ws k4 l4 k6 l6 _ HV1.out HV2.out HR1.out HR2.out hl' hm').mono ?_; rintro e w7 ⟨rfl, hb7⟩; have hS7 := HT1.out w7 (after HS6.out hb7); have HB7 : Hid _ := after HB6.out hb7; clear hb7)))
    all_goals go_wp2
    all_goals go_ret
    all_goals exact ⟨rfl, HB7.out⟩

set_option maxRecDepth 100000 in
theorem lifted (os : Os) (started : os.Started) (H : Type) (enc : TypeId × Value → H) :
    ReturnsInHanded {} Try.checked os 3 .any (Rows.fnExactChipOkSpec.pre6 enc Try.prog Try.f3 Rows.fnExactChipOkRow.domain false) (Rows.fnExactChipOkSpec.post enc Try.prog Try.f3 false true false false) := by
  refine returnsInHanded_of_change (C := Try.checked) own started (by kernel_rfl) Try.func3
    (ChangeSpec.witness6 (enc := enc) (C := Try.checked) false ⟨#[], #[.agg #[.slice none 0 0, .slice none 0 0]], []⟩ 8 (by kernel_rfl) (by kernel_rfl) (by kernel_rfl) (by kernel_rfl)) ?_
  intro W base args ds gs before hval0 hW hcnd _
  have hval : ∀ (j : Nat) t v, Try.f3.params[j]? = some t → args[j]? = some v → Value.okWide Try.prog W .any base t v := hval0
  have hW' := hW
  obtain ⟨p, q, hA0, hV, rfl, hfz, hnd⟩ := hW
  have hA : DataW.TrodAll enc Try.prog W 0 (fun _ => true) true Try.f3.params.toList args.toList ds p := hA0
  rw [Try.params3] at hA hval
  obtain ⟨v0, vs0, d0, ds0, p0, q0, hargs, rfl, rfl, h0, r0⟩ := trodAll_cons hA
  obtain ⟨rfl, rfl, rfl⟩ := trodAll_nil r0
  obtain rfl : args = #[v0] := by cases args; simp_all
  obtain ⟨rfl, rfl⟩ := trodVars_none hV
  have k0 := h0
  have lt0 : ∀ x ∈ p0, x.block < W.heap.size := by obtain ⟨m, hm⟩ := k0; exact DataW.trod_lt m _ _ _ hm
  obtain ⟨a, ps, c, b, ws, e, rfl, hp, hw, hl, hm, hs⟩ := chip_of (hval 0 25 v0 rfl rfl) h0
  clear hA0 hval0
  refine (walk a b ps ws c e W hp hw hl hm hs).mono fun e W' ⟨he, bel⟩ => ?_
  subst he
  exact ⟨_, rfl, _, _, _, [], _, [], hW', trodAll_mk1 (shut_bool Try.underlying4 _), (trodAll_cons_mk (Below.trod laidOut (by kernel_rfl) (of_decide_eq_true (by kernel_rfl)) k0 bel lt0) trodAll_mk0), rfl, bel.frame _, fun h => by cases h⟩

theorem over : Rows.fnExactChipOkRow.holds Try.pinned (OpenSpec.ofChange Rows.fnExactChipOkSpec) :=
  OpenClaim.holds_of_wide 3 Try.f3 rfl rfl rfl rfl rfl rfl rfl ⟨rfl, rfl, rfl, rfl, rfl⟩ rfl rfl rfl rfl rfl (by kernel_rfl) Try.func3 (by kernel_rfl)
    (of_decide_eq_true (by kernel_rfl)) (by unfold Func.isWrapper; first | (rw [if_pos (by decide +kernel)]; kernel_rfl) | (rw [if_neg (by decide +kernel)]; exact ⟨rfl, rfl⟩))
    (fun os started H enc _ => lifted os started H enc)

end Go.Proofs.Ytgfadkgmpljolaa.fnExactChipOk

namespace Go.Proofs.Ytgfadkgmpljolaa
theorem fnExactChipOk_holds : Rows.FnExactChipOkSaid := fnExactChipOk.over
#print axioms fnExactChipOk_holds
end Go.Proofs.Ytgfadkgmpljolaa
