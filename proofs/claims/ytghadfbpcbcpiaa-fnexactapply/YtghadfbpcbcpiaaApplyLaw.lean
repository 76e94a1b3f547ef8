/-
  FnExactApply is true at every argument, and leaves it as it was: impl.Apply answers what spec.Apply does, in memory of its own. No conditions.
-/
import Derived.Test.YtghadfbpcbcpiaaRows
import Derived.Test.YtghadfbpcbcpiaaK8
import Derived.Test.YtghadfbpcbcpiaaK19
import Derived.WalkKit
import Derived.ProofKit
import Derived.OpenShut
import Derived.ShutString
import Derived.ChangeOld
import Derived.Below
import Derived.Deep.RegionHeld
import Derived.Deep.CutBlock
import Derived.Deep.DeepCutAuto
namespace Go.Proofs.Ytghadfbpcbcpiaa.fnExactApply
open Go.ChangeShapes Go.WideShapes Go.ChangeAt Go.RowKit
open Go.ChangeMaps (open_string shut_string)
set_option linter.unusedVariables false

theorem own : ownKnob Try.prog.godebug = none := by kernel_rfl
theorem laidOut : laidOutB Try.prog = true := by kernel_rfl

set_option maxRecDepth 100000 in
set_option maxHeartbeats 12800000 in
theorem walk (a : Option Addr) (c : Nat) (b : Option Addr) (d : Nat) (ps : List ByteArray) (ws : List Int) (kind at_ : Int) (text : ByteArray) (w : World) (hA : ChipRd w (.agg #[.slice a ps.length c, .slice b ws.length d]) ps ws) (hl0 : ps.length ≤ maxLen) (hl1 : ws.length ≤ maxLen) (hs : ∀ s ∈ ps, s.size ≤ maxLen) (htx : text.size ≤ maxLen) :
    Calls Try.prog 3 #[.agg #[.slice a ps.length c, .slice b ws.length d], .agg #[.int .i64 kind, .int .i64 at_, .string text]] w fun e w' => e = .returned (.bool true) ∧ Below w.heap.size w w' := by
  obtain ⟨W0, hW0⟩ : ∃ W, W = w.alloc (Obj.cells #[.slice a ps.length c, .slice b ws.length d] 25) := ⟨_, rfl⟩
  obtain ⟨W, hW⟩ : ∃ W, W = W0.alloc (Obj.cells #[.int .i64 kind, .int .i64 at_, .string text] 27) := ⟨_, rfl⟩
  have hsz0 : W0.heap.size = w.heap.size + 1 := by rw [hW0]; simp
  have hb00 : Below w.heap.size w W0 := by rw [hW0]; exact (Below.refl _ _).alloc (Nat.le_refl _) _
  have hb01 : Below W0.heap.size W0 W := by rw [hW]; exact (Below.refl _ _).alloc (Nat.le_refl _) _
  have hbW := after hb00 hb01
  have A00 : At W0 w.heap.size [.slice a ps.length c, .slice b ws.length d] := by rw [hW0]; exact at_new w [.slice a ps.length c, .slice b ws.length d] _
  have A0 := A00.below hb01
  have B0 : At W (w.heap.size + 1) [.int .i64 kind, .int .i64 at_, .string text] := by rw [← hsz0, hW]; exact at_new W0 [.int .i64 kind, .int .i64 at_, .string text] _
  have R0 := hA.below hbW
  clear hA A00 hb00 hb01
  go_enter Try.func3, Try.ntmps3
  have kc0 : W.cell? ⟨w.heap.size, 0, none⟩ = some (.slice a ps.length c) := A0.2 0 (by simp)
  have kc1 : W.cell? ⟨w.heap.size, 1, none⟩ = some (.slice b ws.length d) := A0.2 1 (by simp)
  go_wp2_with (first | rw [← hW0] | rw [← hW])
  clear hW hW0 hsz0
  refine (chip_sz 1048576 R0 hl0 hl1 hs (Nat.le_refl _)).mono ?_
  rintro e w1 ⟨⟨r, rfl, hr0, hr1, hr2⟩, hb1⟩
  have A1 := A0.below hb1
  have B1 := B0.below hb1
  have R1 := R0.below hb1
  have hbw1 := after hbW hb1
  clear kc0 kc1 A0 B0 R0 hb1 hbW hs
  by_cases hneg : r < 0
  · clear hr2 A1 B1 R1
    go_wp2
    go_ret
    exact ⟨rfl, hbw1⟩
  obtain ⟨hk0, hk1, hs'⟩ := hr2 (by omega)
  clear hr2 hl0 hl1
  have kb0 : w1.cell? ⟨w.heap.size + 1, 0, none⟩ = some (.int .i64 kind) := B1.2 0 (by simp)
  have kb1 : w1.cell? ⟨w.heap.size + 1, 1, none⟩ = some (.int .i64 at_) := B1.2 1 (by simp)
  have kb2 : w1.cell? ⟨w.heap.size + 1, 2, none⟩ = some (.string text) := B1.2 2 (by simp)
  go_wp2_with fail
  refine (szAct_any kind at_ text r w1 htx (by omega) hr1).mono ?_
  rintro e w2 ⟨⟨r2, rfl, ht2⟩, hb2⟩
  have A2 := A1.below hb2
  have B2 := B1.below hb2
  have RC := R1.below hb2
  have hbw2 := after hbw1 hb2
  clear kb0 kb1 kb2 A1 B1 R1 hb2 hbw1
  by_cases hneg2 : r2 < 0
  · clear hs' A2 B2 RC ht2
    go_wp2
    go_ret
    exact ⟨rfl, hbw2⟩
  have ht' := ht2 (by omega)
  obtain ⟨Gps, Gws, S1, hg0, hg1, HSP, HIM⟩ := fnExactApply_both ps ws kind at_ text hk0 hk1 hs' ht'
  clear hs' ht2 ht' htx hr0 hr1 hneg
  have hj0 : Gps.length ≤ 1048576 := by omega
  have hj1 : Gws.length ≤ 1048576 := by omega
  have hq0 := A2.1
  have hq1 := B2.1
  have kc0 : w2.cell? ⟨w.heap.size, 0, none⟩ = some (.slice a ps.length c) := A2.2 0 (by simp)
  have kc1 : w2.cell? ⟨w.heap.size, 1, none⟩ = some (.slice b ws.length d) := A2.2 1 (by simp)
  have kb0 : w2.cell? ⟨w.heap.size + 1, 0, none⟩ = some (.int .i64 kind) := B2.2 0 (by simp)
  have kb1 : w2.cell? ⟨w.heap.size + 1, 1, none⟩ = some (.int .i64 at_) := B2.2 1 (by simp)
  have kb2 : w2.cell? ⟨w.heap.size + 1, 2, none⟩ = some (.string text) := B2.2 2 (by simp)
  have HT : Hid (∀ u, Below w2.heap.size w2 u → u.cell? ⟨w.heap.size, 0, none⟩ = some (.slice a ps.length c) ∧ u.cell? ⟨w.heap.size, 1, none⟩ = some (.slice b ws.length d) ∧ u.cell? ⟨w.heap.size + 1, 0, none⟩ = some (.int .i64 kind) ∧ u.cell? ⟨w.heap.size + 1, 1, none⟩ = some (.int .i64 at_) ∧ u.cell? ⟨w.heap.size + 1, 2, none⟩ = some (.string text)) := fun u hu => ⟨(A2.below hu).2 0 (by simp), (A2.below hu).2 1 (by simp), (B2.below hu).2 0 (by simp), (B2.below hu).2 1 (by simp), (B2.below hu).2 2 (by simp)⟩
  have HA : Hid (∀ u, Below w2.heap.size w2 u → Calls Try.prog 9 #[.agg #[.int .i64 kind, .int .i64 at_, .string text]] u fun e w' => e = .returned (.agg #[.int .i64 kind, .int .i64 at_, .string text]) ∧ Below u.heap.size u w' ∧ Below w2.heap.size w2 w') := fun u hu => (toAct_any kind at_ text u).mono fun e w' h => ⟨h.1, h.2, after hu h.2⟩
  have HC : Hid (∀ u, Below w2.heap.size w2 u → Calls Try.prog 8 #[.agg #[.slice a ps.length c, .slice b ws.length d]] u fun e w' => ∃ a c b d, e = .returned (.agg #[.slice a ps.length c, .slice b ws.length d]) ∧ ChipRd w' (.agg #[.slice a ps.length c, .slice b ws.length d]) ps ws ∧ Below u.heap.size u w' ∧ Below w2.heap.size w2 w') := by
    intro u hu; refine (chip_to (RC.below hu) hk0 hk1).mono ?_; rintro e w' ⟨v, rfl, hown, hb⟩; obtain ⟨a2, c2, b2, d2, rfl⟩ := hown.shape; exact ⟨_, _, _, _, rfl, hown.rd, hb, after hu hb⟩
  have HP : Hid (∀ u v, Below w2.heap.size w2 u → ChipRd u v ps ws → Calls Try.prog 7 #[v, .agg #[.int .i64 kind, .int .i64 at_, .string text]] u fun e w' => ∃ base a c b d, e = .returned (.tuple #[.agg #[.slice a Gps.length c, .slice b Gws.length d], .bool S1]) ∧ ChipOwn w' base (.agg #[.slice a Gps.length c, .slice b Gws.length d]) Gps Gws ∧ w2.heap.size ≤ base ∧ (∀ p, Z3 w2 u p → p < base) ∧ Below u.heap.size u w' ∧ Below w2.heap.size w2 w') := by
    intro u v hu hv; refine (HSP.out u v hv).mono ?_; rintro e w' ⟨v', rfl, hown, hb⟩; obtain ⟨a2, c2, b2, d2, rfl⟩ := hown.shape; exact ⟨_, _, _, _, _, rfl, hown, hu.size, fun p hp => hp.2.1, hb, after hu hb⟩
  go_upto_region 8 with fail
  go_cut [6, 7] (fun s t wx => Boxed w2 Gps Gws S1 s t wx)
  case first =>
    go_region_held (fun w' => w'.cell? ⟨w.heap.size, 0, none⟩ = some (.slice a ps.length c) ∧ w'.cell? ⟨w.heap.size, 1, none⟩ = some (.slice b ws.length d) ∧ w'.cell? ⟨w.heap.size + 1, 0, none⟩ = some (.int .i64 kind) ∧ w'.cell? ⟨w.heap.size + 1, 1, none⟩ = some (.int .i64 at_) ∧ w'.cell? ⟨w.heap.size + 1, 2, none⟩ = some (.string text)) (first | assumption | go_keep)
      ((first
        | (go_at_call 8; refine (HC.out _ ?_).mono ?_; (first | exact HB.out | exact HB.out.alloc HB.out.size _ | exact after_drew (Below.refl _ _) 1 | exact after_drew ((Below.refl _ _).alloc (Nat.le_refl _) _) 1); rintro e w7 ⟨a7, c7, b7, d7, rfl, hrd, hb, hB⟩; (first | (have HZ := hide (HZ.out.below hb)) | (have HZ := hide ((z3_new HB.out _).below hb)) | (have HZ := hide ((z3_drew _ _).below hb)) | skip); (first | (obtain ⟨⟨y0, y1, y2, y3⟩, -⟩ := HZ.out; have yn0 := HZ.out.ne hq0; have yn1 := HZ.out.ne hq1) | skip); have HB := hide hB; have HR := hide hrd; have hS := HT.out _ HB.out; clear hrd hb hB)
        | (go_at_call 9; refine (HA.out _ ?_).mono ?_; (first | exact HB.out | exact HB.out.alloc HB.out.size _ | exact after_drew (Below.refl _ _) 1 | exact after_drew ((Below.refl _ _).alloc (Nat.le_refl _) _) 1); rintro e w8 ⟨rfl, hb, hB⟩; (first | (have HZ := hide (HZ.out.below hb)) | (have HZ := hide ((z3_new HB.out _).below hb)) | (have HZ := hide ((z3_drew _ _).below hb)) | skip); (first | (obtain ⟨⟨y0, y1, y2, y3⟩, -⟩ := HZ.out; have yn0 := HZ.out.ne hq0; have yn1 := HZ.out.ne hq1) | skip); (first | (have HR := hide (HR.out.below hb)) | (have HR := hide (chipRd_al HR.out hb)) | skip); have HB := hide hB; have hS := HT.out _ HB.out; clear hb hB)
        | (go_at_call 7; refine (HP.out _ _ ?_ ?_).mono ?_; (first | exact HB.out | exact HB.out.alloc HB.out.size _ | exact after_drew (Below.refl _ _) 1 | exact after_drew ((Below.refl _ _).alloc (Nat.le_refl _) _) 1); (first | exact HR.out | exact HR.out.below ((Below.refl _ _).alloc (Nat.le_refl _) _)); rintro e w9 ⟨base, a9, c9, b9, d9, rfl, hown, hbase, hz, hb, hB⟩; (first | (have HQ := hide (hz _ HZ.out)) | (have HQ := hide (hz _ (z3_new HB.out _))) | (have HQ := hide (hz _ (z3_drew _ _))) | skip); (first | (have HZ := hide (HZ.out.below hb)) | (have HZ := hide ((z3_new HB.out _).below hb)) | (have HZ := hide ((z3_drew _ _).below hb)) | skip); (first | (obtain ⟨⟨y0, y1, y2, y3⟩, -⟩ := HZ.out; have yn0 := HZ.out.ne hq0; have yn1 := HZ.out.ne hq1) | skip); have HB := hide hB; have HO := hide hown; have HBA := hide hbase; have hS := HT.out _ HB.out; clear hown hbase hz hb hB)))
    all_goals (go_wp2_with fail; go_meet; first | exact boxed_late HB.out HO.out HBA.out | exact boxed_early HB.out HO.out HBA.out HZ.out HQ.out)
  case rest =>
  clear HT HA HP HC
  have hbx : Hid _ := hcut
  clear hcut
  clear HSP kc0 kc1 kb0 kb1 kb2
  obtain ⟨p3, base3, a3, c3, b3, d3, rfl, rfl, hp3, -, LA0, LO, -, hb3⟩ := hbx.out
  have LR0 := LO.rd
  clear hbx LO
  have A3 := A2.below hb3
  have B3 := B2.below hb3
  have RV := RC.below hb3
  have hbw3 := after hbw2 hb3
  clear A2 B2 RC hbw2 hb3 hq0 hq1 hp3
  obtain ⟨V3, hV3⟩ : ∃ V, V = wc := ⟨_, rfl⟩
  rw [← hV3] at LA0 LR0 A3 B3 RV hbw3 ⊢
  clear hV3
  have kc0 : V3.cell? ⟨w.heap.size, 0, none⟩ = some (.slice a ps.length c) := A3.2 0 (by simp)
  have kc1 : V3.cell? ⟨w.heap.size, 1, none⟩ = some (.slice b ws.length d) := A3.2 1 (by simp)
  go_wp2_with fail
  clear kc0 kc1
  refine (chip_to RV hk0 hk1).mono ?_
  rintro e w4 ⟨v, rfl, hown, hb4⟩
  obtain ⟨a4, c4, b4, d4, rfl⟩ := hown.shape
  obtain ⟨V4, hV4⟩ : ∃ V, V = w4.alloc (Obj.cells #[.slice a4 ps.length c4, .slice b4 ws.length d4] 30) := ⟨_, rfl⟩
  have hb4V : Below w4.heap.size w4 V4 := by rw [hV4]; exact (Below.refl _ _).alloc (Nat.le_refl _) _
  have hb34 : Below V3.heap.size V3 V4 := after hb4 hb4V
  have XA : At V4 w4.heap.size [.slice a4 ps.length c4, .slice b4 ws.length d4] := by rw [hV4]; exact at_new w4 [.slice a4 ps.length c4, .slice b4 ws.length d4] _
  have XO := hown.below hb4V
  have XR := XO.rd
  have XB : Hid (∀ k, some k ∈ bk (.agg #[.slice a4 ps.length c4, .slice b4 ws.length d4]) → V3.heap.size ≤ k ∧ k < w4.heap.size) := fun k hk => hown.blk hk
  have hs34 := hb4.size
  have hq0 := XA.1
  have B4 := B3.below hb34
  have hq1 := B4.1
  have kx0 : V4.cell? ⟨w4.heap.size, 0, none⟩ = some (.slice a4 ps.length c4) := XA.2 0 (by simp)
  have kx1 : V4.cell? ⟨w4.heap.size, 1, none⟩ = some (.slice b4 ws.length d4) := XA.2 1 (by simp)
  have kb0 : V4.cell? ⟨w.heap.size + 1, 0, none⟩ = some (.int .i64 kind) := B4.2 0 (by simp)
  have kb1 : V4.cell? ⟨w.heap.size + 1, 1, none⟩ = some (.int .i64 at_) := B4.2 1 (by simp)
  have kb2 : V4.cell? ⟨w.heap.size + 1, 2, none⟩ = some (.string text) := B4.2 2 (by simp)
  clear hown hb4 hb4V
  have HT : Hid (∀ u, Below V4.heap.size V4 u → u.cell? ⟨w4.heap.size, 0, none⟩ = some (.slice a4 ps.length c4) ∧ u.cell? ⟨w4.heap.size, 1, none⟩ = some (.slice b4 ws.length d4) ∧ u.cell? ⟨w.heap.size + 1, 0, none⟩ = some (.int .i64 kind) ∧ u.cell? ⟨w.heap.size + 1, 1, none⟩ = some (.int .i64 at_) ∧ u.cell? ⟨w.heap.size + 1, 2, none⟩ = some (.string text)) := fun u hu => ⟨(XA.below hu).2 0 (by simp), (XA.below hu).2 1 (by simp), (B4.below hu).2 0 (by simp), (B4.below hu).2 1 (by simp), (B4.below hu).2 2 (by simp)⟩
  have HA : Hid (∀ u, Below V4.heap.size V4 u → Calls Try.prog 9 #[.agg #[.int .i64 kind, .int .i64 at_, .string text]] u fun e w' => e = .returned (.agg #[.int .i64 kind, .int .i64 at_, .string text]) ∧ Below u.heap.size u w' ∧ Below V4.heap.size V4 w') := fun u hu => (toAct_any kind at_ text u).mono fun e w' h => ⟨h.1, h.2, after hu h.2⟩
  have HP : Hid (∀ u v, Below V4.heap.size V4 u → ChipRd u v ps ws → Calls Try.prog 10 #[v, .agg #[.int .i64 kind, .int .i64 at_, .string text]] u fun e w' => ∃ base a c b d, e = .returned (.tuple #[.agg #[.slice a Gps.length c, .slice b Gws.length d], .bool S1]) ∧ ChipOwn w' base (.agg #[.slice a Gps.length c, .slice b Gws.length d]) Gps Gws ∧ V4.heap.size ≤ base ∧ (∀ p, Z3 V4 u p → p < base) ∧ Below u.heap.size u w' ∧ Below V4.heap.size V4 w') := by
    intro u v hu hv; refine (HIM.out u v hv).mono ?_; rintro e w' ⟨v', rfl, hown, hb⟩; obtain ⟨a2, c2, b2, d2, rfl⟩ := hown.shape; exact ⟨_, _, _, _, _, rfl, hown, hu.size, fun p hp => hp.2.1, hb, after hu hb⟩
  have HX : Hid (∀ u, Below V4.heap.size V4 u → ChipRd u (.agg #[.slice a4 ps.length c4, .slice b4 ws.length d4]) ps ws) := fun u hu => XR.below hu
  go_upto_region 10 with fail
  rw [← hV4]
  clear hV4
  go_cut [9, 10] (fun s t wx => Boxed V4 Gps Gws S1 s t wx)
  case first =>
    go_region_held (fun w' => w'.cell? ⟨w4.heap.size, 0, none⟩ = some (.slice a4 ps.length c4) ∧ w'.cell? ⟨w4.heap.size, 1, none⟩ = some (.slice b4 ws.length d4) ∧ w'.cell? ⟨w.heap.size + 1, 0, none⟩ = some (.int .i64 kind) ∧ w'.cell? ⟨w.heap.size + 1, 1, none⟩ = some (.int .i64 at_) ∧ w'.cell? ⟨w.heap.size + 1, 2, none⟩ = some (.string text)) (first | assumption | go_keep)
      ((first
        | (go_at_call 9; refine (HA.out _ ?_).mono ?_; (first | exact HB.out | exact HB.out.alloc HB.out.size _ | exact after_drew (Below.refl _ _) 1 | exact after_drew ((Below.refl _ _).alloc (Nat.le_refl _) _) 1); rintro e w8 ⟨rfl, hb, hB⟩; (first | (have HZ := hide (HZ.out.below hb)) | (have HZ := hide ((z3_new HB.out _).below hb)) | (have HZ := hide ((z3_drew _ _).below hb)) | skip); (first | (obtain ⟨⟨y0, y1, y2, y3⟩, -⟩ := HZ.out; have yn0 := HZ.out.ne hq0; have yn1 := HZ.out.ne hq1) | skip); (first | (have HR := hide (HR.out.below hb)) | (have HR := hide (chipRd_al HR.out hb)) | skip); have HB := hide hB; have hS := HT.out _ HB.out; clear hb hB)
        | (go_at_call 10; refine (HP.out _ _ ?_ ?_).mono ?_; (first | exact HB.out | exact HB.out.alloc HB.out.size _ | exact after_drew (Below.refl _ _) 1 | exact after_drew ((Below.refl _ _).alloc (Nat.le_refl _) _) 1); (refine HX.out _ ?_; (first | exact HB.out | exact HB.out.alloc HB.out.size _ | exact after_drew (Below.refl _ _) 1 | exact after_drew ((Below.refl _ _).alloc (Nat.le_refl _) _) 1)); rintro e w9 ⟨base, a9, c9, b9, d9, rfl, hown, hbase, hz, hb, hB⟩; (first | (have HQ := hide (hz _ HZ.out)) | (have HQ := hide (hz _ (z3_new HB.out _))) | (have HQ := hide (hz _ (z3_drew _ _))) | skip); (first | (have HZ := hide (HZ.out.below hb)) | (have HZ := hide ((z3_new HB.out _).below hb)) | (have HZ := hide ((z3_drew _ _).below hb)) | skip); (first | (obtain ⟨⟨y0, y1, y2, y3⟩, -⟩ := HZ.out; have yn0 := HZ.out.ne hq0; have yn1 := HZ.out.ne hq1) | skip); have HB := hide hB; have HO := hide hown; have HBA := hide hbase; have hS := HT.out _ HB.out; clear hown hbase hz hb hB)))
    all_goals (go_wp2_with fail; go_meet; first | exact boxed_late HB.out HO.out HBA.out | exact boxed_early HB.out HO.out HBA.out HZ.out HQ.out)
  case rest =>
  clear HT HA HP HX
  have hbx : Hid _ := hcut
  clear hcut
  clear kx0 kx1 kb0 kb1 kb2 hq0 hq1 B4 XR
  have hs4 := XA.1
  obtain ⟨p5, base5, a5, c5, b5, d5, rfl, rfl, hp5, hbase5, GA, GO, GN, hb45⟩ := hbx.out
  clear hbx
  have GN := hide GN
  have GB : Hid (∀ k, some k ∈ bk (.agg #[.slice a5 Gps.length c5, .slice b5 Gws.length d5]) → V4.heap.size ≤ k) := fun k hk => Nat.le_trans hbase5 (GO.blk hk).1
  obtain ⟨V5, hV5⟩ : ∃ V, V = wc := ⟨_, rfl⟩
  rw [← hV5] at GA GO hb45 ⊢
  clear hV5 hbase5
  have hb35 : Below V3.heap.size V3 V5 := hb34.trans (hb45.mono hb34.size)
  have XA5 := XA.below hb45
  have XO5 := XO.below hb45
  have LA5 := LA0.below hb35
  have kc0 : V5.cell? ⟨p5, 0, none⟩ = some (.slice a5 Gps.length c5) := GA.2 0 (by simp)
  have kc1 : V5.cell? ⟨p5, 1, none⟩ = some (.slice b5 Gws.length d5) := GA.2 1 (by simp)
  have ky0 : V5.cell? ⟨p3, 0, none⟩ = some (.slice a3 Gps.length c3) := LA5.2 0 (by simp)
  have ky1 : V5.cell? ⟨p3, 1, none⟩ = some (.slice b3 Gws.length d3) := LA5.2 1 (by simp)
  clear XA XO hb45
  go_wp2_with fail
  clear kc0 kc1 ky0 ky1 LA5
  refine (chip_eq GO.rd (LR0.below hb35) hj0 hj1).mono ?_
  rintro e w6 ⟨rfl, hb6⟩
  have GO6 := GO.below hb6
  have GA6 := GA.below hb6
  have XA6 := XA5.below hb6
  have XO6 := XO5.below hb6
  have hb36 : Below V3.heap.size V3 w6 := hb35.trans (hb6.mono hb35.size)
  clear GO XA5 XO5 hb6 hb35 GA
  have hfS1 : (S1 != S1) = false := by simp
  have AV6 := A3.below hb36
  have RV6 := RV.below hb36
  have kc0 : w6.cell? ⟨w.heap.size, 0, none⟩ = some (.slice a ps.length c) := AV6.2 0 (by simp)
  have kc1 : w6.cell? ⟨w.heap.size, 1, none⟩ = some (.slice b ws.length d) := AV6.2 1 (by simp)
  have kx0 : w6.cell? ⟨w4.heap.size, 0, none⟩ = some (.slice a4 ps.length c4) := XA6.2 0 (by simp)
  have kx1 : w6.cell? ⟨w4.heap.size, 1, none⟩ = some (.slice b4 ws.length d4) := XA6.2 1 (by simp)
  have HT : Hid (∀ u, Below w6.heap.size w6 u → u.cell? ⟨w.heap.size, 0, none⟩ = some (.slice a ps.length c) ∧ u.cell? ⟨w.heap.size, 1, none⟩ = some (.slice b ws.length d) ∧ u.cell? ⟨w4.heap.size, 0, none⟩ = some (.slice a4 ps.length c4) ∧ u.cell? ⟨w4.heap.size, 1, none⟩ = some (.slice b4 ws.length d4)) := fun u hu => ⟨(AV6.below hu).2 0 (by simp), (AV6.below hu).2 1 (by simp), (XA6.below hu).2 0 (by simp), (XA6.below hu).2 1 (by simp)⟩
  have hdr : Below w6.heap.size w6 w6.drew := after_drew (Below.refl _ _) 1
  have HAD := hide (RV6.below hdr)
  have HXD := hide (XO6.rd.below hdr)
  clear AV6 RV6
  go_wp2_with fail
  go_region_held (fun w' => w'.cell? ⟨w.heap.size, 0, none⟩ = some (.slice a ps.length c) ∧ w'.cell? ⟨w.heap.size, 1, none⟩ = some (.slice b ws.length d) ∧ w'.cell? ⟨w4.heap.size, 0, none⟩ = some (.slice a4 ps.length c4) ∧ w'.cell? ⟨w4.heap.size, 1, none⟩ = some (.slice b4 ws.length d4)) (first | assumption | go_keep)
    ((first
      | (go_at_call 8; refine (chip_to HAD.out hk0 hk1).mono ?_; rintro e w7 ⟨v, rfl, hown, hb7⟩; obtain ⟨a7, c7, b7, d7, hv7⟩ := hown.shape; subst hv7; have HS7 : Hid (Below w6.heap.size w6 w7) := after hdr hb7; have hS := HT.out w7 HS7.out; have HR := hide hown.rd; have HX7 := hide (HXD.out.below hb7); clear hown hb7)
      | (go_at_call 11; refine (chip_eq HX7.out HR.out hk0 hk1).mono ?_; rintro e w8 ⟨rfl, hb8⟩; have HS8 : Hid (Below w6.heap.size w6 w8) := after HS7.out hb8; have hS8 := HT.out w8 HS8.out; clear hb8)))
  have XA8 := XA6.below HS8.out
  have XO8 := XO6.below HS8.out
  have GO8 := GO6.below HS8.out
  have GA8 := GA6.below HS8.out
  have hb38 : Below V3.heap.size V3 w8 := hb36.trans (HS8.out.mono hb36.size)
  clear XA6 XO6 GO6 GA6 HT HAD HXD hdr kc0 kc1 kx0 kx1 hb36 HR HX7 HS7 hS8 hS
  have kx0 : w8.cell? ⟨w4.heap.size, 0, none⟩ = some (.slice a4 ps.length c4) := XA8.2 0 (by simp)
  have kx1 : w8.cell? ⟨w4.heap.size, 1, none⟩ = some (.slice b4 ws.length d4) := XA8.2 1 (by simp)
  go_wp2_with fail
  refine (chip_mark (q := 1) XO8 hk0 hk1 (by decide) (by decide)).mono ?_
  rintro e w9 ⟨rfl, -, hO⟩
  have GO9 := GO8.only hO (fun k hk hk' => by have := GB.out k hk; have := XB.out k hk'; omega)
  have GA9 := GA8.only hO (fun hk' => by have := XB.out _ hk'; omega)
  have hb39 : Below V3.heap.size V3 w9 := hb38.trans (hO.from hb38.size (fun k hk => (XB.out k hk).1))
  have LA9 := LA0.below hb39
  have LR9 := LR0.below hb39
  clear XA8 XO8 GO8 GA8 hO hb38 kx0 kx1 HS8
  have hnn : ¬ (((1 + ps.length + ws.length : Nat) : Int) < 0) := by omega
  have kc0 : w9.cell? ⟨p5, 0, none⟩ = some (.slice a5 Gps.length c5) := GA9.2 0 (by simp)
  have kc1 : w9.cell? ⟨p5, 1, none⟩ = some (.slice b5 Gws.length d5) := GA9.2 1 (by simp)
  have ky0 : w9.cell? ⟨p3, 0, none⟩ = some (.slice a3 Gps.length c3) := LA9.2 0 (by simp)
  have ky1 : w9.cell? ⟨p3, 1, none⟩ = some (.slice b3 Gws.length d3) := LA9.2 1 (by simp)
  go_wp2_with fail
  refine (chip_eq GO9.rd LR9 hj0 hj1).mono ?_
  rintro e w10 ⟨rfl, hb10⟩
  have GO10 := GO9.below hb10
  have GA10 := GA9.below hb10
  have hb310 : Below V3.heap.size V3 w10 := hb39.trans (hb10.mono hb39.size)
  clear GO9 LR9 hb10 hb39 GA9 LA9 kc0 kc1 ky0 ky1
  have kc0 : w10.cell? ⟨p5, 0, none⟩ = some (.slice a5 Gps.length c5) := GA10.2 0 (by simp)
  have kc1 : w10.cell? ⟨p5, 1, none⟩ = some (.slice b5 Gws.length d5) := GA10.2 1 (by simp)
  go_wp2_with fail
  refine (chip_mark (q := 1) GO10 hj0 hj1 (by decide) (by decide)).mono ?_
  rintro e w11 ⟨rfl, GM, hO⟩
  have GA11 := GA10.only hO (fun hk' => GN.out _ hk' rfl)
  have hb311 : Below V3.heap.size V3 w11 := hb310.trans (hO.from hb310.size (fun k hk => by have := GB.out k hk; have := hb34.size; omega))
  clear GO10 hO hb310 GA10 kc0 kc1
  have kc0 : w11.cell? ⟨p5, 0, none⟩ = some (.slice a5 Gps.length c5) := GA11.2 0 (by simp)
  have kc1 : w11.cell? ⟨p5, 1, none⟩ = some (.slice b5 Gws.length d5) := GA11.2 1 (by simp)
  go_wp2_with fail
  refine (chip_held (q := 1) GM hj0 hj1 (by decide) (by decide)).mono ?_
  rintro e w12 ⟨rfl, hb12⟩
  have GM12 := GM.below hb12
  have GA12 := GA11.below hb12
  have hb312 : Below V3.heap.size V3 w12 := hb311.trans (hb12.mono hb311.size)
  have A12 := A3.below hb312
  have B12 := B3.below hb312
  have RC := RV.below hb312
  clear GM hb12 hb311 hnn GA11 kc0 kc1 A3 B3 RV
  have hnn : ¬ (((1 + Gps.length + Gws.length : Nat) : Int) < 0) := by omega
  have hq0 := A12.1
  have hq1 := B12.1
  have kc0 : w12.cell? ⟨w.heap.size, 0, none⟩ = some (.slice a ps.length c) := A12.2 0 (by simp)
  have kc1 : w12.cell? ⟨w.heap.size, 1, none⟩ = some (.slice b ws.length d) := A12.2 1 (by simp)
  have kb0 : w12.cell? ⟨w.heap.size + 1, 0, none⟩ = some (.int .i64 kind) := B12.2 0 (by simp)
  have kb1 : w12.cell? ⟨w.heap.size + 1, 1, none⟩ = some (.int .i64 at_) := B12.2 1 (by simp)
  have kb2 : w12.cell? ⟨w.heap.size + 1, 2, none⟩ = some (.string text) := B12.2 2 (by simp)
  have HT : Hid (∀ u, Below w12.heap.size w12 u → u.cell? ⟨w.heap.size, 0, none⟩ = some (.slice a ps.length c) ∧ u.cell? ⟨w.heap.size, 1, none⟩ = some (.slice b ws.length d) ∧ u.cell? ⟨w.heap.size + 1, 0, none⟩ = some (.int .i64 kind) ∧ u.cell? ⟨w.heap.size + 1, 1, none⟩ = some (.int .i64 at_) ∧ u.cell? ⟨w.heap.size + 1, 2, none⟩ = some (.string text)) := fun u hu => ⟨(A12.below hu).2 0 (by simp), (A12.below hu).2 1 (by simp), (B12.below hu).2 0 (by simp), (B12.below hu).2 1 (by simp), (B12.below hu).2 2 (by simp)⟩
  have HA : Hid (∀ u, Below w12.heap.size w12 u → Calls Try.prog 9 #[.agg #[.int .i64 kind, .int .i64 at_, .string text]] u fun e w' => e = .returned (.agg #[.int .i64 kind, .int .i64 at_, .string text]) ∧ Below u.heap.size u w' ∧ Below w12.heap.size w12 w') := fun u hu => (toAct_any kind at_ text u).mono fun e w' h => ⟨h.1, h.2, after hu h.2⟩
  have HC : Hid (∀ u, Below w12.heap.size w12 u → Calls Try.prog 8 #[.agg #[.slice a ps.length c, .slice b ws.length d]] u fun e w' => ∃ a c b d, e = .returned (.agg #[.slice a ps.length c, .slice b ws.length d]) ∧ ChipRd w' (.agg #[.slice a ps.length c, .slice b ws.length d]) ps ws ∧ Below u.heap.size u w' ∧ Below w12.heap.size w12 w') := by
    intro u hu; refine (chip_to (RC.below hu) hk0 hk1).mono ?_; rintro e w' ⟨v, rfl, hown, hb⟩; obtain ⟨a2, c2, b2, d2, rfl⟩ := hown.shape; exact ⟨_, _, _, _, rfl, hown.rd, hb, after hu hb⟩
  have HP : Hid (∀ u v, Below w12.heap.size w12 u → ChipRd u v ps ws → Calls Try.prog 10 #[v, .agg #[.int .i64 kind, .int .i64 at_, .string text]] u fun e w' => ∃ base a c b d, e = .returned (.tuple #[.agg #[.slice a Gps.length c, .slice b Gws.length d], .bool S1]) ∧ ChipOwn w' base (.agg #[.slice a Gps.length c, .slice b Gws.length d]) Gps Gws ∧ w12.heap.size ≤ base ∧ (∀ p, Z3 w12 u p → p < base) ∧ Below u.heap.size u w' ∧ Below w12.heap.size w12 w') := by
    intro u v hu hv; refine (HIM.out u v hv).mono ?_; rintro e w' ⟨v', rfl, hown, hb⟩; obtain ⟨a2, c2, b2, d2, rfl⟩ := hown.shape; exact ⟨_, _, _, _, _, rfl, hown, hu.size, fun p hp => hp.2.1, hb, after hu hb⟩
  go_upto_region 27 with fail
  go_cut [14, 15] (fun s t wx => Boxed w12 Gps Gws S1 s t wx)
  case first =>
    go_region_held (fun w' => w'.cell? ⟨w.heap.size, 0, none⟩ = some (.slice a ps.length c) ∧ w'.cell? ⟨w.heap.size, 1, none⟩ = some (.slice b ws.length d) ∧ w'.cell? ⟨w.heap.size + 1, 0, none⟩ = some (.int .i64 kind) ∧ w'.cell? ⟨w.heap.size + 1, 1, none⟩ = some (.int .i64 at_) ∧ w'.cell? ⟨w.heap.size + 1, 2, none⟩ = some (.string text)) (first | assumption | go_keep)
      ((first
        | (go_at_call 8; refine (HC.out _ ?_).mono ?_; (first | exact HB.out | exact HB.out.alloc HB.out.size _ | exact after_drew (Below.refl _ _) 1 | exact after_drew ((Below.refl _ _).alloc (Nat.le_refl _) _) 1); rintro e w7 ⟨a7, c7, b7, d7, rfl, hrd, hb, hB⟩; (first | (have HZ := hide (HZ.out.below hb)) | (have HZ := hide ((z3_new HB.out _).below hb)) | (have HZ := hide ((z3_drew _ _).below hb)) | skip); (first | (obtain ⟨⟨y0, y1, y2, y3⟩, -⟩ := HZ.out; have yn0 := HZ.out.ne hq0; have yn1 := HZ.out.ne hq1) | skip); have HB := hide hB; have HR := hide hrd; have hS := HT.out _ HB.out; clear hrd hb hB)
        | (go_at_call 9; refine (HA.out _ ?_).mono ?_; (first | exact HB.out | exact HB.out.alloc HB.out.size _ | exact after_drew (Below.refl _ _) 1 | exact after_drew ((Below.refl _ _).alloc (Nat.le_refl _) _) 1); rintro e w8 ⟨rfl, hb, hB⟩; (first | (have HZ := hide (HZ.out.below hb)) | (have HZ := hide ((z3_new HB.out _).below hb)) | (have HZ := hide ((z3_drew _ _).below hb)) | skip); (first | (obtain ⟨⟨y0, y1, y2, y3⟩, -⟩ := HZ.out; have yn0 := HZ.out.ne hq0; have yn1 := HZ.out.ne hq1) | skip); (first | (have HR := hide (HR.out.below hb)) | (have HR := hide (chipRd_al HR.out hb)) | skip); have HB := hide hB; have hS := HT.out _ HB.out; clear hb hB)
        | (go_at_call 10; refine (HP.out _ _ ?_ ?_).mono ?_; (first | exact HB.out | exact HB.out.alloc HB.out.size _ | exact after_drew (Below.refl _ _) 1 | exact after_drew ((Below.refl _ _).alloc (Nat.le_refl _) _) 1); (first | exact HR.out | exact HR.out.below ((Below.refl _ _).alloc (Nat.le_refl _) _)); rintro e w9 ⟨base, a9, c9, b9, d9, rfl, hown, hbase, hz, hb, hB⟩; (first | (have HQ := hide (hz _ HZ.out)) | (have HQ := hide (hz _ (z3_new HB.out _))) | (have HQ := hide (hz _ (z3_drew _ _))) | skip); (first | (have HZ := hide (HZ.out.below hb)) | (have HZ := hide ((z3_new HB.out _).below hb)) | (have HZ := hide ((z3_drew _ _).below hb)) | skip); (first | (obtain ⟨⟨y0, y1, y2, y3⟩, -⟩ := HZ.out; have yn0 := HZ.out.ne hq0; have yn1 := HZ.out.ne hq1) | skip); have HB := hide hB; have HO := hide hown; have HBA := hide hbase; have hS := HT.out _ HB.out; clear hown hbase hz hb hB)))
    all_goals (go_wp2_with fail; go_meet; first | exact boxed_late HB.out HO.out HBA.out | exact boxed_early HB.out HO.out HBA.out HZ.out HQ.out)
  case rest =>
  clear HT HA HP HC
  have hbx : Hid _ := hcut
  clear hcut
  clear kc0 kc1 kb0 kb1 kb2 hq0 hq1
  obtain ⟨p14, base14, a14, c14, b14, d14, rfl, rfl, -, -, HA14, HO14, -, hb14⟩ := hbx.out
  clear hbx
  have H14 := HO14.rd
  have GM14 := GM12.below hb14
  have GA14 := GA12.below hb14
  have hb314 : Below V3.heap.size V3 wc := hb312.trans (hb14.mono hb312.size)
  have LA14 := LA0.below hb314
  have LR14 := LR0.below hb314
  clear hb14 GM12 GA12 hb312 HO14
  have kc0 : wc.cell? ⟨p14, 0, none⟩ = some (.slice a14 Gps.length c14) := HA14.2 0 (by simp)
  have kc1 : wc.cell? ⟨p14, 1, none⟩ = some (.slice b14 Gws.length d14) := HA14.2 1 (by simp)
  have ky0 : wc.cell? ⟨p3, 0, none⟩ = some (.slice a3 Gps.length c3) := LA14.2 0 (by simp)
  have ky1 : wc.cell? ⟨p3, 1, none⟩ = some (.slice b3 Gws.length d3) := LA14.2 1 (by simp)
  go_wp2_with fail
  refine (chip_eq H14 LR14 hj0 hj1).mono ?_
  rintro e w15 ⟨rfl, hb15⟩
  have GM15 := GM14.below hb15
  have GA15 := GA14.below hb15
  have hb315 : Below V3.heap.size V3 w15 := hb314.trans (hb15.mono hb314.size)
  clear GM14 GA14 H14 HA14 LR14 LA14 hb15 hb314 kc0 kc1 ky0 ky1
  have kc0 : w15.cell? ⟨p5, 0, none⟩ = some (.slice a5 Gps.length c5) := GA15.2 0 (by simp)
  have kc1 : w15.cell? ⟨p5, 1, none⟩ = some (.slice b5 Gws.length d5) := GA15.2 1 (by simp)
  go_wp2_with fail
  refine (chip_held (q := 1) GM15 hj0 hj1 (by decide) (by decide)).mono ?_
  rintro e w16 ⟨rfl, hb16⟩
  have hfin : Below w.heap.size w w16 := after hbw3 (hb315.trans (hb16.mono hb315.size))
  clear GM15 hb16 hb315 LR0 GA15 LA0 kc0 kc1 HIM hb34 hbw3 A12 B12 RC
  go_wp2
  go_ret
  exact ⟨rfl, hfin⟩
  
set_option maxRecDepth 100000 in
theorem lifted (os : Os) (started : os.Started) (H : Type) (enc : TypeId × Value → H) :
    ReturnsInHanded {} Try.checked os 3 .any (Rows.fnExactApplySpec.pre6 enc Try.prog Try.f3 Rows.fnExactApplyRow.domain false) (Rows.fnExactApplySpec.post enc Try.prog Try.f3 false true false false) := by
  refine returnsInHanded_of_change (C := Try.checked) own started (by kernel_rfl) Try.func3
    (ChangeSpec.witness6 (enc := enc) (C := Try.checked) false ⟨#[], #[.agg #[.slice none 0 0, .slice none 0 0], .agg #[.int .i64 0, .int .i64 0, .string ⟨#[]⟩]], []⟩ 8 (by kernel_rfl) (by kernel_rfl) (by kernel_rfl) (by kernel_rfl)) ?_
  intro W base args ds gs before hval0 hW hcnd _
  have hval : ∀ (j : Nat) t v, Try.f3.params[j]? = some t → args[j]? = some v → Value.okWide Try.prog W .any base t v := hval0
  have hW' := hW
  obtain ⟨p, q, hA0, hV, rfl, hfz, hnd⟩ := hW
  have hA : DataW.TrodAll enc Try.prog W 0 (fun _ => true) true Try.f3.params.toList args.toList ds p := hA0
  rw [Try.params3] at hA hval
  obtain ⟨v0, vs0, d0, ds0, p0, q0, hargs, rfl, rfl, h0, r0⟩ := trodAll_cons hA
  obtain ⟨v1, vs1, d1, ds1, p1, q1, rfl, rfl, rfl, h1, r1⟩ := trodAll_cons r0
  obtain ⟨rfl, rfl, rfl⟩ := trodAll_nil r1
  obtain rfl : args = #[v0, v1] := by cases args; simp_all
  obtain ⟨rfl, rfl⟩ := trodVars_none hV
  have k0 := h0
  have k1 := h1
  have lt1 : ∀ x ∈ p1, x.block < W.heap.size := by obtain ⟨m, hm⟩ := k1; exact DataW.trod_lt m _ _ _ hm
  have lt0 : ∀ x ∈ p0, x.block < W.heap.size := by obtain ⟨m, hm⟩ := k0; exact DataW.trod_lt m _ _ _ hm
  obtain ⟨za, zp, zc, zb, zw, ze, rfl, hR, hl0, hl1, hs⟩ := chipRd_of (hval 0 25 v0 rfl rfl) h0
  obtain ⟨zk, zt, zx, rfl, hzx, -, -⟩ := act_of (hval 1 27 v1 rfl rfl) h1
  clear hA0 hval0
  refine (walk za zc zb ze zp zw zk zt zx W hR hl0 hl1 hs hzx).mono fun e W' ⟨he, bel⟩ => ?_
  subst he
  exact ⟨_, rfl, _, _, _, [], _, [], hW', trodAll_mk1 (shut_bool Try.underlying4 _), (trodAll_cons_mk (Below.trod laidOut (by kernel_rfl) (of_decide_eq_true (by kernel_rfl)) k0 bel lt0) (trodAll_cons_mk (Below.trod laidOut (by kernel_rfl) (of_decide_eq_true (by kernel_rfl)) k1 bel lt1) trodAll_mk0)), rfl, bel.frame _, fun h => by cases h⟩

theorem over : Rows.fnExactApplyRow.holds Try.pinned (OpenSpec.ofChange Rows.fnExactApplySpec) :=
  OpenClaim.holds_of_wide 3 Try.f3 rfl rfl rfl rfl rfl rfl rfl ⟨rfl, rfl, rfl, rfl, rfl⟩ rfl rfl rfl rfl rfl (by kernel_rfl) Try.func3 (by kernel_rfl)
    (of_decide_eq_true (by kernel_rfl)) (by unfold Func.isWrapper; first | (rw [if_pos (by decide +kernel)]; kernel_rfl) | (rw [if_neg (by decide +kernel)]; exact ⟨rfl, rfl⟩))
    (fun os started H enc _ => lifted os started H enc)

end Go.Proofs.Ytghadfbpcbcpiaa.fnExactApply

namespace Go.Proofs.Ytghadfbpcbcpiaa
theorem fnExactApply_holds : Rows.FnExactApplySaid := fnExactApply.over
#print axioms fnExactApply_holds
end Go.Proofs.Ytghadfbpcbcpiaa
