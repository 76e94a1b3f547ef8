/-
  Contract of the specification's l4Copy.
  Contracts of the specification's l5Room, l5Done.
  Contract of the program's (*writing).write: a scope with two labels.
  Contract of the specification's Plan.
-/
import Derived.Test.YtghadfbpcbcpiaaGreatK14
import Derived.Test.YtghadfbpcbcpiaaGreatK23
import Derived.Test.YtghadfbpcbcpiaaGreatK19
import Derived.Deep.DeepCutAuto
import Derived.WalkMore
import Derived.ScopeJumps
import Derived.Test.YtghadfbpcbcpiaaGreatK7
namespace Go.Proofs.YtghadfbpcbcpiaaGreat
open Go.RowKit
attribute [local go_sem ↓] Go.wp_at_zero Go.wp_at_succ

theorem copy4_fin {w W wB : World} {b b' gA kA gA' kA' gB kB L : Nat} {ps : List ByteArray} {ws ms : List Int} {q : Int} (hsW : w.heap.size + 1 < W.heap.size) (hBW : Below w.heap.size w W) (hBB : Below W.heap.size W wB)
    (hA : ChipOwn wB b (.agg #[.slice (some ⟨gA, 0, none⟩) ps.length kA, .slice (some ⟨gA', 0, none⟩) ws.length kA']) ps ws) (hb : W.heap.size ≤ b) (hO : wB.ownsRow b' 3 1 (.slice (some ⟨gB, 0, none⟩) L kB) L (vsInt ms)) (hb' : W.heap.size ≤ b') (hL : L = ms.length) (n1 : gA ≠ gB) (n2 : gA' ≠ gB) (y0 y1 y2 y3 : Value) :
    FtlOwn ((((wB.setCell ⟨w.heap.size + 1, 0, none⟩ y0).setCell ⟨w.heap.size + 1, 1, none⟩ y1).setCell ⟨w.heap.size + 1, 2, none⟩ y2).setCell ⟨w.heap.size + 1, 3, none⟩ y3) w.heap.size (.agg #[.slice (some ⟨gA, 0, none⟩) ps.length kA, .slice (some ⟨gA', 0, none⟩) ws.length kA', .slice (some ⟨gB, 0, none⟩) L kB, .int .i64 q]) ps ws ms q ∧
      Below w.heap.size w ((((wB.setCell ⟨w.heap.size + 1, 0, none⟩ y0).setCell ⟨w.heap.size + 1, 1, none⟩ y1).setCell ⟨w.heap.size + 1, 2, none⟩ y2).setCell ⟨w.heap.size + 1, 3, none⟩ y3) := by
  obtain ⟨v1, v2, hv, h1, h2, hne⟩ := hA
  simp only [Value.agg.injEq, Array.mk.injEq, List.cons.injEq, and_true] at hv
  obtain ⟨rfl, rfl⟩ := hv
  subst hL
  have q1 : w.heap.size + 1 < b := by omega
  have q2 : w.heap.size + 1 < b' := by omega
  refine ⟨⟨_, _, _, rfl, ?_, ?_, ?_, hne, ?_, ?_⟩, ((((after hBW hBB).setCell (by show _ ≤ _; simp) _).setCell (by show _ ≤ _; simp) _).setCell (by show _ ≤ _; simp) _).setCell (by show _ ≤ _; simp) _⟩
  · exact owns_mono (ownsRow_setCell_below (ownsRow_setCell_below (ownsRow_setCell_below (ownsRow_setCell_below h1 q1 _) q1 _) q1 _) q1 _) (by omega)
  · exact owns_mono (ownsRow_setCell_below (ownsRow_setCell_below (ownsRow_setCell_below (ownsRow_setCell_below h2 q1 _) q1 _) q1 _) q1 _) (by omega)
  · exact owns_mono (ownsRow_setCell_below (ownsRow_setCell_below (ownsRow_setCell_below (ownsRow_setCell_below hO q2 _) q2 _) q2 _) q2 _) (by omega)
  · intro q hq; simp [Value.ownBlock] at hq ⊢; omega
  · intro q hq; simp [Value.ownBlock] at hq ⊢; omega

set_option maxRecDepth 100000 in
set_option maxHeartbeats 1600000 in
theorem copy4_any (a b e0 : Option Addr) (ps : List ByteArray) (ws ms : List Int) (c d f : Nat) (q : Int) (w : World) (hp : Rd w a (vsString ps)) (hw : Rd w b (vsInt ws)) (hms : Rd w e0 (vsInt ms)) (hl : ps.length = 60) (hm : ws.length = 10) (hn : ms.length = 26) :
    Calls Tryz.prog 17 #[.agg #[.slice a ps.length c, .slice b ws.length d, .slice e0 ms.length f, .int .i64 q]] w fun e w' => ∃ v, e = .returned v ∧ FtlOwn w' w.heap.size v ps ws ms q ∧ Below w.heap.size w w' := by
  obtain ⟨i2, hi2, hz0, hz1, hz2⟩ := info_parts infoInt
  obtain ⟨N, hN⟩ : ∃ N, N = ps.length := ⟨_, rfl⟩
  obtain ⟨M, hM⟩ : ∃ M, M = ws.length := ⟨_, rfl⟩
  obtain ⟨L, hL⟩ : ∃ L, L = ms.length := ⟨_, rfl⟩
  obtain ⟨b1, o1, rfl, -⟩ := rd_at (k := 0) hp (by simp; omega)
  obtain ⟨b2, o2, rfl, -⟩ := rd_at (k := 0) hw (by simp; omega)
  obtain ⟨b3, o3, rfl, -⟩ := rd_at (k := 0) hms (by simp; omega)
  rw [← hN, ← hM, ← hL]
  have HN : Hid (N = ps.length ∧ M = ws.length ∧ L = ms.length ∧ N = 60 ∧ M = 10 ∧ L = 26) := ⟨hN, hM, hL, by omega, by omega, by omega⟩
  have hL0 : 0 < L := by omega
  have hL1 : L ≤ 100 := by omega
  have hps0 : 0 < ps.length := by omega
  have hws0 : 0 < ws.length := by omega
  obtain ⟨A, hA⟩ : ∃ A, A = w.alloc (Obj.cells #[.slice (some ⟨b1, o1, none⟩) N c, .slice (some ⟨b2, o2, none⟩) M d, .slice (some ⟨b3, o3, none⟩) L f, .int .i64 q] 32) := ⟨_, rfl⟩
  obtain ⟨W, hW⟩ : ∃ W, W = A.alloc (Obj.cells #[.slice none 0 0, .slice none 0 0, .slice none 0 0, .int .i64 0] 32) := ⟨_, rfl⟩
  have hsA : A.heap.size = w.heap.size + 1 := by rw [hA]; simp
  have hb0 : Below w.heap.size w A := by rw [hA]; exact (Below.refl _ _).alloc (Nat.le_refl _) _
  have hb1 : Below A.heap.size A W := by rw [hW]; exact (Below.refl _ _).alloc (Nat.le_refl _) _
  have hbW := after hb0 hb1
  have k0 : C4 W w.heap.size (.slice (some ⟨b1, o1, none⟩) N c) (.slice (some ⟨b2, o2, none⟩) M d) (.slice (some ⟨b3, o3, none⟩) L f) (.int .i64 q) := by
    have : C4 A w.heap.size (.slice (some ⟨b1, o1, none⟩) N c) (.slice (some ⟨b2, o2, none⟩) M d) (.slice (some ⟨b3, o3, none⟩) L f) (.int .i64 q) := by rw [hA]; exact c4_new _ _ _ _ _ _
    exact this.below hb1
  have k1 : C4 W (w.heap.size + 1) (.slice none 0 0) (.slice none 0 0) (.slice none 0 0) (.int .i64 0) := by
    have : C4 W A.heap.size (.slice none 0 0) (.slice none 0 0) (.slice none 0 0) (.int .i64 0) := by rw [hW]; exact c4_new _ _ _ _ _ _
    rw [hsA] at this
    exact this
  have HY : Hid (∀ u, Below W.heap.size W u → (u.cell? ⟨w.heap.size, 0, none⟩ = some (.slice (some ⟨b1, o1, none⟩) N c) ∧ u.cell? ⟨w.heap.size, 1, none⟩ = some (.slice (some ⟨b2, o2, none⟩) M d) ∧ u.cell? ⟨w.heap.size, 2, none⟩ = some (.slice (some ⟨b3, o3, none⟩) L f) ∧ u.cell? ⟨w.heap.size, 3, none⟩ = some (.int .i64 q)) ∧
      (u.cell? ⟨w.heap.size + 1, 0, none⟩ = some (.slice none 0 0) ∧ u.cell? ⟨w.heap.size + 1, 1, none⟩ = some (.slice none 0 0) ∧ u.cell? ⟨w.heap.size + 1, 2, none⟩ = some (.slice none 0 0) ∧ u.cell? ⟨w.heap.size + 1, 3, none⟩ = some (.int .i64 0)) ∧ u.frozen? ⟨w.heap.size + 1, 0, none⟩ = false ∧ u.frozen? ⟨w.heap.size + 1, 1, none⟩ = false ∧ u.frozen? ⟨w.heap.size + 1, 2, none⟩ = false ∧ u.frozen? ⟨w.heap.size + 1, 3, none⟩ = false) :=
    fun u hu => ⟨(k0.below hu).1, (k1.below hu).1, (k1.below hu).2 0, (k1.below hu).2 1, (k1.below hu).2 2, (k1.below hu).2 3⟩
  have HCM : Hid (∀ w', Below W.heap.size W w' → Hid (∀ j u, (vsInt ms)[j]? = some u → w'.cell? ((⟨b3, o3, none⟩ : Addr).add j) = some u)) := by
    intro w' hb j u hu
    rcases (hms.below hbW).below hb with h | ⟨b, o, he, hc⟩
    · rw [h] at hu; simp at hu
    · simp at he; obtain ⟨rfl, rfl⟩ := he; rw [add_at]; exact hc j u hu
  have HCP : Hid (∀ u, Below W.heap.size W u → Calls Tryz.prog 39 #[.agg #[.slice (some ⟨b1, o1, none⟩) N c, .slice (some ⟨b2, o2, none⟩) M d]] u fun e w' => ∃ v, e = .returned v ∧ ChipOwn w' u.heap.size v ps ws ∧ Below u.heap.size u w') := by
    intro u hu
    rw [hN, hM]
    exact copy_any _ _ ps ws c d u ((hp.below hbW).below hu) ((hw.below hbW).below hu) hl hm
  have hlw : Hid ((vsInt ms).length = L * 1) := by show _ = _; simp [hL]
  have hdr : Below W.heap.size W W.drew := after_drew (Below.refl _ _) 1
  have HAL : Hid (Below W.heap.size W (W.alloc (Obj.cells #[] 3)).drew) := after_drew ((Below.refl _ _).alloc (Nat.le_refl _) _) 1
  have hsW : w.heap.size + 1 < W.heap.size := k1.lt
  have hne1 : ¬ w.heap.size = W.heap.size := by omega
  obtain ⟨⟨x0, x1, x2, x3⟩, -⟩ := id k0
  have HBW := hide hbW
  clear hp hw hms hN hM hL hl hm hn hb0 hb1 hbW hsA k0 k1
  go_enter Tryz.func17, Tryz.ntmps17
  go_wp2_with fail
  rw [← hA]
  rw [← hW]
  clear hA hW
  go_region_held_law (fun w' => w'.cell? ⟨w.heap.size, 0, none⟩ = some (.slice (some ⟨b1, o1, none⟩) N c) ∧ w'.cell? ⟨w.heap.size, 1, none⟩ = some (.slice (some ⟨b2, o2, none⟩) M d) ∧ w'.cell? ⟨w.heap.size, 2, none⟩ = some (.slice (some ⟨b3, o3, none⟩) L f) ∧ w'.cell? ⟨w.heap.size, 3, none⟩ = some (.int .i64 q))
    (first | assumption | go_keep)
    ((first
      | (refine step_append_grows (by rfl) (.tmp 6) (.tmp 8) 23 (by rfl) 3 i2 (.int .i64 0) 1 8 Tryz.underlying23 hi2 hz0 hz1 hz2 rfl (by decide) _ 0 0 [] (by rfl) (by simp) (by simp) (by simp) ⟨b3, o3, none⟩ L f (vsInt ms) (by rfl) hlw.out ((HCM.out wA HBA.out).out) (by intro u hu; simp at hu; obtain ⟨x, -, rfl⟩ := hu; rfl) (by omega) (by unfold maxLen; omega) (by omega) ?_; intro vB wB hoB hgB; have hbB := (Below.refl _ _).grown hgB (Nat.le_refl _) (by simp); have HBB : Hid (Below W.heap.size W wB) := after HBA.out hbB; simp only [Nat.zero_add, List.nil_append] at hoB; obtain ⟨gB, kB, hvB, hlB, hgB'⟩ := owns_form hoB hL0; subst hvB; have hSB := (HY.out wB HBB.out).1; obtain ⟨-, ⟨r0, r1, r2, r3⟩, rf0, rf1, rf2, rf3⟩ := HY.out wB HBB.out; have HOB := hide hoB; have HbB := hide hbB; clear hoB hgB hbB)
      | (refine step_append_grows (by rfl) (.tmp 6) (.tmp 8) 23 (by rfl) 3 i2 (.int .i64 0) 1 8 Tryz.underlying23 hi2 hz0 hz1 hz2 rfl (by decide) _ 0 0 [] (by rfl) (by simp) (by simp) (by simp) ⟨b3, o3, none⟩ L f (vsInt ms) (by rfl) hlw.out ((HCM.out (wA.alloc (Obj.cells #[] 3)) (after HBA.out ((Below.refl _ _).alloc (Nat.le_refl _) _))).out) (by intro u hu; simp at hu; obtain ⟨x, -, rfl⟩ := hu; rfl) (by omega) (by unfold maxLen; omega) (by omega) ?_; intro vB wB hoB hgB; have hbB := (Below.refl _ _).grown hgB (Nat.le_refl _) (by simp); have HBB : Hid (Below W.heap.size W wB) := after (after HBA.out ((Below.refl _ _).alloc (Nat.le_refl _) _)) hbB; simp only [Nat.zero_add, List.nil_append] at hoB; obtain ⟨gB, kB, hvB, hlB, hgB'⟩ := owns_form hoB hL0; subst hvB; have hSB := (HY.out wB HBB.out).1; obtain ⟨-, ⟨r0, r1, r2, r3⟩, rf0, rf1, rf2, rf3⟩ := HY.out wB HBB.out; have HOB := hide hoB; have HbB := hide hbB; clear hoB hgB hbB)
      | (go_at_call 39; refine (HCP.out W.drew hdr).mono ?_; rintro e wA ⟨v, rfl, hownA, hbA⟩; obtain ⟨gA, kA, gA', kA', hvA, -, -, hneA, hgA1, hgA2, hgA3, hgA4⟩ := own_form hownA hps0 hws0; subst hvA; have HBA : Hid (Below W.heap.size W wA) := after hdr hbA; have hSA := (HY.out wA HBA.out).1; have HOA := hide hownA; clear hownA hbA)
      | (go_at_call 39; refine (HCP.out (W.alloc (Obj.cells #[] 3)).drew HAL.out).mono ?_; rintro e wA ⟨v, rfl, hownA, hbA⟩; obtain ⟨gA, kA, gA', kA', hvA, -, -, hneA, hgA1, hgA2, hgA3, hgA4⟩ := own_form hownA hps0 hws0; subst hvA; have HBA : Hid (Below W.heap.size W wA) := after HAL.out hbA; have hSA := (HY.out wA HBA.out).1; have HOA := hide hownA; clear hownA hbA)))
  all_goals clear HY HCM HCP
  all_goals go_wp2
  all_goals
    have fin := copy4_fin (q := q) hsW HBW.out HBB.out (own_below HOA.out (by first | exact HbB.out | exact after ((Below.refl _ _).alloc (Nat.le_refl _) _) HbB.out)) (by simp) HOB.out (by have := HBA.out.size; simp; omega) HN.out.2.2.1 (by first | omega | (simp at hlB; omega)) (by first | omega | (simp at hlB; omega)) (.slice (some ⟨gA, 0, none⟩) ps.length kA) (.slice (some ⟨gA', 0, none⟩) ws.length kA') (.slice (some ⟨gB, 0, none⟩) L kB) (.int .i64 q)
    exact bodyPost_ret (v := .agg #[.slice (some ⟨gA, 0, none⟩) ps.length kA, .slice (some ⟨gA', 0, none⟩) ws.length kA', .slice (some ⟨gB, 0, none⟩) L kB, .int .i64 q]) (by simp [results, Tryz.results17, go_sem, r0, r1, r2, r3]) rfl ⟨_, rfl, fin⟩

end Go.Proofs.YtghadfbpcbcpiaaGreat

namespace Go.Proofs.YtghadfbpcbcpiaaGreat
open Go.RowKit

theorem ftlOk_of {ps : List ByteArray} {ws : List Int} (h : chipOkP ps ws) : ftlOkB ps ws (mMap ps) (mSeq ps) = true := by simp [ftlOkB, chipOkB_true h]
theorem set4_keep {w1 : World} {B x j : Nat} {v a b c d : Value} (h : w1.cell? ⟨x, j, none⟩ = some v) (hne : B ≠ x) : ((((w1.setCell ⟨B, 0, none⟩ a).setCell ⟨B, 1, none⟩ b).setCell ⟨B, 2, none⟩ c).setCell ⟨B, 3, none⟩ d).cell? ⟨x, j, none⟩ = some v :=
  cell_other (cell_other (cell_other (cell_other h hne) hne) hne) hne
theorem openB_bd (ps : List ByteArray) (ws : List Int) : -1 ≤ openB ps ws ∧ openB ps ws ≤ 9 := by
  have := nextP_bd ps ws
  unfold openB
  split <;> omega
/-- The state of the loop that makes room. -/
def RMs (wr : World) (P base : Nat) (R : Option (List ByteArray × List Int × List (Int × Int × ByteArray))) (k : Nat) : Prop :=
  (∃ ps ws cs, Work wr P base ps ws (mMap ps) (mSeq ps) cs true ∧ chipOkP ps ws ∧ pRoom (10 - k) ps ws cs = R ∧ cs.length ≤ 157 * k) ∨ (R = none ∧ Failed wr P base)
theorem pRoom_enough {n : Nat} {ps : List ByteArray} {ws : List Int} {cs : List (Int × Int × ByteArray)} (h : pEnough ps ws) : pRoom (n + 1) ps ws cs = some (ps, ws, cs) := by simp only [pRoom]; rw [if_pos h]
theorem pRoom_noworst {n : Nat} {ps : List ByteArray} {ws : List Int} {cs : List (Int × Int × ByteArray)} (h : ¬ pEnough ps ws) (h2 : worstB ps ws (mMap ps) < 0) : pRoom (n + 1) ps ws cs = none := by simp only [pRoom]; rw [if_neg h, if_pos h2]
theorem pRoom_clean {n b : Nat} {ps : List ByteArray} {ws : List Int} {cs : List (Int × Int × ByteArray)} (h : ¬ pEnough ps ws) (h2 : worstB ps ws (mMap ps) = (b : Int)) : pRoom (n + 1) ps ws cs = match pClean b ps ws cs with | none => none | some r => pRoom n r.1 r.2.1 r.2.2 := by
  simp only [pRoom]; rw [if_neg h, if_neg (by omega), h2, Int.toNat_natCast]; rfl

set_option maxRecDepth 100000 in
set_option maxHeartbeats 12800000 in
theorem room5_any (P base : Nat) (ps : List ByteArray) (ws : List Int) (w : World) (hW : Work w P base ps ws (mMap ps) (mSeq ps) [] true) (hok : chipOkP ps ws) :
    Calls Tryz.prog 19 #[.pointer (some ⟨P, 0, none⟩)] w fun e w' => e = .returned (.tuple #[]) ∧ Below base w w' ∧
      (∀ r, pRoom 10 ps ws [] = some r → Work w' P base r.1 r.2.1 (mMap r.1) (mSeq r.1) r.2.2 true) ∧ (pRoom 10 ps ws [] = none → Failed w' P base) := by
  obtain ⟨R, hR⟩ : ∃ R, R = pRoom 10 ps ws [] := ⟨_, rfl⟩
  have HW := hide hW
  have HOK := hide hok
  have HR := hide hR
  rw [← hR]
  clear hW hok hR
  go_enter Tryz.func19, Tryz.ntmps19
  go_wp2_with fail
  go_loopw [2] (fun i wr => ∃ k : Nat, k ≤ 10 ∧ i = .int .i64 k ∧ Hid (RMs wr P base R k) ∧ Hid (Below base w wr)) (fun i _ => 10 - (intOf i).toNat)
  case atStart => exact ⟨0, by omega, rfl, .inl ⟨ps, ws, [], HW.out, HOK.out, HR.out.symm, by simp⟩, Below.refl _ _⟩
  case round =>
    obtain ⟨k, hk, rfl, hst, hbr⟩ := hrel
    rcases hst.out with ⟨pk, wk, ck, hw, hok, hrm, hck⟩ | ⟨hRn, v4, k4, c5, hw⟩
    · obtain ⟨g1, k1, g2, k2, g3, k3, v4, k4, hw⟩ := hw
      obtain ⟨⟨c0, c1, c2, c3, c4, c5⟩, fz⟩ := hw.cells
      have HWK := hide hw
      have HOKk := hide hok
      have HRM := hide hrm
      have HCK := hide hck
      clear hst hw hok hrm hck
      by_cases hlt : k < 10
      · have t1 : decide ((k : Int) < 10) = true := by simp; omega
        have HRM : Hid (pRoom ((9 - k) + 1) pk wk ck = R) := by rw [show 9 - k + 1 = 10 - k by omega]; exact HRM
        have HFB := hide (specFree_ok (some ⟨g1, 0, none⟩) (some ⟨g2, 0, none⟩) pk wk k1 k2 wr HWK.out.rd.1 HWK.out.rd.2.1 HOKk.out)
        obtain ⟨n, hn⟩ : ∃ n, n = (freeB pk 10).length := ⟨_, rfl⟩
        have hn10 : n ≤ 10 := by rw [hn]; exact freeB_len pk 10
        rw [← hn] at HFB
        have HEN : Hid (pEnough pk wk ↔ (2 < n ∨ (n = 2 ∧ 0 ≤ openB pk wk))) := by show _ ↔ _; rw [hn]; exact Iff.rfl
        have HOP : Hid (∀ u, Below wr.heap.size wr u → Calls Tryz.prog 42 #[.agg #[.slice (some ⟨g1, 0, none⟩) pk.length k1, .slice (some ⟨g2, 0, none⟩) wk.length k2]] u fun e w' => e = .returned (.int .i64 (openB pk wk)) ∧ Below u.heap.size u w') := fun u hu =>
          open_any _ _ pk wk k1 k2 u (HWK.out.below hu).rd.1 (HWK.out.below hu).rd.2.1 HOKk.out.1 HOKk.out.2.1
        have HWO : Hid (∀ u, Below wr.heap.size wr u → Calls Tryz.prog 43 #[.agg #[.slice (some ⟨g1, 0, none⟩) pk.length k1, .slice (some ⟨g2, 0, none⟩) wk.length k2, .slice (some ⟨g3, 0, none⟩) (mMap pk).length k3, .int .i64 (mSeq pk)]] u fun e w' => e = .returned (.int .i64 (worstB pk wk (mMap pk))) ∧ Below u.heap.size u w') := fun u hu =>
          specWorst_ok _ _ _ pk wk (mMap pk) k1 k2 k3 (mSeq pk) u (HWK.out.below hu).rd.1 (HWK.out.below hu).rd.2.1 (HWK.out.below hu).rd.2.2 (ftlOk_of HOKk.out)
        clear hn
        go_wp2_with fail
        refine HFB.out.mono ?_
        rintro e w1 ⟨v, rfl, hown, hb1⟩
        obtain ⟨a1, c1', rfl⟩ := owns_shape hown
        have HW1 := hide (HWK.out.below hb1)
        have HB1 := hide hb1
        clear hown hb1 HFB c0 c1 c2 c3 c4 c5 fz
        obtain ⟨⟨c0, c1, c2, c3, c4, c5⟩, fz⟩ := HW1.out.cells
        have HBF : Hid (∀ u, Below wr.heap.size wr u → Below base w u) := fun u hu => hbr.out.trans (hu.mono HWK.out.lt.2.2)
        have REST : Hid (¬ pEnough pk wk → ∀ u, Below wr.heap.size wr u → Hid (Below wr.heap.size wr u) ∧ Hid (WorkAt u P base g1 k1 g2 k2 g3 k3 v4 k4 pk wk (mMap pk) (mSeq pk) ck true)) := fun _ u hu => ⟨hu, HWK.out.below hu⟩
        by_cases hn2 : 2 < n
        · have t2 : decide ((2 : Int) < (n : Int)) = true := by simp; omega
          have HY : Hid (R = some (pk, wk, ck)) := by show _ = _; rw [← HRM.out]; exact pRoom_enough (HEN.out.2 (.inl hn2))
          go_wp2
          exact bodyPost_ret (v := .tuple #[]) (results_none Tryz.results19 _ _ _) rfl ⟨rfl, HBF.out _ HB1.out, yes_some HY.out ⟨_, _, _, _, _, _, _, _, HW1.out⟩, not_none HY.out⟩
        · have t2 : decide ((2 : Int) < (n : Int)) = false := by simp; omega
          by_cases he2 : n = 2
          · subst he2
            have HNO := hide (openB_bd pk wk)
            go_wp2_with fail
            refine (HOP.out _ HB1.out).mono ?_
            rintro e w2 ⟨rfl, hb2⟩
            have HB2 := hide (after HB1.out hb2)
            have HW2 := hide (HWK.out.below HB2.out)
            clear hb2 HB1 HW1 c0 c1 c2 c3 c4 c5 fz
            obtain ⟨⟨c0, c1, c2, c3, c4, c5⟩, fz⟩ := HW2.out.cells
            obtain ⟨O, hO⟩ : ∃ O, O = openB pk wk := ⟨_, rfl⟩
            have HOE := hide hO
            rw [← hO]
            clear hO
            by_cases h0 : 0 ≤ O
            · have t3 : decide ((0 : Int) ≤ O) = true := by simpa using h0
              have HY : Hid (R = some (pk, wk, ck)) := by show _ = _; rw [← HRM.out]; exact pRoom_enough (HEN.out.2 (.inr ⟨by trivial, by rw [← HOE.out]; exact h0⟩))
              go_wp2
              exact bodyPost_ret (v := .tuple #[]) (results_none Tryz.results19 _ _ _) rfl ⟨rfl, HBF.out _ HB2.out, yes_some HY.out ⟨_, _, _, _, _, _, _, _, HW2.out⟩, not_none HY.out⟩
            · have t3 : decide ((0 : Int) ≤ O) = false := by simpa using h0
              have HNE : Hid (¬ pEnough pk wk) := fun h => by rcases HEN.out.1 h with h | ⟨_, h⟩; omega; rw [← HOE.out] at h; exact h0 h
              go_wp2_with fail
              refine (HWO.out _ HB2.out).mono ?_
              rintro e w3 ⟨rfl, hb3⟩
              have HB3 := hide (after HB2.out hb3)
              have HW3 := hide (HWK.out.below HB3.out)
              clear hb3 HWO HOP c0 c1 c2 c3 c4 c5 fz HB2
              obtain ⟨⟨c0, c1, c2, c3, c4, c5⟩, fz⟩ := HW3.out.cells
              have fz5 := fz 5
              obtain ⟨B, hB⟩ : ∃ B, B = worstB pk wk (mMap pk) := ⟨_, rfl⟩
              have HBE := hide hB
              rw [← hB]
              clear hB
              by_cases hneg : B < 0
              · have HRN : Hid (R = none) := by show _ = _; rw [← HRM.out]; exact pRoom_noworst HNE.out (by rw [← HBE.out]; exact hneg)
                have t9 : decide (B < 0) = true := by simpa using hneg
                have h5 := HW3.out.flag false
                have HZ : Hid (Below base w (w3.setCell ⟨P, 5, none⟩ (.bool false)) ∧ Failed (w3.setCell ⟨P, 5, none⟩ (.bool false)) P base) := ⟨(HBF.out _ HB3.out).trans h5.2, _, _, _, h5.1.acts⟩
                clear h5
                go_wp2
                exact bodyPost_ret (v := .tuple #[]) (results_none Tryz.results19 _ _ _) rfl ⟨rfl, HZ.out.1, no_some HRN.out, fun _ => HZ.out.2⟩
              · obtain ⟨b, rfl⟩ : ∃ b : Nat, B = b := ⟨B.toNat, by omega⟩
                have t9 : decide ((b : Int) < 0) = false := by simp
                have HRC := hide ((pRoom_clean (n := 9 - k) (cs := ck) HNE.out HBE.out.symm).symm.trans HRM.out)
                have HCL := hide (clean5_any P base b pk wk ck w3 ⟨_, _, _, _, _, _, _, _, HW3.out⟩ HOKk.out (worst_used HOKk.out.1 HBE.out.symm).1 (by have := HCK.out; omega))
                go_wp2_with fail
                refine HCL.out.mono ?_
                rintro e w4 ⟨rfl, hb4, hy, hn⟩
                have HB4 : Hid (Below base w w4) := (HBF.out _ HB3.out).trans hb4
                have HS4 : Hid (RMs w4 P base R (k + 1)) := by
                  cases hb : pClean b pk wk ck with
                  | none =>
                    rw [hb] at HRC
                    exact .inr ⟨HRC.out.symm, hn hb⟩
                  | some r =>
                    rw [hb] at HRC
                    have hri := pClean_right HOKk.out hb
                    exact .inl ⟨_, _, _, hy r hb, hri.1, by rw [show 10 - (k + 1) = 9 - k by omega]; exact HRC.out, by have := HCK.out; omega⟩
                clear hb4 hy hn HCL HRC c0 c1 c2 c3 c4 c5 fz5 fz
                go_wp2
                exact ⟨⟨k + 1, by omega, by go_num, HS4, HB4⟩, by simp [intOf]; omega⟩
          · have t3 : ((n : Int) == 2) = false := by simp; omega
            have HNE : Hid (¬ pEnough pk wk) := fun h => by rcases HEN.out.1 h with h | ⟨h, _⟩; omega; exact he2 h
            go_wp2_with fail
            refine (HWO.out _ HB1.out).mono ?_
            rintro e w3 ⟨rfl, hb3⟩
            have HB3 := hide (after HB1.out hb3)
            have HW3 := hide (HWK.out.below HB3.out)
            clear hb3 HWO HOP c0 c1 c2 c3 c4 c5 fz HB1
            obtain ⟨⟨c0, c1, c2, c3, c4, c5⟩, fz⟩ := HW3.out.cells
            have fz5 := fz 5
            obtain ⟨B, hB⟩ : ∃ B, B = worstB pk wk (mMap pk) := ⟨_, rfl⟩
            have HBE := hide hB
            rw [← hB]
            clear hB
            by_cases hneg : B < 0
            · have HRN : Hid (R = none) := by show _ = _; rw [← HRM.out]; exact pRoom_noworst HNE.out (by rw [← HBE.out]; exact hneg)
              have t9 : decide (B < 0) = true := by simpa using hneg
              have h5 := HW3.out.flag false
              have HZ : Hid (Below base w (w3.setCell ⟨P, 5, none⟩ (.bool false)) ∧ Failed (w3.setCell ⟨P, 5, none⟩ (.bool false)) P base) := ⟨(HBF.out _ HB3.out).trans h5.2, _, _, _, h5.1.acts⟩
              clear h5
              go_wp2
              exact bodyPost_ret (v := .tuple #[]) (results_none Tryz.results19 _ _ _) rfl ⟨rfl, HZ.out.1, no_some HRN.out, fun _ => HZ.out.2⟩
            · obtain ⟨b, rfl⟩ : ∃ b : Nat, B = b := ⟨B.toNat, by omega⟩
              have t9 : decide ((b : Int) < 0) = false := by simp
              have HRC := hide ((pRoom_clean (n := 9 - k) (cs := ck) HNE.out HBE.out.symm).symm.trans HRM.out)
              have HCL := hide (clean5_any P base b pk wk ck w3 ⟨_, _, _, _, _, _, _, _, HW3.out⟩ HOKk.out (worst_used HOKk.out.1 HBE.out.symm).1 (by have := HCK.out; omega))
              go_wp2_with fail
              refine HCL.out.mono ?_
              rintro e w4 ⟨rfl, hb4, hy, hn⟩
              have HB4 : Hid (Below base w w4) := (HBF.out _ HB3.out).trans hb4
              have HS4 : Hid (RMs w4 P base R (k + 1)) := by
                cases hb : pClean b pk wk ck with
                | none =>
                  rw [hb] at HRC
                  exact .inr ⟨HRC.out.symm, hn hb⟩
                | some r =>
                  rw [hb] at HRC
                  have hri := pClean_right HOKk.out hb
                  exact .inl ⟨_, _, _, hy r hb, hri.1, by rw [show 10 - (k + 1) = 9 - k by omega]; exact HRC.out, by have := HCK.out; omega⟩
              clear hb4 hy hn HCL HRC c0 c1 c2 c3 c4 c5 fz5 fz
              go_wp2
              exact ⟨⟨k + 1, by omega, by go_num, HS4, HB4⟩, by simp [intOf]; omega⟩
      · obtain rfl : k = 10 := by omega
        have HY : Hid (R = some (pk, wk, ck)) := by show _ = _; rw [← HRM.out]; rfl
        go_wp2
        exact bodyPost_end (v := .tuple #[]) (results_none Tryz.results19 _ _ _) rfl ⟨rfl, hbr.out, yes_some HY.out ⟨_, _, _, _, _, _, _, _, HWK.out⟩, not_none HY.out⟩
    · obtain ⟨-, c4, c5, -, -⟩ := hw.cells
      have HZ : Hid (Failed wr P base) := ⟨_, _, _, hw⟩
      have HRN := hide hRn
      clear hst hw hRn
      by_cases hlt : k < 10
      · have t1 : decide ((k : Int) < 10) = true := by simp; omega
        go_wp2
        exact bodyPost_end (v := .tuple #[]) (results_none Tryz.results19 _ _ _) rfl ⟨rfl, hbr.out, no_some HRN.out, fun _ => HZ.out⟩
      · have t1 : decide ((k : Int) < 10) = false := by simp; omega
        go_wp2
        exact bodyPost_end (v := .tuple #[]) (results_none Tryz.results19 _ _ _) rfl ⟨rfl, hbr.out, no_some HRN.out, fun _ => HZ.out⟩

set_option maxHeartbeats 1600000 in
/-- Of work that failed already nothing is made. -/
theorem room5_no (P base : Nat) (w : World) (hF : Failed w P base) : Calls Tryz.prog 19 #[.pointer (some ⟨P, 0, none⟩)] w fun e w' => e = .returned (.tuple #[]) ∧ w' = w := by
  obtain ⟨v4, k4, cs, hF⟩ := hF
  have c5 := hF.cells.2.2.1
  clear hF
  go_enter Tryz.func19, Tryz.ntmps19
  go_wp2_with fail
  go_loopw [2] (fun i wr => i = .int .i64 0 ∧ wr = w) (fun _ _ => 0)
  case atStart => exact ⟨rfl, rfl⟩
  case round =>
    obtain ⟨rfl, rfl⟩ := hrel
    go_wp2
    exact bodyPost_end (v := .tuple #[]) (results_none Tryz.results19 _ _ _) rfl ⟨rfl, rfl⟩

/-- A row of acts that is the call's own. -/
def ActsOwn (w : World) (base : Nat) (v : Value) (cs : List (Int × Int × ByteArray)) : Prop := w.ownsRow base 62 3 v cs.length (vsAct cs)

set_option maxRecDepth 100000 in
set_option maxHeartbeats 3200000 in
/-- Of work that failed: no acts, and what it began with. -/
theorem done5_no (a b e0 : Option Addr) (ps : List ByteArray) (ws ms : List Int) (c d f : Nat) (q : Int) (P base : Nat) (w : World) (hp : Rd w a (vsString ps)) (hw : Rd w b (vsInt ws)) (hms : Rd w e0 (vsInt ms)) (hl : ps.length = 60) (hm : ws.length = 10) (hn : ms.length = 26) (hF : Failed w P base) :
    Calls Tryz.prog 21 #[.agg #[.slice a ps.length c, .slice b ws.length d, .slice e0 ms.length f, .int .i64 q], .pointer (some ⟨P, 0, none⟩)] w fun e w' => ∃ va vf, e = .returned (.tuple #[va, vf, .bool false]) ∧ ActsOwn w' w.heap.size va [] ∧ FtlOwn w' w.heap.size vf ps ws ms q ∧ Below w.heap.size w w' := by
  obtain ⟨A, hA⟩ : ∃ A, A = w.alloc (Obj.cells #[.slice a ps.length c, .slice b ws.length d, .slice e0 ms.length f, .int .i64 q] 32) := ⟨_, rfl⟩
  obtain ⟨A2, hA2⟩ : ∃ A2, A2 = A.alloc (Obj.cells #[.slice none 0 0, .slice none 0 0, .slice none 0 0, .int .i64 0] 32) := ⟨_, rfl⟩
  have hsA : A.heap.size = w.heap.size + 1 := by rw [hA]; simp
  have hsA2 : A2.heap.size = w.heap.size + 1 + 1 := by rw [hA2]; simp [hsA]
  have hb0 : Below w.heap.size w A := by rw [hA]; exact (Below.refl _ _).alloc (Nat.le_refl _) _
  have hb1 : Below A.heap.size A A2 := by rw [hA2]; exact (Below.refl _ _).alloc (Nat.le_refl _) _
  have hb2 := after hb0 hb1
  obtain ⟨W, hW⟩ : ∃ W, W = A2.alloc (Obj.cells #[] 62) := ⟨_, rfl⟩
  have hb3 : Below A2.heap.size A2 W := by rw [hW]; exact (Below.refl _ _).alloc (Nat.le_refl _) _
  have hbW := after hb2 hb3
  have k0 : C4 A w.heap.size (.slice a ps.length c) (.slice b ws.length d) (.slice e0 ms.length f) (.int .i64 q) := by rw [hA]; exact c4_new _ _ _ _ _ _
  have k1 : C4 A2 (w.heap.size + 1) (.slice none 0 0) (.slice none 0 0) (.slice none 0 0) (.int .i64 0) := by
    have : C4 A2 A.heap.size (.slice none 0 0) (.slice none 0 0) (.slice none 0 0) (.int .i64 0) := by rw [hA2]; exact c4_new _ _ _ _ _ _
    rw [hsA] at this
    exact this
  obtain ⟨v4, k4, cs, hF⟩ := hF
  have x5 := (hF.below hb2).cells.2.2.1
  have K0 := k0.below hb1
  have HCP := hide (copy4_any a b e0 ps ws ms c d f q W (hp.below hbW) (hw.below hbW) (hms.below hbW) hl hm hn)
  have K1 := k1.below hb3
  have hlt1 : w.heap.size + 1 < A2.heap.size := k1.lt
  have HE : Hid (W.ownsRow w.heap.size 62 3 (.slice (some ⟨A2.heap.size, 0, none⟩) 0 0) 0 []) := by
    show W.ownsRow _ _ _ _ _ _
    rw [hW]
    exact World.ownsRow_made A2 #[] 0 (by omega) (Nat.zero_le _) rfl
  have HBW := hide hbW
  have hsW : w.heap.size + 1 < W.heap.size := K1.lt
  have hlt0 : w.heap.size < A2.heap.size := K0.lt
  clear hp hw hms hb0 hb1 hb2 hb3 hbW k0 k1 hF hsA hsA2 hl hm hn
  go_enter Tryz.func21, Tryz.ntmps21
  go_upto_region 1 with fail
  rw [← hA]
  rw [← hA2]
  clear hA hA2
  obtain ⟨⟨y0, y1, y2, y3⟩, -⟩ := id (K0)
  go_wp2_with fail
  rw [← hW]
  clear hW x5 y0 y1 y2 y3
  refine HCP.out.mono ?_
  rintro e w1 ⟨v, rfl, hf, hb1⟩
  obtain ⟨a1, c1, b1, d1, e1, f1, rfl⟩ := hf.shape
  have K2 := K1.below hb1
  have HE1 := hide (owns_below HE.out hb1)
  have HB1 := hide (after HBW.out hb1)
  have HF1 := hide hf
  have hsw1 := hb1.size
  obtain ⟨⟨n0, n1, n2, n3⟩, nf⟩ := id K2
  have f0 := nf 0
  have f1' := nf 1
  have f2 := nf 2
  have f3 := nf 3
  clear hf hb1 HCP K0 K1 K2 nf HE
  go_wp2
  have hne : ∀ {e : TypeId} {size n : Nat} {v : Value} {xs : List Value} {bs : Nat} (y0 y1 y2 y3 : Value), w1.ownsRow bs e size v n xs → (∀ k, v.ownBlock = some k → k ≠ w.heap.size + 1) → ((((w1.setCell ⟨w.heap.size + 1, 0, none⟩ y0).setCell ⟨w.heap.size + 1, 1, none⟩ y1).setCell ⟨w.heap.size + 1, 2, none⟩ y2).setCell ⟨w.heap.size + 1, 3, none⟩ y3).ownsRow bs e size v n xs := fun y0 y1 y2 y3 ho hk =>
    ownsRow_setCell_other (ownsRow_setCell_other (ownsRow_setCell_other (ownsRow_setCell_other ho (fun h => hk _ h rfl) _) (fun h => hk _ h rfl) _) (fun h => hk _ h rfl) _) (fun h => hk _ h rfl) _
  obtain ⟨v1, v2, v3, hv, o1, o2, o3, h12, h13, h23⟩ := HF1.out
  refine bodyPost_ret (v := .tuple #[.slice (some ⟨A2.heap.size, 0, none⟩) 0 0, .agg #[.slice a1 ps.length c1, .slice b1 ws.length d1, .slice e1 ms.length f1, .int .i64 q], .bool false]) (by simp [results, Tryz.results21, go_sem, n0, n1, n2, n3]) rfl ⟨_, _, rfl, ?_, ⟨v1, v2, v3, hv, ?_, ?_, ?_, h12, h13, h23⟩, (((HB1.out.setCell (by show _ ≤ _; simp) _).setCell (by show _ ≤ _; simp) _).setCell (by show _ ≤ _; simp) _).setCell (by show _ ≤ _; simp) _⟩
  · exact hne _ _ _ _ HE1.out (fun k hk => by simp [Value.ownBlock] at hk; omega)
  · exact hne _ _ _ _ (owns_mono o1 (by omega)) (fun k hk => by have := (o1.lt k hk).1; omega)
  · exact hne _ _ _ _ (owns_mono o2 (by omega)) (fun k hk => by have := (o2.lt k hk).1; omega)
  · exact hne _ _ _ _ (owns_mono o3 (by omega)) (fun k hk => by have := (o3.lt k hk).1; omega)

set_option maxRecDepth 100000 in
set_option maxHeartbeats 3200000 in
/-- Of work that is done: its acts, and what is mounted then. -/
theorem done5_ok (x0 x1 x2 x3 : Value) (P base : Nat) (ps : List ByteArray) (ws ms : List Int) (q : Int) (cs : List (Int × Int × ByteArray)) (w : World) (hF : Work w P base ps ws ms q cs true) (hok : chipOkP ps ws) :
    Calls Tryz.prog 21 #[.agg #[x0, x1, x2, x3], .pointer (some ⟨P, 0, none⟩)] w fun e w' => ∃ va vf, e = .returned (.tuple #[va, vf, .bool true]) ∧ ActsOwn w' base va cs ∧ FtlOwn w' base vf ps ws (mMap ps) (mSeq ps) ∧ Below w.heap.size w w' := by
  obtain ⟨A, hA⟩ : ∃ A, A = w.alloc (Obj.cells #[x0, x1, x2, x3] 32) := ⟨_, rfl⟩
  obtain ⟨A2, hA2⟩ : ∃ A2, A2 = A.alloc (Obj.cells #[.slice none 0 0, .slice none 0 0, .slice none 0 0, .int .i64 0] 32) := ⟨_, rfl⟩
  have hsA : A.heap.size = w.heap.size + 1 := by rw [hA]; simp
  have hb0 : Below w.heap.size w A := by rw [hA]; exact (Below.refl _ _).alloc (Nat.le_refl _) _
  have hb1 : Below A.heap.size A A2 := by rw [hA2]; exact (Below.refl _ _).alloc (Nat.le_refl _) _
  have hb2 := after hb0 hb1
  have k1 : C4 A2 (w.heap.size + 1) (.slice none 0 0) (.slice none 0 0) (.slice none 0 0) (.int .i64 0) := by
    have : C4 A2 A.heap.size (.slice none 0 0) (.slice none 0 0) (.slice none 0 0) (.int .i64 0) := by rw [hA2]; exact c4_new _ _ _ _ _ _
    rw [hsA] at this
    exact this
  obtain ⟨g1, kk1, g2, kk2, g3, kk3, v4, k4, hF⟩ := hF
  have h2 := hF.below hb2
  obtain ⟨⟨c0, c1, -, -, c4, x5⟩, -⟩ := h2.cells
  have HT : Hid (∀ u, Below A2.heap.size A2 u → u.cell? ⟨P, 0, none⟩ = some (.slice (some ⟨g1, 0, none⟩) ps.length kk1) ∧ u.cell? ⟨P, 1, none⟩ = some (.slice (some ⟨g2, 0, none⟩) ws.length kk2) ∧ u.cell? ⟨P, 4, none⟩ = some (.slice v4 cs.length k4)) := fun u hu => by
    obtain ⟨⟨c0, c1, -, -, c4, -⟩, -⟩ := (h2.below hu).cells
    exact ⟨c0, c1, c4⟩
  have HMO := hide (specMount_ok (some ⟨g1, 0, none⟩) (some ⟨g2, 0, none⟩) ps ws kk1 kk2 A2.drew h2.rd.1 h2.rd.2.1 hok)
  have HA := hide hF.2.2.2.2.2.1
  have mP : w.heap.size + 1 ≠ P := by have := hF.lt.1; omega
  have HK := hide k1
  have HB2 := hide hb2
  have HBS := hide hF.lt.2.2
  have hA1 : w.heap.size + 1 < A2.heap.size := k1.lt
  clear h2 hF hok hb0 hb1 hb2 hsA k1
  go_enter Tryz.func21, Tryz.ntmps21
  go_upto_region 1 with fail
  rw [← hA]
  rw [← hA2]
  clear hA hA2
  go_wp2_with fail
  go_region_held (fun w' => w'.cell? ⟨P, 0, none⟩ = some (.slice (some ⟨g1, 0, none⟩) ps.length kk1) ∧ w'.cell? ⟨P, 1, none⟩ = some (.slice (some ⟨g2, 0, none⟩) ws.length kk2) ∧ w'.cell? ⟨P, 4, none⟩ = some (.slice v4 cs.length k4)) (first | assumption | go_keep | exact ⟨set4_keep hS.1 mP, set4_keep hS.2.1 mP, set4_keep hS.2.2 mP⟩)
    ((go_at_call 36; refine HMO.out.mono ?_; rintro e w1 ⟨v, rfl, hf, hb1⟩; obtain ⟨a1, c1', b1, d1, e1, f1, hv1⟩ := hf.shape; subst hv1; have HB1 : Hid (Below A2.heap.size A2 w1) := (after_drew (Below.refl _ _) 1).trans hb1; have hS := HT.out w1 HB1.out; have HF1 := hide hf; obtain ⟨⟨n0, n1, n2, n3⟩, nf⟩ := id (HK.out.below HB1.out); have f0 := nf 0; have f1' := nf 1; have f2 := nf 2; have f3 := nf 3; clear hf hb1 nf))
  go_wp2
  have hne : ∀ {e : TypeId} {size n : Nat} {v : Value} {xs : List Value} {bs : Nat} (y0 y1 y2 y3 : Value), w1.ownsRow bs e size v n xs → (∀ k, v.ownBlock = some k → k ≠ w.heap.size + 1) → ((((w1.setCell ⟨w.heap.size + 1, 0, none⟩ y0).setCell ⟨w.heap.size + 1, 1, none⟩ y1).setCell ⟨w.heap.size + 1, 2, none⟩ y2).setCell ⟨w.heap.size + 1, 3, none⟩ y3).ownsRow bs e size v n xs := fun y0 y1 y2 y3 ho hk =>
    ownsRow_setCell_other (ownsRow_setCell_other (ownsRow_setCell_other (ownsRow_setCell_other ho (fun h => hk _ h rfl) _) (fun h => hk _ h rfl) _) (fun h => hk _ h rfl) _) (fun h => hk _ h rfl) _
  obtain ⟨v1, v2, v3, hv, o1, o2, o3, h12, h13, h23⟩ := HF1.out
  have hbase := HBS.out
  have hd : A2.drew.heap.size = A2.heap.size := rfl
  rw [hd] at o1 o2 o3
  have HBW := after HB2.out HB1.out
  refine bodyPost_ret (v := .tuple #[.slice v4 cs.length k4, .agg #[.slice a1 ps.length c1', .slice b1 ws.length d1, .slice e1 (mMap ps).length f1, .int .i64 (mSeq ps)], .bool true]) (by simp [results, Tryz.results21, go_sem, n0, n1, n2, n3]) rfl ⟨_, _, rfl, ?_, ⟨v1, v2, v3, hv, ?_, ?_, ?_, h12, h13, h23⟩, (((HBW.setCell (by show _ ≤ _; simp) _).setCell (by show _ ≤ _; simp) _).setCell (by show _ ≤ _; simp) _).setCell (by show _ ≤ _; simp) _⟩
  · exact hne _ _ _ _ (owns_below HA.out HBW) (fun k hk => by have := (HA.out.lt k hk).2; omega)
  · exact hne _ _ _ _ (owns_mono o1 (by omega)) (fun k hk => by have := (o1.lt k hk).1; omega)
  · exact hne _ _ _ _ (owns_mono o2 (by omega)) (fun k hk => by have := (o2.lt k hk).1; omega)
  · exact hne _ _ _ _ (owns_mono o3 (by omega)) (fun k hk => by have := (o3.lt k hk).1; omega)
end Go.Proofs.YtghadfbpcbcpiaaGreat

namespace Go.Proofs.YtghadfbpcbcpiaaGreat
open Go.RowKit

/-- As Q; by a goto: J of its label. -/
def jumps (J : Nat → Act → World → Prop) (Q : Exit → Act → World → Prop) : Exit → Act → World → Prop
  | .goto l, a, w => J l a w
  | e, a, w => Q e a w
theorem jumps_mono {J J' : Nat → Act → World → Prop} {Q : Exit → Act → World → Prop} (h : ∀ l a w, J l a w → J' l a w) : ∀ e a w, jumps J Q e a w → jumps J' Q e a w := by
  intro e a w hq
  cases e with
  | goto l => exact h l a w hq
  | normal => exact hq
  | exit id => exact hq
  | ret => exact hq
  | panic ch => exact hq
  | outgrown => exact hq
theorem jumps_ret {J : Nat → Act → World → Prop} {Q : Exit → Act → World → Prop} {a : Act} {w : World} (h : Q .ret a w) : jumps J Q .ret a w := h
theorem wp_from {P : Program} {c X : Code} {l : Nat} {a : Act} {w : World} {Q : Exit → Act → World → Prop} (h : ∃ rest, findLabel c l = some (.seq .skip rest) ∧ rest.wp P Q a w) (hx : findLabel c l = some (.seq .skip X)) : X.wp P Q a w := by
  obtain ⟨rest, hf, hp⟩ := h
  rw [hx] at hf
  injection hf with hf
  injection hf with _ hf
  subst hf
  exact hp
theorem wp_skip_seq {P : Program} {c : Code} {a : Act} {w : World} {Q : Exit → Act → World → Prop} (h : c.wp P Q a w) : (Code.seq .skip c).wp P Q a w := wp_seq (wp_skip h)
/-- A scope in which the run jumps to some labels: what holds at each jump, and a measure that each pass lowers. -/
theorem wp_scope_many {P : Program} {a : Act} {w : World} {Q : Exit → Act → World → Prop} {c : Code} (J : Nat → Act → World → Prop) (μ : Nat → Act → World → Nat) (first : (∀ l a w, J l a w → ∃ rest, findLabel c l = some (.seq .skip rest) ∧ rest.wp P (jumps J Q) a w) → c.wp P (jumps J Q) a w)
    (pass : ∀ l a w, J l a w → ∃ rest, findLabel c l = some (.seq .skip rest) ∧ rest.wp P (jumps (fun l' a' w' => J l' a' w' ∧ μ l' a' w' < μ l a w) Q) a w) : (Code.scope c).wp P Q a w := by
  intro b k cs
  have key : ∀ n l a w, μ l a w = n → J l a w → ∃ rest, findLabel c l = some rest ∧ ∃ e a' w', Q e a' w' ∧ Arrives P (lone (b.at a (.code rest :: .inScope c :: k)) cs w) b k cs e a' w' := by
    intro n
    induction n using Nat.strongRecOn with
    | _ n ih =>
      intro l a w hn hJ
      obtain ⟨rest, hf, hp⟩ := pass l a w hJ
      refine ⟨_, hf, ?_⟩
      have hp := wp_skip_seq hp
      obtain ⟨e, a₁, w₁, hq, harr⟩ := hp b (.inScope c :: k) cs
      cases e with
      | normal => exact ⟨.normal, a₁, w₁, hq, Steps.trans harr (.one step_inScope)⟩
      | exit id => exact ⟨.exit id, a₁, w₁, hq, fun k' hk => harr k' (by simp [exitTo, hk])⟩
      | goto l' =>
        obtain ⟨hJ', hlt⟩ := hq
        obtain ⟨rest', hf', e₂, a₂, w₂, hq₂, harr₂⟩ := ih _ (by omega) l' a₁ w₁ rfl hJ'
        exact ⟨e₂, a₂, w₂, hq₂, .of_steps (harr _ (by simp [gotoIn, hf'])) harr₂⟩
      | ret => exact ⟨_, a₁, w₁, hq, harr⟩
      | panic ch => exact ⟨_, a₁, w₁, hq, harr⟩
      | outgrown => exact ⟨_, a₁, w₁, hq, harr⟩
  obtain ⟨e, a₁, w₁, hq, harr⟩ := first (fun l a w h => by obtain ⟨rest, hf, hp⟩ := pass l a w h; exact ⟨rest, hf, Code.wp_mono (jumps_mono fun _ _ _ h => h.1) hp⟩) b (.inScope c :: k) cs
  cases e with
  | normal => exact ⟨.normal, a₁, w₁, hq, .head step_scope (Steps.trans harr (.one step_inScope))⟩
  | exit id => exact ⟨.exit id, a₁, w₁, hq, fun k' hk => .head step_scope (harr k' (by simp [exitTo, hk]))⟩
  | goto l' =>
    obtain ⟨rest', hf', e₂, a₂, w₂, hq₂, harr₂⟩ := key _ l' a₁ w₁ rfl hq
    exact ⟨e₂, a₂, w₂, hq₂, .of_steps (.head step_scope (harr _ (by simp [gotoIn, hf']))) harr₂⟩
  | ret => exact ⟨_, a₁, w₁, hq, .of_steps (.one step_scope) harr⟩
  | panic ch => exact ⟨_, a₁, w₁, hq, .of_steps (.one step_scope) harr⟩
  | outgrown => exact ⟨_, a₁, w₁, hq, .of_steps (.one step_scope) harr⟩
/-- What is planned, room made ahead. -/
noncomputable def pWrite (s : Int) (d : ByteArray) (R : Option (List ByteArray × List Int × List (Int × Int × ByteArray))) : Option (List ByteArray × List Int × List (Int × Int × ByteArray)) :=
  match R with
  | none => none
  | some r => match pBurn r.1 r.2.1 s d with
    | none => none
    | some b => some (b.1, r.2.1, r.2.2 ++ [b.2])
theorem pPlan_write {ps : List ByteArray} {ws : List Int} {s : Int} {d : ByteArray} : pPlan ps ws s d = pWrite s d (pRoom 10 ps ws []) := by
  unfold pPlan pWrite
  cases hr : recOkB s (mSeq ps) d with
  | true => rfl
  | false =>
    rw [if_pos rfl]
    cases pRoom 10 ps ws [] with
    | none => rfl
    | some r =>
      have h : recOkB s (mSeq r.1) d = false := by rw [recOkB_seq (mSeq_bd r.1) (mSeq_bd ps)]; exact hr
      simp only []
      rw [pBurn_none (.inr (.inl h))]

theorem worst_ge {ps : List ByteArray} {ws ms : List Int} (hm : ms.length = 26) : -1 ≤ worstB ps ws ms := by
  have := worstU_bd ps ws ms (openB ps ws) hm 10
  unfold worstB
  split <;> omega
/-- At the label 'look'. -/
def PLook (wr : World) (P base : Nat) (R : Option (List ByteArray × List Int × List (Int × Int × ByteArray))) (k : Nat) : Prop :=
  ∃ ps ws ms q cs, PW wr P base ps ws ms q cs ∧ ms = mMap ps ∧ q = mSeq ps ∧ chipOkP ps ws ∧ pRoom (10 - k) ps ws cs = R ∧ cs.length ≤ 157 * k
/-- At the label 'room'. -/
def PRoom (wr : World) (P base : Nat) (R : Option (List ByteArray × List Int × List (Int × Int × ByteArray))) : Prop :=
  ∃ ps ws ms q cs, PW wr P base ps ws ms q cs ∧ ms = mMap ps ∧ q = mSeq ps ∧ chipOkP ps ws ∧ R = some (ps, ws, cs) ∧ cs.length ≤ 1570

/-- What holds at the jumps. -/
def JW (P base : Nat) (s : Int) (d : ByteArray) (w : World) (R : Option (List ByteArray × List Int × List (Int × Int × ByteArray))) (l : Nat) (a' : Act) (wr : World) : Prop :=
  (l = 1 ∧ ∃ (k : Nat) (u3 u4 u5 u6 u8 u9 u10 u11 u12 u13 u14 u15 u16 u17 u18 u19 u20 u21 u22 u23 u24 u25 u26 u27 u28 u29 u30 u31 : Value), a' = { tmps := #[.pointer (some ⟨P, 0, none⟩), .int .i64 s, .string d, u3, u4, u5, u6, .int .i64 k, u8, u9, u10, u11, u12, u13, u14, u15, u16, u17, u18, u19, u20, u21, u22, u23, u24, u25, u26, u27, u28, u29, u30, u31], defers := [] } ∧ k ≤ 10 ∧ Hid (PLook wr P base R k) ∧ Hid (Below base w wr ∧ Fr P P P w wr)) ∨
  (l = 0 ∧ ∃ (u3 u4 u5 u6 u7 u8 u9 u10 u11 u12 u13 u14 u15 u16 u17 u18 u19 u20 u21 u22 u23 u24 u25 u26 u27 u28 u29 u30 u31 : Value), a' = { tmps := #[.pointer (some ⟨P, 0, none⟩), .int .i64 s, .string d, u3, u4, u5, u6, u7, u8, u9, u10, u11, u12, u13, u14, u15, u16, u17, u18, u19, u20, u21, u22, u23, u24, u25, u26, u27, u28, u29, u30, u31], defers := [] } ∧ Hid (PRoom wr P base R) ∧ Hid (Below base w wr ∧ Fr P P P w wr))
def muW (l : Nat) (a' : Act) (_ : World) : Nat := if l = 1 then 11 - (intOf (a'.tmps.getD 7 undef)).toNat else 0

set_option maxRecDepth 100000 in
set_option maxHeartbeats 12800000 in
theorem pwrite_any (P base : Nat) (ps : List ByteArray) (ws ms : List Int) (q : Int) (s : Int) (d : ByteArray) (w : World) (hW : PW w P base ps ws ms q []) (hm : ms = mMap ps) (hq : q = mSeq ps) (hok : chipOkP ps ws) (hd : d.size ≤ maxLen) (hs0 : -9223372036854775808 ≤ s) (hs1 : s ≤ 9223372036854775807) :
    Calls Tryz.prog 26 #[.pointer (some ⟨P, 0, none⟩), .int .i64 s, .string d] w fun e w' => e = .returned (.bool (pPlan ps ws s d).isSome) ∧ Below base w w' ∧ Fr P P P w w' ∧
      (∀ r, pPlan ps ws s d = some r → PW w' P base r.1 r.2.1 (mMap r.1) (mSeq r.1) r.2.2) ∧ PSome w' P base := by
  obtain ⟨R, hR⟩ : ∃ R, R = pRoom 10 ps ws [] := ⟨_, rfl⟩
  obtain ⟨A, hA⟩ : ∃ A, A = pPlan ps ws s d := ⟨_, rfl⟩
  have HAR : Hid (A = pWrite s d R) := by show _ = _; rw [hA, hR]; exact pPlan_write
  have HST : Hid (PLook w P base R 0) := ⟨ps, ws, ms, q, [], hW, hm, hq, hok, hR.symm, by simp⟩
  rw [← hA]
  clear hW hm hq hok hR hA
  go_enter Tryz.func26, Tryz.ntmps26
  go_wp2
  refine wp_scope_many (JW P base s d w R) muW ?first ?pass
  case first =>
    intro hpass
    go_wp2
    go_step3
    rename_i hK
    refine hK _ _ ?_
    refine wp_from (hpass 1 _ _ (.inl ⟨rfl, 0, _, _, _, _, _, _, _, _, _, _, _, _, _, _, _, _, _, _, _, _, _, _, _, _, _, _, _, _, rfl, Nat.zero_le _, HST, ⟨Below.refl _ _, Fr.of_below (Below.refl _ _)⟩⟩)) rfl
  case pass =>
    intro l a' wr hJ
    rcases hJ with ⟨rfl, k, u3, u4, u5, u6, u8, u9, u10, u11, u12, u13, u14, u15, u16, u17, u18, u19, u20, u21, u22, u23, u24, u25, u26, u27, u28, u29, u30, u31, rfl, hk, hst, hbf⟩ | ⟨rfl, u3, u4, u5, u6, u7, u8, u9, u10, u11, u12, u13, u14, u15, u16, u17, u18, u19, u20, u21, u22, u23, u24, u25, u26, u27, u28, u29, u30, u31, rfl, hst, hbf⟩
    · have hbr : Hid (Below base w wr) := hbf.out.1
      refine ⟨_, rfl, ?_⟩
      obtain ⟨pk, wk, mk, qk, ck, hwk, hmk, hqk, hokk, hrk, hck⟩ := hst.out
      have HWK0 := hide hwk
      obtain ⟨v5, k5, a5, c5, b5, d5, e5, f5, hwk⟩ := hwk
      obtain ⟨⟨c0, c1, c2, c3, c4⟩, -⟩ := hwk.cells
      have HWK := hide hwk
      have HOKk := hide hokk
      have HRK := hide hrk
      have HCK := hide hck
      have HMQ := hide (And.intro hmk hqk)
      clear hst hwk hmk hqk hokk hrk hck HST
      by_cases hk10 : k = 10
      · subst hk10
        have HPR : Hid (PRoom wr P base R) := ⟨pk, wk, mk, qk, ck, HWK0.out, HMQ.out.1, HMQ.out.2, HOKk.out, HRK.out.symm, by have := HCK.out; omega⟩
        go_wp2_with fail
        go_step3
        exact ⟨.inr ⟨rfl, _, _, _, _, _, _, _, _, _, _, _, _, _, _, _, _, _, _, _, _, _, _, _, _, _, _, _, _, _, rfl, HPR, hbf⟩, by simp [muW, intOf]⟩
      · have t1 : ((k : Int) == 10) = false := by simp; omega
        have hk9 : k < 10 := by omega
        have HRM : Hid (pRoom ((9 - k) + 1) pk wk ck = R) := by rw [show 9 - k + 1 = 10 - k by omega]; exact HRK
        obtain ⟨C, hC⟩ : ∃ C, C = crowdB pk wk := ⟨_, rfl⟩
        have HCR := hide (crowded_any a5 b5 pk wk c5 d5 wr HWK.out.rd.1 HWK.out.rd.2.1 HOKk.out (by have := HWK.out.cap; rw [HOKk.out.1] at this; exact this))
        rw [← hC] at HCR
        have HCC := hide hC
        obtain ⟨B, hB⟩ : ∃ B, B = worstB pk wk (mMap pk) := ⟨_, rfl⟩
        have HWO : Hid (∀ u, Below wr.heap.size wr u → Calls Tryz.prog 53 #[.agg #[.slice a5 pk.length c5, .slice b5 wk.length d5, .slice e5 mk.length f5, .int .i64 qk]] u fun e w' => e = .returned (.int .i64 B) ∧ Below u.heap.size u w') := by
          intro u hu
          have hr := (HWK.out.below hu).rd
          have hm := HMQ.out.1
          rw [hm] at hr
          rw [hm, hB]
          exact implWorstOf_ok a5 b5 e5 pk wk c5 d5 f5 qk u hr.1 hr.2.1 hr.2.2 HOKk.out (by have := HWK.out.cap; rw [HOKk.out.1] at this; exact this)
        have HBQ := hide hB
        clear hC hB hk10
        go_wp2_with fail
        refine HCR.out.mono ?_
        rintro e w2 ⟨rfl, hb2⟩
        have HB2 := hide hb2
        obtain ⟨⟨x0, x1, x2, x3, x4⟩, -⟩ := (HWK.out.below hb2).cells
        have HBF : Hid (∀ u, Below wr.heap.size wr u → Below base w u) := fun u hu => hbr.out.trans (hu.mono HWK.out.lt.2.2)
        clear hb2 HCR c0 c1 c2 c3 c4
        cases C with
        | false =>
          have HEN : Hid (pEnough pk wk) := Classical.byContradiction fun h => by have := crowdB_true.2 h; rw [← HCC.out] at this; cases this
          have HPR : Hid (PRoom w2 P base R) := ⟨pk, wk, mk, qk, ck, HWK0.out.below HB2.out, HMQ.out.1, HMQ.out.2, HOKk.out, by rw [← HRM.out]; exact pRoom_enough HEN.out, by have := HCK.out; omega⟩
          have HBB := hide (HBF.out _ HB2.out)
          go_wp2_with fail
          go_step3
          exact ⟨.inr ⟨rfl, _, _, _, _, _, _, _, _, _, _, _, _, _, _, _, _, _, _, _, _, _, _, _, _, _, _, _, _, _, rfl, HPR, ⟨HBB.out, hbf.out.2.trans (Fr.of_below HB2.out)⟩⟩, by simp [muW, intOf]; omega⟩
        | true =>
          have HNE : Hid (¬ pEnough pk wk) := crowdB_true.1 HCC.out.symm
          go_wp2_with fail
          refine (HWO.out w2 HB2.out).mono ?_
          rintro e w3 ⟨rfl, hb3⟩
          have HB3 := hide (after HB2.out hb3)
          have HBB := hide (HBF.out _ HB3.out)
          clear hb3 HWO x0 x1 x2 x3 x4
          by_cases hneg : B < 0
          · have hb1 : B = -1 := by have := worst_ge (ps := pk) (ws := wk) (mMap_len pk); rw [← HBQ.out] at this; omega
            have HRN : Hid (R = none) := by show _ = _; rw [← HRM.out]; exact pRoom_noworst HNE.out (by rw [← HBQ.out]; exact hneg)
            have HAN : Hid (A = none) := by show _ = _; rw [HAR.out, HRN.out]; rfl
            have HPS := hide (HWK0.out.below HB3.out).some
            have HCN := hide (pclean_no P w3)
            subst hb1
            go_wp2_with fail
            refine HCN.out.mono ?_
            rintro e u ⟨rfl, hu⟩
            have hu' := hu.symm
            subst hu'
            clear HCN
            go_wp2
            exact jumps_ret (bodyPost_ret (v := .bool false) (by simp [results, Tryz.results26, go_sem]) rfl ⟨by rw [HAN.out]; rfl, HBB.out, hbf.out.2.trans (Fr.of_below HB3.out), no_some HAN.out, HPS.out⟩)
          · obtain ⟨b, rfl⟩ : ∃ b : Nat, B = b := ⟨B.toNat, by omega⟩
            have HWU := hide (worst_used HOKk.out.1 HBQ.out.symm)
            have HRC := hide ((pRoom_clean (n := 9 - k) (cs := ck) HNE.out HBQ.out.symm).symm.trans HRM.out)
            have HCL := hide (pclean_any P base b pk wk mk qk ck w3 (HWK0.out.below HB3.out) HMQ.out.1 HMQ.out.2 HOKk.out HWU.out.1 HWU.out.2.1 (by have := HCK.out; omega))
            obtain ⟨X, hX⟩ : ∃ X, X = pClean b pk wk ck := ⟨_, rfl⟩
            rw [← hX] at HCL
            have HXQ := hide hX
            clear hX hneg
            go_wp2_with fail
            refine HCL.out.mono ?_
            rintro e w4 ⟨rfl, hb4, hf4, hy, hps⟩
            have HB4 : Hid (Below base w w4) := HBB.out.trans hb4
            have HF4 := hide ((hbf.out.2.trans (Fr.of_below HB3.out)).trans hf4)
            clear hf4
            cases X with
            | none =>
              have HRN : Hid (R = none) := by show _ = _; rw [← HRC.out, ← HXQ.out]
              have HAN : Hid (A = none) := by show _ = _; rw [HAR.out, HRN.out]; rfl
              have HPS := hide hps
              clear hb4 hy hps HCL
              go_wp2
              exact jumps_ret (bodyPost_ret (v := .bool false) (by simp [results, Tryz.results26, go_sem]) rfl ⟨by rw [HAN.out]; rfl, HB4.out, HF4.out, no_some HAN.out, HPS.out⟩)
            | some r =>
              have hri := pClean_right HOKk.out HXQ.out.symm
              have HLK : Hid (PLook w4 P base R (k + 1)) := ⟨_, _, _, _, _, hy r rfl, rfl, rfl, hri.1, by rw [show 10 - (k + 1) = 9 - k by omega, ← HRC.out, ← HXQ.out], by have := HCK.out; omega⟩
              clear hb4 hy hps HCL hri
              go_wp2_with fail
              go_step3
              exact ⟨.inl ⟨rfl, k + 1, _, _, _, _, _, _, _, _, _, _, _, _, _, _, _, _, _, _, _, _, _, _, _, _, _, _, _, _, by go_num, by omega, HLK, ⟨HB4.out, HF4.out⟩⟩, by simp [muW, intOf]; omega⟩
    · have hbr : Hid (Below base w wr) := hbf.out.1
      refine ⟨_, rfl, ?_⟩
      obtain ⟨pk, wk, mk, qk, ck, hwk, hmk, hqk, hokk, hrk, hck⟩ := hst.out
      have HBN := hide (pburn_any P base pk wk mk qk ck s d wr hwk hmk hqk hokk hd hs0 hs1 (by omega))
      obtain ⟨B, hB⟩ : ∃ B, B = pBurn pk wk s d := ⟨_, rfl⟩
      have HAB : Hid (A = pWrite s d (some (pk, wk, ck))) := by show _ = _; rw [← hrk]; exact HAR.out
      have HBQ := hide hB
      rw [← hB] at HBN
      clear hwk hmk hqk hokk hrk hck hst HAR hB HST
      go_wp2_with fail
      refine HBN.out.mono ?_
      rintro e w2 ⟨rfl, hb2, hf2, hy, hn⟩
      have HB2 : Hid (Below base w w2) := hbr.out.trans hb2
      have HF2 := hide (hbf.out.2.trans hf2)
      clear hf2
      cases B with
      | none =>
        have HAN : Hid (A = none) := by show _ = _; rw [HAB.out]; unfold pWrite; simp only []; rw [← HBQ.out]
        have HPS := hide (hn rfl).some
        clear hy hn hb2 HBN
        go_wp2
        exact jumps_ret (bodyPost_ret (v := .bool false) (by simp [results, Tryz.results26, go_sem]) rfl ⟨by rw [HAN.out]; rfl, HB2.out, HF2.out, no_some HAN.out, HPS.out⟩)
      | some b =>
        have HAY : Hid (A = some (b.1, wk, ck ++ [b.2])) := by show _ = _; rw [HAB.out]; unfold pWrite; simp only []; rw [← HBQ.out]
        have HWF := hide (hy b rfl)
        clear hy hn hb2 HBN
        go_wp2
        exact jumps_ret (bodyPost_ret (v := .bool true) (by simp [results, Tryz.results26, go_sem]) rfl ⟨by rw [HAY.out]; rfl, HB2.out, HF2.out, yes_some HAY.out HWF.out, HWF.out.some⟩)
end Go.Proofs.YtghadfbpcbcpiaaGreat

namespace Go.Proofs.YtghadfbpcbcpiaaGreat
open Go.RowKit

/-- What is planned, told as the chapter says: the acts; pages, wear, map and number behind them; whether it could be. -/
noncomputable def planR (ps : List ByteArray) (ws ms : List Int) (q s : Int) (d : ByteArray) : List (Int × Int × ByteArray) × (List ByteArray × List Int × List Int × Int) × Bool :=
  if ftlOkB ps ws ms q = true then
    match pPlan ps ws s d with
    | none => ([], (ps, ws, ms, q), false)
    | some r => (r.2.2, (r.1, r.2.1, mMap r.1, mSeq r.1), true)
  else ([], ([], [], [], 0), false)

/-- Work that begins. -/
theorem work_new {w : World} {base c d f : Nat} {a b e : Option Addr} {ps : List ByteArray} {ws ms : List Int} {q : Int} (ok : Bool) (hf : FtlOwn w base (.agg #[.slice a ps.length c, .slice b ws.length d, .slice e ms.length f, .int .i64 q]) ps ws ms q) (hb : base ≤ w.heap.size) (hl : ps.length = 60) (hm : ws.length = 10) (hk : ms.length = 26) :
    Work (w.alloc (Obj.cells #[.slice a ps.length c, .slice b ws.length d, .slice e ms.length f, .int .i64 q, .slice none 0 0, .bool ok] 50)) w.heap.size base ps ws ms q [] ok := by
  obtain ⟨v1, v2, v3, hv, o1, o2, o3, -, -, hne⟩ := hf
  injection hv with hv
  simp at hv
  obtain ⟨rfl, rfl, rfl⟩ := hv
  obtain ⟨g1, c', e1, -⟩ := owns_form o1 (by omega)
  obtain ⟨g2, d', e2, -⟩ := owns_form o2 (by omega)
  obtain ⟨g3, f', e3, -⟩ := owns_form o3 (by omega)
  injection e1 with e1 _ _
  injection e2 with e2 _ _
  injection e3 with e3 _ _
  subst e1 e2 e3
  exact ⟨g1, c, g2, d, g3, f, none, 0, heap_alloc_new _ _, hb, o1.alloc _, o2.alloc _, o3.alloc _, World.ownsRow_nil _ _ _ _, fun e => hne g2 rfl (by rw [e]; rfl)⟩

/-- What is left behind the last statement: the rows are kept. -/
theorem plan_fin {A2 w w5 : World} {base : Nat} {va vf : Value} {cs : List (Int × Int × ByteArray)} {ps : List ByteArray} {ws ms : List Int} {q : Int} (hb2 : Below w.heap.size w A2) (hb5 : Below A2.heap.size A2 w5) (hbase : A2.heap.size ≤ base ∧ base ≤ w5.heap.size) (hk : C4 A2 (w.heap.size + 1) (.slice none 0 0) (.slice none 0 0) (.slice none 0 0) (.int .i64 0)) (ha : ActsOwn w5 base va cs) (hf : FtlOwn w5 base vf ps ws ms q) :
    ∀ (V : World) (n : Nat) (y0 y1 y2 y3 : Value), Below w5.heap.size w5 V → ActsOwn (((((V.setCell ⟨w.heap.size + 1, 0, none⟩ y0).setCell ⟨w.heap.size + 1, 1, none⟩ y1).setCell ⟨w.heap.size + 1, 2, none⟩ y2).setCell ⟨w.heap.size + 1, 3, none⟩ y3).drewN n) w.heap.size va cs ∧
      FtlOwn (((((V.setCell ⟨w.heap.size + 1, 0, none⟩ y0).setCell ⟨w.heap.size + 1, 1, none⟩ y1).setCell ⟨w.heap.size + 1, 2, none⟩ y2).setCell ⟨w.heap.size + 1, 3, none⟩ y3).drewN n) w.heap.size vf ps ws ms q ∧
      Below w.heap.size w (((((V.setCell ⟨w.heap.size + 1, 0, none⟩ y0).setCell ⟨w.heap.size + 1, 1, none⟩ y1).setCell ⟨w.heap.size + 1, 2, none⟩ y2).setCell ⟨w.heap.size + 1, 3, none⟩ y3).drewN n) := by
  intro V n y0 y1 y2 y3 hbV
  have hlt := hk.lt
  have hne : ∀ {e : TypeId} {size n' : Nat} {v : Value} {xs : List Value}, w5.ownsRow base e size v n' xs → (((((V.setCell ⟨w.heap.size + 1, 0, none⟩ y0).setCell ⟨w.heap.size + 1, 1, none⟩ y1).setCell ⟨w.heap.size + 1, 2, none⟩ y2).setCell ⟨w.heap.size + 1, 3, none⟩ y3).drewN n).ownsRow w.heap.size e size v n' xs := fun {e} {size} {n'} {v} {xs} ho => by
    have hk : v.ownBlock ≠ some (w.heap.size + 1) := fun h => by have := (ho.lt _ h).1; omega
    have h1 : V.ownsRow w.heap.size e size v n' xs := owns_mono (owns_below ho hbV) (by have := hb2.size; omega)
    exact ownsRow_setCell_other (ownsRow_setCell_other (ownsRow_setCell_other (ownsRow_setCell_other h1 hk _) hk _) hk _) hk _
  obtain ⟨v1, v2, v3, hv, o1, o2, o3, hh⟩ := hf
  have hb : Below w.heap.size w V := after (after hb2 hb5) hbV
  exact ⟨hne ha, ⟨v1, v2, v3, hv, hne o1, hne o2, hne o3, hh⟩, after_drew ((((hb.setCell (by show _ ≤ _; simp) _).setCell (by show _ ≤ _; simp) _).setCell (by show _ ≤ _; simp) _).setCell (by show _ ≤ _; simp) _) n⟩

set_option maxRecDepth 100000 in
set_option maxHeartbeats 12800000 in
theorem specPlan_ok (a b e0 : Option Addr) (ps : List ByteArray) (ws ms : List Int) (c d f : Nat) (q s : Int) (t : ByteArray) (w : World) (hp : Rd w a (vsString ps)) (hw : Rd w b (vsInt ws)) (hms : Rd w e0 (vsInt ms)) (hok : ftlOkB ps ws ms q = true) (ht : t.size ≤ 1048576) (hs0 : -9223372036854775808 ≤ s) (hs1 : s ≤ 9223372036854775807) :
    Calls Tryz.prog 5 #[.agg #[.slice a ps.length c, .slice b ws.length d, .slice e0 ms.length f, .int .i64 q], .int .i64 s, .string t] w fun e w' => ∃ va vf, e = .returned (.tuple #[va, vf, .bool (pPlan ps ws s t).isSome]) ∧ (∀ r, pPlan ps ws s t = some r → ActsOwn w' w.heap.size va r.2.2 ∧ FtlOwn w' w.heap.size vf r.1 r.2.1 (mMap r.1) (mSeq r.1)) ∧ (pPlan ps ws s t = none → ActsOwn w' w.heap.size va [] ∧ FtlOwn w' w.heap.size vf ps ws ms q) ∧ Below w.heap.size w w' := by
  obtain ⟨hch, hmm, hqq⟩ := ftlOk_parts hok
  obtain ⟨A, hA⟩ : ∃ A, A = w.alloc (Obj.cells #[.slice a ps.length c, .slice b ws.length d, .slice e0 ms.length f, .int .i64 q] 32) := ⟨_, rfl⟩
  obtain ⟨A2, hA2⟩ : ∃ A2, A2 = A.alloc (Obj.cells #[.slice none 0 0, .slice none 0 0, .slice none 0 0, .int .i64 0] 32) := ⟨_, rfl⟩
  have hsA : A.heap.size = w.heap.size + 1 := by rw [hA]; simp
  have hb0 : Below w.heap.size w A := by rw [hA]; exact (Below.refl _ _).alloc (Nat.le_refl _) _
  have hb1 : Below A.heap.size A A2 := by rw [hA2]; exact (Below.refl _ _).alloc (Nat.le_refl _) _
  have hb2 := after hb0 hb1
  have k1 : C4 A2 (w.heap.size + 1) (.slice none 0 0) (.slice none 0 0) (.slice none 0 0) (.int .i64 0) := by
    have : C4 A2 A.heap.size (.slice none 0 0) (.slice none 0 0) (.slice none 0 0) (.int .i64 0) := by rw [hA2]; exact c4_new _ _ _ _ _ _
    rw [hsA] at this
    exact this
  have k0 : C4 A2 w.heap.size (.slice a ps.length c) (.slice b ws.length d) (.slice e0 ms.length f) (.int .i64 q) := by
    have : C4 A w.heap.size (.slice a ps.length c) (.slice b ws.length d) (.slice e0 ms.length f) (.int .i64 q) := by rw [hA]; exact c4_new _ _ _ _ _ _
    exact this.below hb1
  have HRD := hide (And.intro (hp.below hb2) (And.intro (hw.below hb2) (hms.below hb2)))
  have HFO := hide (specFtlOk_any a b e0 ps ws ms c d f q A2 (hp.below hb2) (hw.below hb2) (hms.below hb2) (by rw [hch.1]; decide) (by rw [hch.2.1]; decide) (by rw [← hmm, mMap_len]; decide) (fun s h => by have := hch.2.2.1 s h; omega))
  rw [hok] at HFO
  have HCH := hide hch
  have HMM := hide (And.intro hmm hqq)
  have HB2 := hide hb2
  have HK0 := hide k0
  have HK1 := hide k1
  obtain ⟨⟨x0, x1, x2, x3⟩, -⟩ := id k0
  clear hp hw hms hok hch hmm hqq hb0 hb1 hb2 hsA k0 k1
  go_enter Tryz.func5, Tryz.ntmps5
  go_upto_region 1 with fail
  rw [← hA]
  rw [← hA2]
  clear hA hA2
  go_wp2_with fail
  refine HFO.out.mono ?_
  rintro e w1 ⟨rfl, hb1⟩
  have HB1 := hide hb1
  clear HFO hb1 x0 x1 x2 x3
  have HCP : Hid (∀ u, Below w1.heap.size w1 u → Calls Tryz.prog 17 #[.agg #[.slice a ps.length c, .slice b ws.length d, .slice e0 ms.length f, .int .i64 q]] u fun e w' => ∃ a b e0 c d f, e = .returned (.agg #[.slice a ps.length c, .slice b ws.length d, .slice e0 ms.length f, .int .i64 q]) ∧ FtlOwn w' w1.heap.size (.agg #[.slice a ps.length c, .slice b ws.length d, .slice e0 ms.length f, .int .i64 q]) ps ws ms q ∧ Below w1.heap.size w1 w') := by
    intro u hu
    have hu2 := after HB1.out hu
    refine (copy4_any a b e0 ps ws ms c d f q u (HRD.out.1.below hu2) (HRD.out.2.1.below hu2) (HRD.out.2.2.below hu2) HCH.out.1 HCH.out.2.1 (by rw [← HMM.out.1]; exact mMap_len ps)).mono ?_
    rintro e w' ⟨v, rfl, hf, hb⟩
    obtain ⟨a1, c1, b1, d1, e1, f1, rfl⟩ := hf.shape
    obtain ⟨v1, v2, v3, hv, o1, o2, o3, hh⟩ := hf
    exact ⟨_, _, _, _, _, _, rfl, ⟨v1, v2, v3, hv, owns_mono o1 hu.size, owns_mono o2 hu.size, owns_mono o3 hu.size, hh⟩, after hu hb⟩
  have HRK : Hid (∀ u, Below w1.heap.size w1 u → Calls Tryz.prog 18 #[.agg #[.int .i64 s, .int .i64 q, .string t]] u fun e w' => e = .returned (.bool (recOkB s q t)) ∧ Below u.heap.size u w' ∧ Below w1.heap.size w1 w') := by
    intro u hu
    refine (specRecOk_any s q t u (by unfold maxLen; omega)).mono ?_
    rintro e w' ⟨rfl, hb⟩
    exact ⟨rfl, hb, after hu hb⟩
  have HT : Hid (∀ u, Below w1.heap.size w1 u → u.cell? ⟨w.heap.size, 0, none⟩ = some (.slice a ps.length c) ∧ u.cell? ⟨w.heap.size, 1, none⟩ = some (.slice b ws.length d) ∧ u.cell? ⟨w.heap.size, 2, none⟩ = some (.slice e0 ms.length f) ∧ u.cell? ⟨w.heap.size, 3, none⟩ = some (.int .i64 q)) := fun u hu => ((HK0.out.below HB1.out).below hu).1
  obtain ⟨x0, x1, x2, x3⟩ := HT.out w1 (Below.refl _ _)
  obtain ⟨OK, hOK⟩ : ∃ OK, OK = recOkB s q t := ⟨_, rfl⟩
  rw [← hOK] at HRK
  have HOE := hide hOK
  clear hOK
  go_upto_region 3 with fail
  go_cut [9] (fun x wx => ∃ P, x = .pointer (some ⟨P, 0, none⟩) ∧ Hid (Work wx P w1.heap.size ps ws ms q [] OK) ∧ Hid (Below w1.heap.size w1 wx))
  case first =>
    go_region_held (fun w' => w'.cell? ⟨w.heap.size, 0, none⟩ = some (.slice a ps.length c) ∧ w'.cell? ⟨w.heap.size, 1, none⟩ = some (.slice b ws.length d) ∧ w'.cell? ⟨w.heap.size, 2, none⟩ = some (.slice e0 ms.length f) ∧ w'.cell? ⟨w.heap.size, 3, none⟩ = some (.int .i64 q)) (first | assumption | go_keep)
      ((first
        | (go_at_call 17; refine (HCP.out w1.drew (after_drew (Below.refl _ _) 1)).mono ?_; rintro e w2 ⟨a2, b2, e2, c2, d2, f2, rfl, hf, hb⟩; have HF2 := hide hf; have HB := hide hb; have hS := HT.out _ hb; clear hf hb)
        | (go_at_call 18; refine (HRK.out w2 HB.out).mono ?_; rintro e w3 ⟨rfl, hb, hb'⟩; have HF3 := hide (HF2.out.below hb); have HB3 := hide hb'; have hS := HT.out _ hb'; clear hb hb')))
    all_goals (go_wp2_with fail; go_meet; exact ⟨_, rfl, work_new OK HF3.out HB3.out.size HCH.out.1 HCH.out.2.1 (by rw [← HMM.out.1]; exact mMap_len ps), HB3.out.alloc HB3.out.size _⟩)
  case rest =>
  obtain ⟨P, rfl, HWK, HBC⟩ := hcut
  clear HCP HRK HT x0 x1 x2 x3
  cases OK with
  | false =>
    have HPP : Hid (pPlan ps ws s t = none) := by show _ = _; unfold pPlan; rw [if_pos (by rw [HMM.out.2]; exact HOE.out.symm)]
    have HFA : Hid (Failed wc P w1.heap.size) := by obtain ⟨g1, k1, g2, k2, g3, k3, v4, k4, h⟩ := HWK.out; exact ⟨_, _, _, h.acts⟩
    have c5 : wc.cell? ⟨P, 5, none⟩ = some (.bool false) := by obtain ⟨v4, k4, cs, h⟩ := HFA.out; exact h.cells.2.2.1
    have HNO := hide (room5_no P w1.heap.size wc HFA.out)
    go_wp2_with fail
    refine HNO.out.mono ?_
    rintro e u ⟨rfl, hu⟩
    have hu' := hu.symm
    subst hu'
    have HK0u := (HK0.out.below (after HB1.out HBC.out))
    obtain ⟨⟨x0, x1, x2, x3⟩, -⟩ := id HK0u
    have HDN := hide (done5_no a b e0 ps ws ms c d f q P w1.heap.size wc (HRD.out.1.below (after HB1.out HBC.out)) (HRD.out.2.1.below (after HB1.out HBC.out)) (HRD.out.2.2.below (after HB1.out HBC.out)) HCH.out.1 HCH.out.2.1 (by rw [← HMM.out.1]; exact mMap_len ps) HFA.out)
    clear HK0u
    go_wp2_with fail
    refine HDN.out.mono ?_
    rintro e w5 ⟨va, vf, rfl, hact, hftl, hb5⟩
    have hB5 := after HBC.out hb5
    have HPA := hide (plan_fin (base := wc.heap.size) (A2 := A2) (w := w) HB2.out (after HB1.out hB5) (by have := HB1.out.size; have := hB5.size; have := hb5.size; have := HBC.out.size; omega) HK1.out hact hftl)
    obtain ⟨a5, k5, rfl⟩ := owns3_shape hact
    obtain ⟨a6, c6, b6, d6, e6, f6, rfl⟩ := hftl.shape
    have hk5 := HK1.out.below (after HB1.out hB5)
    obtain ⟨V, hV⟩ : ∃ V, V = w5.alloc (Obj.cells #[.slice a6 ps.length c6, .slice b6 ws.length d6, .slice e6 ms.length f6, .int .i64 q] 32) := ⟨_, rfl⟩
    have hbV : Below w5.heap.size w5 V := by rw [hV]; exact (Below.refl _ _).alloc (Nat.le_refl _) _
    have hv5 : C4 V w5.heap.size (.slice a6 ps.length c6) (.slice b6 ws.length d6) (.slice e6 ms.length f6) (.int .i64 q) := by rw [hV]; exact c4_new _ _ _ _ _ _
    obtain ⟨⟨z0, z1, z2, z3⟩, -⟩ := id hv5
    have hkV := hk5.below hbV
    obtain ⟨⟨y0, y1, y2, y3⟩, yf⟩ := id hkV
    have yf0 := yf 0
    have yf1 := yf 1
    have yf2 := yf 2
    have yf3 := yf 3
    have hne5 : ¬ w5.heap.size = w.heap.size + 1 := by have := hk5.lt; omega
    have hne6 : ¬ w.heap.size + 1 = w5.heap.size := by have := hk5.lt; omega
    have HPB := hide (fun n y0 y1 y2 y3 => HPA.out V n y0 y1 y2 y3 hbV)
    clear hv5 hkV hbV HPA hact hftl hb5 hB5 hk5 yf HDN x0 x1 x2 x3 c5 HNO HWK
    go_wp2_with fail
    rw [← hV]
    clear hV
    generalize w5.heap.size = G at hne5 hne6 z0 z1 z2 z3 ⊢
    go_region
    all_goals (go_wp2; exact bodyPost_ret (v := .tuple #[.slice a5 0 k5, .agg #[.slice a6 ps.length c6, .slice b6 ws.length d6, .slice e6 ms.length f6, .int .i64 q], .bool false]) (by simp [results, Tryz.results5, go_sem, y0, y1, y2, y3]) rfl ⟨_, _, by rw [HPP.out]; rfl, no_some HPP.out, fun _ => ⟨(HPB.out 1 _ _ _ _).1, (HPB.out 1 _ _ _ _).2.1⟩, (HPB.out 1 _ _ _ _).2.2⟩)
  | true =>
    have hrk : Hid (recOkB s (mSeq ps) t = true) := by show _ = _; rw [HMM.out.2]; exact HOE.out.symm
    have HRM := room5_any P w1.heap.size ps ws wc (by rw [HMM.out.1, HMM.out.2]; exact HWK.out) HCH.out
    obtain ⟨RR, hRR⟩ : ∃ RR, RR = pRoom 10 ps ws [] := ⟨_, rfl⟩
    rw [← hRR] at HRM
    have HRM := hide HRM
    have HRR := hide hRR
    clear hRR
    go_wp2_with fail
    refine HRM.out.mono ?_
    rintro e w2 ⟨rfl, hb2, hy, hn⟩
    have HBD : Hid (Below w1.heap.size w1 w2) := HBC.out.trans hb2
    have HYN := hide (And.intro hy hn)
    clear hy hn HRM hb2
    cases RR with
    | none =>
      have hr := HRR.out.symm
      have hn := HYN.out.2
      have HPP : Hid (pPlan ps ws s t = none) := by show _ = _; unfold pPlan; rw [if_neg (by rw [hrk.out]; decide), hr]
      have HFA := hide (hn rfl)
      have c5 : w2.cell? ⟨P, 5, none⟩ = some (.bool false) := by obtain ⟨v4, k4, cs, h⟩ := HFA.out; exact h.cells.2.2.1
      clear hn hr HWK HYN HRR
      have HK0u := (HK0.out.below (after HB1.out HBD.out))
      obtain ⟨⟨x0, x1, x2, x3⟩, -⟩ := id HK0u
      have HDN := hide (done5_no a b e0 ps ws ms c d f q P w1.heap.size w2 (HRD.out.1.below (after HB1.out HBD.out)) (HRD.out.2.1.below (after HB1.out HBD.out)) (HRD.out.2.2.below (after HB1.out HBD.out)) HCH.out.1 HCH.out.2.1 (by rw [← HMM.out.1]; exact mMap_len ps) HFA.out)
      clear HK0u
      go_wp2_with fail
      refine HDN.out.mono ?_
      rintro e w5 ⟨va, vf, rfl, hact, hftl, hb5⟩
      have hB5 := after HBD.out hb5
      have HPA := hide (plan_fin (base := w2.heap.size) (A2 := A2) (w := w) HB2.out (after HB1.out hB5) (by have := HB1.out.size; have := hB5.size; have := hb5.size; have := HBD.out.size; omega) HK1.out hact hftl)
      obtain ⟨a5, k5, rfl⟩ := owns3_shape hact
      obtain ⟨a6, c6, b6, d6, e6, f6, rfl⟩ := hftl.shape
      have hk5 := HK1.out.below (after HB1.out hB5)
      obtain ⟨V, hV⟩ : ∃ V, V = w5.alloc (Obj.cells #[.slice a6 ps.length c6, .slice b6 ws.length d6, .slice e6 ms.length f6, .int .i64 q] 32) := ⟨_, rfl⟩
      have hbV : Below w5.heap.size w5 V := by rw [hV]; exact (Below.refl _ _).alloc (Nat.le_refl _) _
      have hv5 : C4 V w5.heap.size (.slice a6 ps.length c6) (.slice b6 ws.length d6) (.slice e6 ms.length f6) (.int .i64 q) := by rw [hV]; exact c4_new _ _ _ _ _ _
      obtain ⟨⟨z0, z1, z2, z3⟩, -⟩ := id hv5
      have hkV := hk5.below hbV
      obtain ⟨⟨y0, y1, y2, y3⟩, yf⟩ := id hkV
      have yf0 := yf 0
      have yf1 := yf 1
      have yf2 := yf 2
      have yf3 := yf 3
      have hne5 : ¬ w5.heap.size = w.heap.size + 1 := by have := hk5.lt; omega
      have hne6 : ¬ w.heap.size + 1 = w5.heap.size := by have := hk5.lt; omega
      have HPB := hide (fun n y0 y1 y2 y3 => HPA.out V n y0 y1 y2 y3 hbV)
      clear hv5 hkV hbV HPA hact hftl hb5 hB5 hk5 yf HDN x0 x1 x2 x3 c5
      go_wp2_with fail
      rw [← hV]
      clear hV
      generalize w5.heap.size = G at hne5 hne6 z0 z1 z2 z3 ⊢
      go_region
      all_goals (go_wp2; exact bodyPost_ret (v := .tuple #[.slice a5 0 k5, .agg #[.slice a6 ps.length c6, .slice b6 ws.length d6, .slice e6 ms.length f6, .int .i64 q], .bool false]) (by simp [results, Tryz.results5, go_sem, y0, y1, y2, y3]) rfl ⟨_, _, by rw [HPP.out]; rfl, no_some HPP.out, fun _ => ⟨(HPB.out 1 _ _ _ _).1, (HPB.out 1 _ _ _ _).2.1⟩, (HPB.out 1 _ _ _ _).2.2⟩)
    | some r =>
      have hr := HRR.out.symm
      have HW2 := hide (HYN.out.1 r rfl)
      have hri := pRoom_right _ _ _ _ _ HCH.out hr
      obtain ⟨pr, wr, cr⟩ := r
      have HRI := hide hri
      have HR := hide hr
      obtain ⟨g1, k1, g2, k2, g3, k3, v4, k4, hW2⟩ := HW2.out
      obtain ⟨⟨-, -, -, -, -, c5⟩, -⟩ := hW2.cells
      have HBN := hide (burn5_any P w1.heap.size g1 k1 g2 k2 g3 k3 v4 k4 pr wr cr s t w2 hW2 hri.1 (by unfold maxLen; omega) hs0 hs1 (by have := hri.2; simp only [List.length_nil] at this; omega))
      clear hr HWK hri hW2 HW2 HYN HRR
      go_wp2_with fail
      refine HBN.out.mono ?_
      rintro e w3 ⟨rfl, hb3, -, hy, hn⟩
      have HBE : Hid (Below w1.heap.size w1 w3) := HBD.out.trans hb3
      cases hb : pBurn pr wr s t with
      | none =>
        have HPP : Hid (pPlan ps ws s t = none) := by show _ = _; unfold pPlan; rw [if_neg (by rw [hrk.out]; decide), HR.out]; simp only []; rw [hb]
        have HFA : Hid (Failed w3 P w1.heap.size) := ⟨_, _, _, (hn hb).acts⟩
        clear hb3 hy hn hb HBN c5
        have HK0u := (HK0.out.below (after HB1.out HBE.out))
        obtain ⟨⟨x0, x1, x2, x3⟩, -⟩ := id HK0u
        have HDN := hide (done5_no a b e0 ps ws ms c d f q P w1.heap.size w3 (HRD.out.1.below (after HB1.out HBE.out)) (HRD.out.2.1.below (after HB1.out HBE.out)) (HRD.out.2.2.below (after HB1.out HBE.out)) HCH.out.1 HCH.out.2.1 (by rw [← HMM.out.1]; exact mMap_len ps) HFA.out)
        clear HK0u
        go_wp2_with fail
        refine HDN.out.mono ?_
        rintro e w5 ⟨va, vf, rfl, hact, hftl, hb5⟩
        have hB5 := after HBE.out hb5
        have HPA := hide (plan_fin (base := w3.heap.size) (A2 := A2) (w := w) HB2.out (after HB1.out hB5) (by have := HB1.out.size; have := hB5.size; have := hb5.size; have := HBE.out.size; omega) HK1.out hact hftl)
        obtain ⟨a5, k5, rfl⟩ := owns3_shape hact
        obtain ⟨a6, c6, b6, d6, e6, f6, rfl⟩ := hftl.shape
        have hk5 := HK1.out.below (after HB1.out hB5)
        obtain ⟨V, hV⟩ : ∃ V, V = w5.alloc (Obj.cells #[.slice a6 ps.length c6, .slice b6 ws.length d6, .slice e6 ms.length f6, .int .i64 q] 32) := ⟨_, rfl⟩
        have hbV : Below w5.heap.size w5 V := by rw [hV]; exact (Below.refl _ _).alloc (Nat.le_refl _) _
        have hv5 : C4 V w5.heap.size (.slice a6 ps.length c6) (.slice b6 ws.length d6) (.slice e6 ms.length f6) (.int .i64 q) := by rw [hV]; exact c4_new _ _ _ _ _ _
        obtain ⟨⟨z0, z1, z2, z3⟩, -⟩ := id hv5
        have hkV := hk5.below hbV
        obtain ⟨⟨y0, y1, y2, y3⟩, yf⟩ := id hkV
        have yf0 := yf 0
        have yf1 := yf 1
        have yf2 := yf 2
        have yf3 := yf 3
        have hne5 : ¬ w5.heap.size = w.heap.size + 1 := by have := hk5.lt; omega
        have hne6 : ¬ w.heap.size + 1 = w5.heap.size := by have := hk5.lt; omega
        have HPB := hide (fun n y0 y1 y2 y3 => HPA.out V n y0 y1 y2 y3 hbV)
        clear hv5 hkV hbV HPA hact hftl hb5 hB5 hk5 yf HDN x0 x1 x2 x3 
        go_wp2_with fail
        rw [← hV]
        clear hV
        generalize w5.heap.size = G at hne5 hne6 z0 z1 z2 z3 ⊢
        go_region
        all_goals (go_wp2; exact bodyPost_ret (v := .tuple #[.slice a5 0 k5, .agg #[.slice a6 ps.length c6, .slice b6 ws.length d6, .slice e6 ms.length f6, .int .i64 q], .bool false]) (by simp [results, Tryz.results5, go_sem, y0, y1, y2, y3]) rfl ⟨_, _, by rw [HPP.out]; rfl, no_some HPP.out, fun _ => ⟨(HPB.out 1 _ _ _ _).1, (HPB.out 1 _ _ _ _).2.1⟩, (HPB.out 1 _ _ _ _).2.2⟩)
      | some bb =>
        have HPP : Hid (pPlan ps ws s t = some (bb.1, wr, cr ++ [bb.2])) := by show _ = _; unfold pPlan; rw [if_neg (by rw [hrk.out]; decide), HR.out]; simp only []; rw [hb]
        have HWF : Hid (Work w3 P w1.heap.size bb.1 wr (mMap bb.1) (mSeq bb.1) (cr ++ [bb.2]) true) := by obtain ⟨v5, k5, h⟩ := hy bb hb; exact ⟨_, _, _, _, _, _, _, _, h⟩
        have HOKF := hide (pBurn_right HRI.out.1 hb)
        clear hb3 hy hn hb HBN c5
        have HK0u := (HK0.out.below (after HB1.out HBE.out))
        obtain ⟨⟨x0, x1, x2, x3⟩, -⟩ := id HK0u
        have HDN := hide (done5_ok (.slice a ps.length c) (.slice b ws.length d) (.slice e0 ms.length f) (.int .i64 q) P w1.heap.size _ _ _ _ _ w3 HWF.out HOKF.out)
        clear HK0u
        go_wp2_with fail
        refine HDN.out.mono ?_
        rintro e w5 ⟨va, vf, rfl, hact, hftl, hb5⟩
        obtain ⟨MM, hMM⟩ : ∃ MM, MM = mMap bb.1 := ⟨_, rfl⟩
        obtain ⟨QQ, hQQ⟩ : ∃ QQ, QQ = mSeq bb.1 := ⟨_, rfl⟩
        have HMQ := hide (And.intro hMM hQQ)
        rw [← hMM, ← hQQ] at hftl
        clear hMM hQQ
        have hB5 := after HBE.out hb5
        have HPA := hide (plan_fin (base := w1.heap.size) (A2 := A2) (w := w) HB2.out (after HB1.out hB5) (by have := HB1.out.size; have := hB5.size; have := hb5.size; have := HBE.out.size; omega) HK1.out hact hftl)
        obtain ⟨a5, k5, rfl⟩ := owns3_shape hact
        obtain ⟨a6, c6, b6, d6, e6, f6, rfl⟩ := hftl.shape
        have hk5 := HK1.out.below (after HB1.out hB5)
        obtain ⟨V, hV⟩ : ∃ V, V = w5.alloc (Obj.cells #[.slice a6 bb.1.length c6, .slice b6 wr.length d6, .slice e6 MM.length f6, .int .i64 QQ] 32) := ⟨_, rfl⟩
        have hbV : Below w5.heap.size w5 V := by rw [hV]; exact (Below.refl _ _).alloc (Nat.le_refl _) _
        have hv5 : C4 V w5.heap.size (.slice a6 bb.1.length c6) (.slice b6 wr.length d6) (.slice e6 MM.length f6) (.int .i64 QQ) := by rw [hV]; exact c4_new _ _ _ _ _ _
        obtain ⟨⟨z0, z1, z2, z3⟩, -⟩ := id hv5
        have hkV := hk5.below hbV
        obtain ⟨⟨y0, y1, y2, y3⟩, yf⟩ := id hkV
        have yf0 := yf 0
        have yf1 := yf 1
        have yf2 := yf 2
        have yf3 := yf 3
        have hne5 : ¬ w5.heap.size = w.heap.size + 1 := by have := hk5.lt; omega
        have hne6 : ¬ w.heap.size + 1 = w5.heap.size := by have := hk5.lt; omega
        have HPB := hide (fun n y0 y1 y2 y3 => HPA.out V n y0 y1 y2 y3 hbV)
        clear hv5 hkV hbV HPA hact hftl hb5 hB5 hk5 yf HDN x0 x1 x2 x3 
        generalize (cr ++ [bb.2]).length = N5 at HPB ⊢
        go_wp2_with fail
        rw [← hV]
        clear hV
        generalize w5.heap.size = G at hne5 hne6 z0 z1 z2 z3 ⊢
        go_region
        all_goals (go_wp2; exact bodyPost_ret (v := .tuple #[.slice a5 N5 k5, .agg #[.slice a6 bb.1.length c6, .slice b6 wr.length d6, .slice e6 MM.length f6, .int .i64 QQ], .bool true]) (by simp [results, Tryz.results5, go_sem, y0, y1, y2, y3]) rfl ⟨_, _, by rw [HPP.out]; rfl, yes_some HPP.out ⟨(HPB.out 1 _ _ _ _).1, by rw [← HMQ.out.1, ← HMQ.out.2]; exact (HPB.out 1 _ _ _ _).2.1⟩, not_none HPP.out, (HPB.out 1 _ _ _ _).2.2⟩)
end Go.Proofs.YtghadfbpcbcpiaaGreat
