/-
  Contract of the specification's l4Copy.
  Contracts of the specification's l5Room, l5Done.
  Contracts of the laws' helpers over records: eqRec, toRec, szRec.
-/
import Derived.Test.YtelbannfbglgcaaJMounted22
import Derived.Test.YtelbannfbglgcaaJMounted13
import Derived.Deep.DeepCutAuto
import Derived.Test.YtelbannfbglgcaaJMounted5
namespace Go.Proofs.Ytelbannfbglgcaa
open Go.RowKit
attribute [local go_sem ↓] Go.wp_at_zero Go.wp_at_succ

theorem copy4_fin {w W wB : World} {b b' gA kA gA' kA' gB kB L : Nat} {ps : List ByteArray} {ws ms : List Int} {q : Int} (hsW : w.heap.size + 1 < W.heap.size) (hBW : Below w.heap.size w W) (hBB : Below W.heap.size W wB)
    (hA : ChipOwn wB b (.agg #[.slice (some ⟨gA, 0, none⟩) ps.length kA, .slice (some ⟨gA', 0, none⟩) ws.length kA']) ps ws) (hb : W.heap.size ≤ b) (hO : wB.ownsRow b' 3 1 (.slice (some ⟨gB, 0, none⟩) L kB) L (vsInt ms)) (hb' : W.heap.size ≤ b') (hL : L = ms.length) (n1 : gA ≠ gB) (n2 : gA' ≠ gB) (y0 y1 y2 y3 : Value) :
    FtlOwn ((((wB.setCell ⟨w.heap.size + 1, 0, none⟩ y0).setCell ⟨w.heap.size + 1, 1, none⟩ y1).setCell ⟨w.heap.size + 1, 2, none⟩ y2).setCell ⟨w.heap.size + 1, 3, none⟩ y3) w.heap.size (.agg #[.slice (some ⟨gA, 0, none⟩) ps.length kA, .slice (some ⟨gA', 0, none⟩) ws.length kA', .slice (some ⟨gB, 0, none⟩) L kB, .int .i64 q]) ps ws ms q ∧
      Below w.heap.size w ((((wB.setCell ⟨w.heap.size + 1, 0, none⟩ y0).setCell ⟨w.heap.size + 1, 1, none⟩ y1).setCell ⟨w.heap.size + 1, 2, none⟩ y2).setCell ⟨w.heap.size + 1, 3, none⟩ y3) := by
  obtain ⟨v1, v2, hv, h1, h2, hne⟩ := hA
  simp only [Value.agg.injEq, Array.mk.injEq, List.cons.injEq, and_true] at hv
  obtain ⟨rfl, rfl⟩ := hv
  subst hL
  have q1 : w.heap.size + 1 < b := by omega
  have q2 : w.heap.size + 1 < b' := by omega
  refine ⟨⟨_, _, _, rfl, ?_, ?_, ?_, hne, ?_, ?_⟩, ((((after hBW hBB).setCell (by show _ ≤ _; simp) _).setCell (by show _ ≤ _; simp) _).setCell (by show _ ≤ _; simp) _).setCell (by show _ ≤ _; simp) _⟩
  · exact owns_mono (ownsRow_setCell_below (ownsRow_setCell_below (ownsRow_setCell_below (ownsRow_setCell_below h1 q1 _) q1 _) q1 _) q1 _) (by omega)
  · exact owns_mono (ownsRow_setCell_below (ownsRow_setCell_below (ownsRow_setCell_below (ownsRow_setCell_below h2 q1 _) q1 _) q1 _) q1 _) (by omega)
  · exact owns_mono (ownsRow_setCell_below (ownsRow_setCell_below (ownsRow_setCell_below (ownsRow_setCell_below hO q2 _) q2 _) q2 _) q2 _) (by omega)
  · intro q hq; simp [Value.ownBlock] at hq ⊢; omega
  · intro q hq; simp [Value.ownBlock] at hq ⊢; omega

set_option maxRecDepth 100000 in
set_option maxHeartbeats 1600000 in
theorem copy4_any (a b e0 : Option Addr) (ps : List ByteArray) (ws ms : List Int) (c d f : Nat) (q : Int) (w : World) (hp : Rd w a (vsString ps)) (hw : Rd w b (vsInt ws)) (hms : Rd w e0 (vsInt ms)) (hl : ps.length = 60) (hm : ws.length = 10) (hn : ms.length = 26) :
    Calls Try.prog 121 #[.agg #[.slice a ps.length c, .slice b ws.length d, .slice e0 ms.length f, .int .i64 q]] w fun e w' => ∃ v, e = .returned v ∧ FtlOwn w' w.heap.size v ps ws ms q ∧ Below w.heap.size w w' := by
  obtain ⟨i2, hi2, hz0, hz1, hz2⟩ := info_parts infoInt
  obtain ⟨N, hN⟩ : ∃ N, N = ps.length := ⟨_, rfl⟩
  obtain ⟨M, hM⟩ : ∃ M, M = ws.length := ⟨_, rfl⟩
  obtain ⟨L, hL⟩ : ∃ L, L = ms.length := ⟨_, rfl⟩
  obtain ⟨b1, o1, rfl, -⟩ := rd_at (k := 0) hp (by simp; omega)
  obtain ⟨b2, o2, rfl, -⟩ := rd_at (k := 0) hw (by simp; omega)
  obtain ⟨b3, o3, rfl, -⟩ := rd_at (k := 0) hms (by simp; omega)
  rw [← hN, ← hM, ← hL]
  have HN : Hid (N = ps.length ∧ M = ws.length ∧ L = ms.length ∧ N = 60 ∧ M = 10 ∧ L = 26) := ⟨hN, hM, hL, by omega, by omega, by omega⟩
  have hL0 : 0 < L := by omega
  have hL1 : L ≤ 100 := by omega
  have hps0 : 0 < ps.length := by omega
  have hws0 : 0 < ws.length := by omega
  obtain ⟨A, hA⟩ : ∃ A, A = w.alloc (Obj.cells #[.slice (some ⟨b1, o1, none⟩) N c, .slice (some ⟨b2, o2, none⟩) M d, .slice (some ⟨b3, o3, none⟩) L f, .int .i64 q] 47) := ⟨_, rfl⟩
  obtain ⟨W, hW⟩ : ∃ W, W = A.alloc (Obj.cells #[.slice none 0 0, .slice none 0 0, .slice none 0 0, .int .i64 0] 47) := ⟨_, rfl⟩
  have hsA : A.heap.size = w.heap.size + 1 := by rw [hA]; simp
  have hb0 : Below w.heap.size w A := by rw [hA]; exact (Below.refl _ _).alloc (Nat.le_refl _) _
  have hb1 : Below A.heap.size A W := by rw [hW]; exact (Below.refl _ _).alloc (Nat.le_refl _) _
  have hbW := after hb0 hb1
  have k0 : C4 W w.heap.size (.slice (some ⟨b1, o1, none⟩) N c) (.slice (some ⟨b2, o2, none⟩) M d) (.slice (some ⟨b3, o3, none⟩) L f) (.int .i64 q) := by
    have : C4 A w.heap.size (.slice (some ⟨b1, o1, none⟩) N c) (.slice (some ⟨b2, o2, none⟩) M d) (.slice (some ⟨b3, o3, none⟩) L f) (.int .i64 q) := by rw [hA]; exact c4_new _ _ _ _ _ _
    exact this.below hb1
  have k1 : C4 W (w.heap.size + 1) (.slice none 0 0) (.slice none 0 0) (.slice none 0 0) (.int .i64 0) := by
    have : C4 W A.heap.size (.slice none 0 0) (.slice none 0 0) (.slice none 0 0) (.int .i64 0) := by rw [hW]; exact c4_new _ _ _ _ _ _
    rw [hsA] at this
    exact this
  have HY : Hid (∀ u, Below W.heap.size W u → (u.cell? ⟨w.heap.size, 0, none⟩ = some (.slice (some ⟨b1, o1, none⟩) N c) ∧ u.cell? ⟨w.heap.size, 1, none⟩ = some (.slice (some ⟨b2, o2, none⟩) M d) ∧ u.cell? ⟨w.heap.size, 2, none⟩ = some (.slice (some ⟨b3, o3, none⟩) L f) ∧ u.cell? ⟨w.heap.size, 3, none⟩ = some (.int .i64 q)) ∧
      (u.cell? ⟨w.heap.size + 1, 0, none⟩ = some (.slice none 0 0) ∧ u.cell? ⟨w.heap.size + 1, 1, none⟩ = some (.slice none 0 0) ∧ u.cell? ⟨w.heap.size + 1, 2, none⟩ = some (.slice none 0 0) ∧ u.cell? ⟨w.heap.size + 1, 3, none⟩ = some (.int .i64 0)) ∧ u.frozen? ⟨w.heap.size + 1, 0, none⟩ = false ∧ u.frozen? ⟨w.heap.size + 1, 1, none⟩ = false ∧ u.frozen? ⟨w.heap.size + 1, 2, none⟩ = false ∧ u.frozen? ⟨w.heap.size + 1, 3, none⟩ = false) :=
    fun u hu => ⟨(k0.below hu).1, (k1.below hu).1, (k1.below hu).2 0, (k1.below hu).2 1, (k1.below hu).2 2, (k1.below hu).2 3⟩
  have HCM : Hid (∀ w', Below W.heap.size W w' → Hid (∀ j u, (vsInt ms)[j]? = some u → w'.cell? ((⟨b3, o3, none⟩ : Addr).add j) = some u)) := by
    intro w' hb j u hu
    rcases (hms.below hbW).below hb with h | ⟨b, o, he, hc⟩
    · rw [h] at hu; simp at hu
    · simp at he; obtain ⟨rfl, rfl⟩ := he; rw [add_at]; exact hc j u hu
  have HCP : Hid (∀ u, Below W.heap.size W u → Calls Try.prog 62 #[.agg #[.slice (some ⟨b1, o1, none⟩) N c, .slice (some ⟨b2, o2, none⟩) M d]] u fun e w' => ∃ v, e = .returned v ∧ ChipOwn w' u.heap.size v ps ws ∧ Below u.heap.size u w') := by
    intro u hu
    rw [hN, hM]
    exact copy_any _ _ ps ws c d u ((hp.below hbW).below hu) ((hw.below hbW).below hu) hl hm
  have hlw : Hid ((vsInt ms).length = L * 1) := by show _ = _; simp [hL]
  have hdr : Below W.heap.size W W.drew := after_drew (Below.refl _ _) 1
  have HAL : Hid (Below W.heap.size W (W.alloc (Obj.cells #[] 3)).drew) := after_drew ((Below.refl _ _).alloc (Nat.le_refl _) _) 1
  have hsW : w.heap.size + 1 < W.heap.size := k1.lt
  have hne1 : ¬ w.heap.size = W.heap.size := by omega
  obtain ⟨⟨x0, x1, x2, x3⟩, -⟩ := id k0
  have HBW := hide hbW
  clear hp hw hms hN hM hL hl hm hn hb0 hb1 hbW hsA k0 k1
  go_enter Try.func121, Try.ntmps121
  go_wp2_with fail
  rw [← hA]
  rw [← hW]
  clear hA hW
  go_region_held_law (fun w' => w'.cell? ⟨w.heap.size, 0, none⟩ = some (.slice (some ⟨b1, o1, none⟩) N c) ∧ w'.cell? ⟨w.heap.size, 1, none⟩ = some (.slice (some ⟨b2, o2, none⟩) M d) ∧ w'.cell? ⟨w.heap.size, 2, none⟩ = some (.slice (some ⟨b3, o3, none⟩) L f) ∧ w'.cell? ⟨w.heap.size, 3, none⟩ = some (.int .i64 q))
    (first | assumption | go_keep)
    ((first
      | (refine step_append_grows (by rfl) (.tmp 6) (.tmp 8) 25 (by rfl) 3 i2 (.int .i64 0) 1 8 Try.underlying25 hi2 hz0 hz1 hz2 rfl (by decide) _ 0 0 [] (by rfl) (by simp) (by simp) (by simp) ⟨b3, o3, none⟩ L f (vsInt ms) (by rfl) hlw.out ((HCM.out wA HBA.out).out) (by intro u hu; simp at hu; obtain ⟨x, -, rfl⟩ := hu; rfl) (by omega) (by unfold maxLen; omega) (by omega) ?_; intro vB wB hoB hgB; have hbB := (Below.refl _ _).grown hgB (Nat.le_refl _) (by simp); have HBB : Hid (Below W.heap.size W wB) := after HBA.out hbB; simp only [Nat.zero_add, List.nil_append] at hoB; obtain ⟨gB, kB, hvB, hlB, hgB'⟩ := owns_form hoB hL0; subst hvB; have hSB := (HY.out wB HBB.out).1; obtain ⟨-, ⟨r0, r1, r2, r3⟩, rf0, rf1, rf2, rf3⟩ := HY.out wB HBB.out; have HOB := hide hoB; have HbB := hide hbB; clear hoB hgB hbB)
      | (refine step_append_grows (by rfl) (.tmp 6) (.tmp 8) 25 (by rfl) 3 i2 (.int .i64 0) 1 8 Try.underlying25 hi2 hz0 hz1 hz2 rfl (by decide) _ 0 0 [] (by rfl) (by simp) (by simp) (by simp) ⟨b3, o3, none⟩ L f (vsInt ms) (by rfl) hlw.out ((HCM.out (wA.alloc (Obj.cells #[] 3)) (after HBA.out ((Below.refl _ _).alloc (Nat.le_refl _) _))).out) (by intro u hu; simp at hu; obtain ⟨x, -, rfl⟩ := hu; rfl) (by omega) (by unfold maxLen; omega) (by omega) ?_; intro vB wB hoB hgB; have hbB := (Below.refl _ _).grown hgB (Nat.le_refl _) (by simp); have HBB : Hid (Below W.heap.size W wB) := after (after HBA.out ((Below.refl _ _).alloc (Nat.le_refl _) _)) hbB; simp only [Nat.zero_add, List.nil_append] at hoB; obtain ⟨gB, kB, hvB, hlB, hgB'⟩ := owns_form hoB hL0; subst hvB; have hSB := (HY.out wB HBB.out).1; obtain ⟨-, ⟨r0, r1, r2, r3⟩, rf0, rf1, rf2, rf3⟩ := HY.out wB HBB.out; have HOB := hide hoB; have HbB := hide hbB; clear hoB hgB hbB)
      | (go_at_call 62; refine (HCP.out W.drew hdr).mono ?_; rintro e wA ⟨v, rfl, hownA, hbA⟩; obtain ⟨gA, kA, gA', kA', hvA, -, -, hneA, hgA1, hgA2, hgA3, hgA4⟩ := own_form hownA hps0 hws0; subst hvA; have HBA : Hid (Below W.heap.size W wA) := after hdr hbA; have hSA := (HY.out wA HBA.out).1; have HOA := hide hownA; clear hownA hbA)
      | (go_at_call 62; refine (HCP.out (W.alloc (Obj.cells #[] 3)).drew HAL.out).mono ?_; rintro e wA ⟨v, rfl, hownA, hbA⟩; obtain ⟨gA, kA, gA', kA', hvA, -, -, hneA, hgA1, hgA2, hgA3, hgA4⟩ := own_form hownA hps0 hws0; subst hvA; have HBA : Hid (Below W.heap.size W wA) := after HAL.out hbA; have hSA := (HY.out wA HBA.out).1; have HOA := hide hownA; clear hownA hbA)))
  all_goals clear HY HCM HCP
  all_goals go_wp2
  all_goals
    have fin := copy4_fin (q := q) hsW HBW.out HBB.out (own_below HOA.out (by first | exact HbB.out | exact after ((Below.refl _ _).alloc (Nat.le_refl _) _) HbB.out)) (by simp) HOB.out (by have := HBA.out.size; simp; omega) HN.out.2.2.1 (by first | omega | (simp at hlB; omega)) (by first | omega | (simp at hlB; omega)) (.slice (some ⟨gA, 0, none⟩) ps.length kA) (.slice (some ⟨gA', 0, none⟩) ws.length kA') (.slice (some ⟨gB, 0, none⟩) L kB) (.int .i64 q)
    exact bodyPost_ret (v := .agg #[.slice (some ⟨gA, 0, none⟩) ps.length kA, .slice (some ⟨gA', 0, none⟩) ws.length kA', .slice (some ⟨gB, 0, none⟩) L kB, .int .i64 q]) (by simp [results, Try.results121, go_sem, r0, r1, r2, r3]) rfl ⟨_, rfl, fin⟩

end Go.Proofs.Ytelbannfbglgcaa

namespace Go.Proofs.Ytelbannfbglgcaa
open Go.RowKit

theorem ftlOk_of {ps : List ByteArray} {ws : List Int} (h : chipOkP ps ws) : ftlOkB ps ws (mMap ps) (mSeq ps) = true := by simp [ftlOkB, chipOkB_true h]
theorem set4_keep {w1 : World} {B x j : Nat} {v a b c d : Value} (h : w1.cell? ⟨x, j, none⟩ = some v) (hne : B ≠ x) : ((((w1.setCell ⟨B, 0, none⟩ a).setCell ⟨B, 1, none⟩ b).setCell ⟨B, 2, none⟩ c).setCell ⟨B, 3, none⟩ d).cell? ⟨x, j, none⟩ = some v :=
  cell_other (cell_other (cell_other (cell_other h hne) hne) hne) hne
theorem openB_bd (ps : List ByteArray) (ws : List Int) : -1 ≤ openB ps ws ∧ openB ps ws ≤ 9 := by
  have := nextP_bd ps ws
  unfold openB
  split <;> omega
/-- The state of the loop that makes room. -/
def RMs (wr : World) (P base : Nat) (R : Option (List ByteArray × List Int × List (Int × Int × ByteArray))) (k : Nat) : Prop :=
  (∃ ps ws cs, Work wr P base ps ws (mMap ps) (mSeq ps) cs true ∧ chipOkP ps ws ∧ pRoom (10 - k) ps ws cs = R ∧ cs.length ≤ 157 * k) ∨ (R = none ∧ Failed wr P base)
theorem pRoom_enough {n : Nat} {ps : List ByteArray} {ws : List Int} {cs : List (Int × Int × ByteArray)} (h : pEnough ps ws) : pRoom (n + 1) ps ws cs = some (ps, ws, cs) := by simp only [pRoom]; rw [if_pos h]
theorem pRoom_noworst {n : Nat} {ps : List ByteArray} {ws : List Int} {cs : List (Int × Int × ByteArray)} (h : ¬ pEnough ps ws) (h2 : worstB ps ws (mMap ps) < 0) : pRoom (n + 1) ps ws cs = none := by simp only [pRoom]; rw [if_neg h, if_pos h2]
theorem pRoom_clean {n b : Nat} {ps : List ByteArray} {ws : List Int} {cs : List (Int × Int × ByteArray)} (h : ¬ pEnough ps ws) (h2 : worstB ps ws (mMap ps) = (b : Int)) : pRoom (n + 1) ps ws cs = match pClean b ps ws cs with | none => none | some r => pRoom n r.1 r.2.1 r.2.2 := by
  simp only [pRoom]; rw [if_neg h, if_neg (by omega), h2, Int.toNat_natCast]; rfl

set_option maxRecDepth 100000 in
set_option maxHeartbeats 12800000 in
theorem room5_any (P base : Nat) (ps : List ByteArray) (ws : List Int) (w : World) (hW : Work w P base ps ws (mMap ps) (mSeq ps) [] true) (hok : chipOkP ps ws) :
    Calls Try.prog 135 #[.pointer (some ⟨P, 0, none⟩)] w fun e w' => e = .returned (.tuple #[]) ∧ Below base w w' ∧
      (∀ r, pRoom 10 ps ws [] = some r → Work w' P base r.1 r.2.1 (mMap r.1) (mSeq r.1) r.2.2 true) ∧ (pRoom 10 ps ws [] = none → Failed w' P base) := by
  obtain ⟨R, hR⟩ : ∃ R, R = pRoom 10 ps ws [] := ⟨_, rfl⟩
  have HW := hide hW
  have HOK := hide hok
  have HR := hide hR
  rw [← hR]
  clear hW hok hR
  go_enter Try.func135, Try.ntmps135
  go_wp2_with fail
  go_loopw [2] (fun i wr => ∃ k : Nat, k ≤ 10 ∧ i = .int .i64 k ∧ Hid (RMs wr P base R k) ∧ Hid (Below base w wr)) (fun i _ => 10 - (intOf i).toNat)
  case atStart => exact ⟨0, by omega, rfl, .inl ⟨ps, ws, [], HW.out, HOK.out, HR.out.symm, by simp⟩, Below.refl _ _⟩
  case round =>
    obtain ⟨k, hk, rfl, hst, hbr⟩ := hrel
    rcases hst.out with ⟨pk, wk, ck, hw, hok, hrm, hck⟩ | ⟨hRn, v4, k4, c5, hw⟩
    · obtain ⟨g1, k1, g2, k2, g3, k3, v4, k4, hw⟩ := hw
      obtain ⟨⟨c0, c1, c2, c3, c4, c5⟩, fz⟩ := hw.cells
      have HWK := hide hw
      have HOKk := hide hok
      have HRM := hide hrm
      have HCK := hide hck
      clear hst hw hok hrm hck
      by_cases hlt : k < 10
      · have t1 : decide ((k : Int) < 10) = true := by simp; omega
        have HRM : Hid (pRoom ((9 - k) + 1) pk wk ck = R) := by rw [show 9 - k + 1 = 10 - k by omega]; exact HRM
        have HFB := hide (specFree_ok (some ⟨g1, 0, none⟩) (some ⟨g2, 0, none⟩) pk wk k1 k2 wr HWK.out.rd.1 HWK.out.rd.2.1 HOKk.out)
        obtain ⟨n, hn⟩ : ∃ n, n = (freeB pk 10).length := ⟨_, rfl⟩
        have hn10 : n ≤ 10 := by rw [hn]; exact freeB_len pk 10
        rw [← hn] at HFB
        have HEN : Hid (pEnough pk wk ↔ (2 < n ∨ (n = 2 ∧ 0 ≤ openB pk wk))) := by show _ ↔ _; rw [hn]; exact Iff.rfl
        have HOP : Hid (∀ u, Below wr.heap.size wr u → Calls Try.prog 138 #[.agg #[.slice (some ⟨g1, 0, none⟩) pk.length k1, .slice (some ⟨g2, 0, none⟩) wk.length k2]] u fun e w' => e = .returned (.int .i64 (openB pk wk)) ∧ Below u.heap.size u w') := fun u hu =>
          open_any _ _ pk wk k1 k2 u (HWK.out.below hu).rd.1 (HWK.out.below hu).rd.2.1 HOKk.out.1 HOKk.out.2.1
        have HWO : Hid (∀ u, Below wr.heap.size wr u → Calls Try.prog 139 #[.agg #[.slice (some ⟨g1, 0, none⟩) pk.length k1, .slice (some ⟨g2, 0, none⟩) wk.length k2, .slice (some ⟨g3, 0, none⟩) (mMap pk).length k3, .int .i64 (mSeq pk)]] u fun e w' => e = .returned (.int .i64 (worstB pk wk (mMap pk))) ∧ Below u.heap.size u w') := fun u hu =>
          specWorst_ok _ _ _ pk wk (mMap pk) k1 k2 k3 (mSeq pk) u (HWK.out.below hu).rd.1 (HWK.out.below hu).rd.2.1 (HWK.out.below hu).rd.2.2 (ftlOk_of HOKk.out)
        clear hn
        go_wp2_with fail
        refine HFB.out.mono ?_
        rintro e w1 ⟨v, rfl, hown, hb1⟩
        obtain ⟨a1, c1', rfl⟩ := owns_shape hown
        have HW1 := hide (HWK.out.below hb1)
        have HB1 := hide hb1
        clear hown hb1 HFB c0 c1 c2 c3 c4 c5 fz
        obtain ⟨⟨c0, c1, c2, c3, c4, c5⟩, fz⟩ := HW1.out.cells
        have HBF : Hid (∀ u, Below wr.heap.size wr u → Below base w u) := fun u hu => hbr.out.trans (hu.mono HWK.out.lt.2.2)
        have REST : Hid (¬ pEnough pk wk → ∀ u, Below wr.heap.size wr u → Hid (Below wr.heap.size wr u) ∧ Hid (WorkAt u P base g1 k1 g2 k2 g3 k3 v4 k4 pk wk (mMap pk) (mSeq pk) ck true)) := fun _ u hu => ⟨hu, HWK.out.below hu⟩
        by_cases hn2 : 2 < n
        · have t2 : decide ((2 : Int) < (n : Int)) = true := by simp; omega
          have HY : Hid (R = some (pk, wk, ck)) := by show _ = _; rw [← HRM.out]; exact pRoom_enough (HEN.out.2 (.inl hn2))
          go_wp2
          exact bodyPost_ret (v := .tuple #[]) (results_none Try.results135 _ _ _) rfl ⟨rfl, HBF.out _ HB1.out, yes_some HY.out ⟨_, _, _, _, _, _, _, _, HW1.out⟩, not_none HY.out⟩
        · have t2 : decide ((2 : Int) < (n : Int)) = false := by simp; omega
          by_cases he2 : n = 2
          · subst he2
            have HNO := hide (openB_bd pk wk)
            go_wp2_with fail
            refine (HOP.out _ HB1.out).mono ?_
            rintro e w2 ⟨rfl, hb2⟩
            have HB2 := hide (after HB1.out hb2)
            have HW2 := hide (HWK.out.below HB2.out)
            clear hb2 HB1 HW1 c0 c1 c2 c3 c4 c5 fz
            obtain ⟨⟨c0, c1, c2, c3, c4, c5⟩, fz⟩ := HW2.out.cells
            obtain ⟨O, hO⟩ : ∃ O, O = openB pk wk := ⟨_, rfl⟩
            have HOE := hide hO
            rw [← hO]
            clear hO
            by_cases h0 : 0 ≤ O
            · have t3 : decide ((0 : Int) ≤ O) = true := by simpa using h0
              have HY : Hid (R = some (pk, wk, ck)) := by show _ = _; rw [← HRM.out]; exact pRoom_enough (HEN.out.2 (.inr ⟨by trivial, by rw [← HOE.out]; exact h0⟩))
              go_wp2
              exact bodyPost_ret (v := .tuple #[]) (results_none Try.results135 _ _ _) rfl ⟨rfl, HBF.out _ HB2.out, yes_some HY.out ⟨_, _, _, _, _, _, _, _, HW2.out⟩, not_none HY.out⟩
            · have t3 : decide ((0 : Int) ≤ O) = false := by simpa using h0
              have HNE : Hid (¬ pEnough pk wk) := fun h => by rcases HEN.out.1 h with h | ⟨_, h⟩; omega; rw [← HOE.out] at h; exact h0 h
              go_wp2_with fail
              refine (HWO.out _ HB2.out).mono ?_
              rintro e w3 ⟨rfl, hb3⟩
              have HB3 := hide (after HB2.out hb3)
              have HW3 := hide (HWK.out.below HB3.out)
              clear hb3 HWO HOP c0 c1 c2 c3 c4 c5 fz HB2
              obtain ⟨⟨c0, c1, c2, c3, c4, c5⟩, fz⟩ := HW3.out.cells
              have fz5 := fz 5
              obtain ⟨B, hB⟩ : ∃ B, B = worstB pk wk (mMap pk) := ⟨_, rfl⟩
              have HBE := hide hB
              rw [← hB]
              clear hB
              by_cases hneg : B < 0
              · have HRN : Hid (R = none) := by show _ = _; rw [← HRM.out]; exact pRoom_noworst HNE.out (by rw [← HBE.out]; exact hneg)
                have t9 : decide (B < 0) = true := by simpa using hneg
                have h5 := HW3.out.flag false
                have HZ : Hid (Below base w (w3.setCell ⟨P, 5, none⟩ (.bool false)) ∧ Failed (w3.setCell ⟨P, 5, none⟩ (.bool false)) P base) := ⟨(HBF.out _ HB3.out).trans h5.2, _, _, _, h5.1.acts⟩
                clear h5
                go_wp2
                exact bodyPost_ret (v := .tuple #[]) (results_none Try.results135 _ _ _) rfl ⟨rfl, HZ.out.1, no_some HRN.out, fun _ => HZ.out.2⟩
              · obtain ⟨b, rfl⟩ : ∃ b : Nat, B = b := ⟨B.toNat, by omega⟩
                have t9 : decide ((b : Int) < 0) = false := by simp
                have HRC := hide ((pRoom_clean (n := 9 - k) (cs := ck) HNE.out HBE.out.symm).symm.trans HRM.out)
                have HCL := hide (clean5_any P base b pk wk ck w3 ⟨_, _, _, _, _, _, _, _, HW3.out⟩ HOKk.out (worst_used HOKk.out.1 HBE.out.symm).1 (by have := HCK.out; omega))
                go_wp2_with fail
                refine HCL.out.mono ?_
                rintro e w4 ⟨rfl, hb4, hy, hn⟩
                have HB4 : Hid (Below base w w4) := (HBF.out _ HB3.out).trans hb4
                have HS4 : Hid (RMs w4 P base R (k + 1)) := by
                  cases hb : pClean b pk wk ck with
                  | none =>
                    rw [hb] at HRC
                    exact .inr ⟨HRC.out.symm, hn hb⟩
                  | some r =>
                    rw [hb] at HRC
                    have hri := pClean_right HOKk.out hb
                    exact .inl ⟨_, _, _, hy r hb, hri.1, by rw [show 10 - (k + 1) = 9 - k by omega]; exact HRC.out, by have := HCK.out; omega⟩
                clear hb4 hy hn HCL HRC c0 c1 c2 c3 c4 c5 fz5 fz
                go_wp2
                exact ⟨⟨k + 1, by omega, by go_num, HS4, HB4⟩, by simp [intOf]; omega⟩
          · have t3 : ((n : Int) == 2) = false := by simp; omega
            have HNE : Hid (¬ pEnough pk wk) := fun h => by rcases HEN.out.1 h with h | ⟨h, _⟩; omega; exact he2 h
            go_wp2_with fail
            refine (HWO.out _ HB1.out).mono ?_
            rintro e w3 ⟨rfl, hb3⟩
            have HB3 := hide (after HB1.out hb3)
            have HW3 := hide (HWK.out.below HB3.out)
            clear hb3 HWO HOP c0 c1 c2 c3 c4 c5 fz HB1
            obtain ⟨⟨c0, c1, c2, c3, c4, c5⟩, fz⟩ := HW3.out.cells
            have fz5 := fz 5
            obtain ⟨B, hB⟩ : ∃ B, B = worstB pk wk (mMap pk) := ⟨_, rfl⟩
            have HBE := hide hB
            rw [← hB]
            clear hB
            by_cases hneg : B < 0
            · have HRN : Hid (R = none) := by show _ = _; rw [← HRM.out]; exact pRoom_noworst HNE.out (by rw [← HBE.out]; exact hneg)
              have t9 : decide (B < 0) = true := by simpa using hneg
              have h5 := HW3.out.flag false
              have HZ : Hid (Below base w (w3.setCell ⟨P, 5, none⟩ (.bool false)) ∧ Failed (w3.setCell ⟨P, 5, none⟩ (.bool false)) P base) := ⟨(HBF.out _ HB3.out).trans h5.2, _, _, _, h5.1.acts⟩
              clear h5
              go_wp2
              exact bodyPost_ret (v := .tuple #[]) (results_none Try.results135 _ _ _) rfl ⟨rfl, HZ.out.1, no_some HRN.out, fun _ => HZ.out.2⟩
            · obtain ⟨b, rfl⟩ : ∃ b : Nat, B = b := ⟨B.toNat, by omega⟩
              have t9 : decide ((b : Int) < 0) = false := by simp
              have HRC := hide ((pRoom_clean (n := 9 - k) (cs := ck) HNE.out HBE.out.symm).symm.trans HRM.out)
              have HCL := hide (clean5_any P base b pk wk ck w3 ⟨_, _, _, _, _, _, _, _, HW3.out⟩ HOKk.out (worst_used HOKk.out.1 HBE.out.symm).1 (by have := HCK.out; omega))
              go_wp2_with fail
              refine HCL.out.mono ?_
              rintro e w4 ⟨rfl, hb4, hy, hn⟩
              have HB4 : Hid (Below base w w4) := (HBF.out _ HB3.out).trans hb4
              have HS4 : Hid (RMs w4 P base R (k + 1)) := by
                cases hb : pClean b pk wk ck with
                | none =>
                  rw [hb] at HRC
                  exact .inr ⟨HRC.out.symm, hn hb⟩
                | some r =>
                  rw [hb] at HRC
                  have hri := pClean_right HOKk.out hb
                  exact .inl ⟨_, _, _, hy r hb, hri.1, by rw [show 10 - (k + 1) = 9 - k by omega]; exact HRC.out, by have := HCK.out; omega⟩
              clear hb4 hy hn HCL HRC c0 c1 c2 c3 c4 c5 fz5 fz
              go_wp2
              exact ⟨⟨k + 1, by omega, by go_num, HS4, HB4⟩, by simp [intOf]; omega⟩
      · obtain rfl : k = 10 := by omega
        have HY : Hid (R = some (pk, wk, ck)) := by show _ = _; rw [← HRM.out]; rfl
        go_wp2
        exact bodyPost_end (v := .tuple #[]) (results_none Try.results135 _ _ _) rfl ⟨rfl, hbr.out, yes_some HY.out ⟨_, _, _, _, _, _, _, _, HWK.out⟩, not_none HY.out⟩
    · obtain ⟨-, c4, c5, -, -⟩ := hw.cells
      have HZ : Hid (Failed wr P base) := ⟨_, _, _, hw⟩
      have HRN := hide hRn
      clear hst hw hRn
      by_cases hlt : k < 10
      · have t1 : decide ((k : Int) < 10) = true := by simp; omega
        go_wp2
        exact bodyPost_end (v := .tuple #[]) (results_none Try.results135 _ _ _) rfl ⟨rfl, hbr.out, no_some HRN.out, fun _ => HZ.out⟩
      · have t1 : decide ((k : Int) < 10) = false := by simp; omega
        go_wp2
        exact bodyPost_end (v := .tuple #[]) (results_none Try.results135 _ _ _) rfl ⟨rfl, hbr.out, no_some HRN.out, fun _ => HZ.out⟩

set_option maxHeartbeats 1600000 in
/-- Of work that failed already nothing is made. -/
theorem room5_no (P base : Nat) (w : World) (hF : Failed w P base) : Calls Try.prog 135 #[.pointer (some ⟨P, 0, none⟩)] w fun e w' => e = .returned (.tuple #[]) ∧ w' = w := by
  obtain ⟨v4, k4, cs, hF⟩ := hF
  have c5 := hF.cells.2.2.1
  clear hF
  go_enter Try.func135, Try.ntmps135
  go_wp2_with fail
  go_loopw [2] (fun i wr => i = .int .i64 0 ∧ wr = w) (fun _ _ => 0)
  case atStart => exact ⟨rfl, rfl⟩
  case round =>
    obtain ⟨rfl, rfl⟩ := hrel
    go_wp2
    exact bodyPost_end (v := .tuple #[]) (results_none Try.results135 _ _ _) rfl ⟨rfl, rfl⟩

/-- A row of acts that is the call's own. -/
def ActsOwn (w : World) (base : Nat) (v : Value) (cs : List (Int × Int × ByteArray)) : Prop := w.ownsRow base 68 3 v cs.length (vsAct cs)

set_option maxRecDepth 100000 in
set_option maxHeartbeats 3200000 in
/-- Of work that failed: no acts, and what it began with. -/
theorem done5_no (a b e0 : Option Addr) (ps : List ByteArray) (ws ms : List Int) (c d f : Nat) (q : Int) (P base : Nat) (w : World) (hp : Rd w a (vsString ps)) (hw : Rd w b (vsInt ws)) (hms : Rd w e0 (vsInt ms)) (hl : ps.length = 60) (hm : ws.length = 10) (hn : ms.length = 26) (hF : Failed w P base) :
    Calls Try.prog 137 #[.agg #[.slice a ps.length c, .slice b ws.length d, .slice e0 ms.length f, .int .i64 q], .pointer (some ⟨P, 0, none⟩)] w fun e w' => ∃ va vf, e = .returned (.tuple #[va, vf, .bool false]) ∧ ActsOwn w' w.heap.size va [] ∧ FtlOwn w' w.heap.size vf ps ws ms q ∧ Below w.heap.size w w' := by
  obtain ⟨A, hA⟩ : ∃ A, A = w.alloc (Obj.cells #[.slice a ps.length c, .slice b ws.length d, .slice e0 ms.length f, .int .i64 q] 47) := ⟨_, rfl⟩
  obtain ⟨A2, hA2⟩ : ∃ A2, A2 = A.alloc (Obj.cells #[.slice none 0 0, .slice none 0 0, .slice none 0 0, .int .i64 0] 47) := ⟨_, rfl⟩
  have hsA : A.heap.size = w.heap.size + 1 := by rw [hA]; simp
  have hsA2 : A2.heap.size = w.heap.size + 1 + 1 := by rw [hA2]; simp [hsA]
  have hb0 : Below w.heap.size w A := by rw [hA]; exact (Below.refl _ _).alloc (Nat.le_refl _) _
  have hb1 : Below A.heap.size A A2 := by rw [hA2]; exact (Below.refl _ _).alloc (Nat.le_refl _) _
  have hb2 := after hb0 hb1
  obtain ⟨W, hW⟩ : ∃ W, W = A2.alloc (Obj.cells #[] 68) := ⟨_, rfl⟩
  have hb3 : Below A2.heap.size A2 W := by rw [hW]; exact (Below.refl _ _).alloc (Nat.le_refl _) _
  have hbW := after hb2 hb3
  have k0 : C4 A w.heap.size (.slice a ps.length c) (.slice b ws.length d) (.slice e0 ms.length f) (.int .i64 q) := by rw [hA]; exact c4_new _ _ _ _ _ _
  have k1 : C4 A2 (w.heap.size + 1) (.slice none 0 0) (.slice none 0 0) (.slice none 0 0) (.int .i64 0) := by
    have : C4 A2 A.heap.size (.slice none 0 0) (.slice none 0 0) (.slice none 0 0) (.int .i64 0) := by rw [hA2]; exact c4_new _ _ _ _ _ _
    rw [hsA] at this
    exact this
  obtain ⟨v4, k4, cs, hF⟩ := hF
  have x5 := (hF.below hb2).cells.2.2.1
  have K0 := k0.below hb1
  have HCP := hide (copy4_any a b e0 ps ws ms c d f q W (hp.below hbW) (hw.below hbW) (hms.below hbW) hl hm hn)
  have K1 := k1.below hb3
  have hlt1 : w.heap.size + 1 < A2.heap.size := k1.lt
  have HE : Hid (W.ownsRow w.heap.size 68 3 (.slice (some ⟨A2.heap.size, 0, none⟩) 0 0) 0 []) := by
    show W.ownsRow _ _ _ _ _ _
    rw [hW]
    exact World.ownsRow_made A2 #[] 0 (by omega) (Nat.zero_le _) rfl
  have HBW := hide hbW
  have hsW : w.heap.size + 1 < W.heap.size := K1.lt
  have hlt0 : w.heap.size < A2.heap.size := K0.lt
  clear hp hw hms hb0 hb1 hb2 hb3 hbW k0 k1 hF hsA hsA2 hl hm hn
  go_enter Try.func137, Try.ntmps137
  go_upto_region 1 with fail
  rw [← hA]
  rw [← hA2]
  clear hA hA2
  obtain ⟨⟨y0, y1, y2, y3⟩, -⟩ := id (K0)
  go_wp2_with fail
  rw [← hW]
  clear hW x5 y0 y1 y2 y3
  refine HCP.out.mono ?_
  rintro e w1 ⟨v, rfl, hf, hb1⟩
  obtain ⟨a1, c1, b1, d1, e1, f1, rfl⟩ := hf.shape
  have K2 := K1.below hb1
  have HE1 := hide (owns_below HE.out hb1)
  have HB1 := hide (after HBW.out hb1)
  have HF1 := hide hf
  have hsw1 := hb1.size
  obtain ⟨⟨n0, n1, n2, n3⟩, nf⟩ := id K2
  have f0 := nf 0
  have f1' := nf 1
  have f2 := nf 2
  have f3 := nf 3
  clear hf hb1 HCP K0 K1 K2 nf HE
  go_wp2
  have hne : ∀ {e : TypeId} {size n : Nat} {v : Value} {xs : List Value} {bs : Nat} (y0 y1 y2 y3 : Value), w1.ownsRow bs e size v n xs → (∀ k, v.ownBlock = some k → k ≠ w.heap.size + 1) → ((((w1.setCell ⟨w.heap.size + 1, 0, none⟩ y0).setCell ⟨w.heap.size + 1, 1, none⟩ y1).setCell ⟨w.heap.size + 1, 2, none⟩ y2).setCell ⟨w.heap.size + 1, 3, none⟩ y3).ownsRow bs e size v n xs := fun y0 y1 y2 y3 ho hk =>
    ownsRow_setCell_other (ownsRow_setCell_other (ownsRow_setCell_other (ownsRow_setCell_other ho (fun h => hk _ h rfl) _) (fun h => hk _ h rfl) _) (fun h => hk _ h rfl) _) (fun h => hk _ h rfl) _
  obtain ⟨v1, v2, v3, hv, o1, o2, o3, h12, h13, h23⟩ := HF1.out
  refine bodyPost_ret (v := .tuple #[.slice (some ⟨A2.heap.size, 0, none⟩) 0 0, .agg #[.slice a1 ps.length c1, .slice b1 ws.length d1, .slice e1 ms.length f1, .int .i64 q], .bool false]) (by simp [results, Try.results137, go_sem, n0, n1, n2, n3]) rfl ⟨_, _, rfl, ?_, ⟨v1, v2, v3, hv, ?_, ?_, ?_, h12, h13, h23⟩, (((HB1.out.setCell (by show _ ≤ _; simp) _).setCell (by show _ ≤ _; simp) _).setCell (by show _ ≤ _; simp) _).setCell (by show _ ≤ _; simp) _⟩
  · exact hne _ _ _ _ HE1.out (fun k hk => by simp [Value.ownBlock] at hk; omega)
  · exact hne _ _ _ _ (owns_mono o1 (by omega)) (fun k hk => by have := (o1.lt k hk).1; omega)
  · exact hne _ _ _ _ (owns_mono o2 (by omega)) (fun k hk => by have := (o2.lt k hk).1; omega)
  · exact hne _ _ _ _ (owns_mono o3 (by omega)) (fun k hk => by have := (o3.lt k hk).1; omega)

set_option maxRecDepth 100000 in
set_option maxHeartbeats 3200000 in
/-- Of work that is done: its acts, and what is mounted then. -/
theorem done5_ok (x0 x1 x2 x3 : Value) (P base : Nat) (ps : List ByteArray) (ws ms : List Int) (q : Int) (cs : List (Int × Int × ByteArray)) (w : World) (hF : Work w P base ps ws ms q cs true) (hok : chipOkP ps ws) :
    Calls Try.prog 137 #[.agg #[x0, x1, x2, x3], .pointer (some ⟨P, 0, none⟩)] w fun e w' => ∃ va vf, e = .returned (.tuple #[va, vf, .bool true]) ∧ ActsOwn w' base va cs ∧ FtlOwn w' base vf ps ws (mMap ps) (mSeq ps) ∧ Below w.heap.size w w' := by
  obtain ⟨A, hA⟩ : ∃ A, A = w.alloc (Obj.cells #[x0, x1, x2, x3] 47) := ⟨_, rfl⟩
  obtain ⟨A2, hA2⟩ : ∃ A2, A2 = A.alloc (Obj.cells #[.slice none 0 0, .slice none 0 0, .slice none 0 0, .int .i64 0] 47) := ⟨_, rfl⟩
  have hsA : A.heap.size = w.heap.size + 1 := by rw [hA]; simp
  have hb0 : Below w.heap.size w A := by rw [hA]; exact (Below.refl _ _).alloc (Nat.le_refl _) _
  have hb1 : Below A.heap.size A A2 := by rw [hA2]; exact (Below.refl _ _).alloc (Nat.le_refl _) _
  have hb2 := after hb0 hb1
  have k1 : C4 A2 (w.heap.size + 1) (.slice none 0 0) (.slice none 0 0) (.slice none 0 0) (.int .i64 0) := by
    have : C4 A2 A.heap.size (.slice none 0 0) (.slice none 0 0) (.slice none 0 0) (.int .i64 0) := by rw [hA2]; exact c4_new _ _ _ _ _ _
    rw [hsA] at this
    exact this
  obtain ⟨g1, kk1, g2, kk2, g3, kk3, v4, k4, hF⟩ := hF
  have h2 := hF.below hb2
  obtain ⟨⟨c0, c1, -, -, c4, x5⟩, -⟩ := h2.cells
  have HT : Hid (∀ u, Below A2.heap.size A2 u → u.cell? ⟨P, 0, none⟩ = some (.slice (some ⟨g1, 0, none⟩) ps.length kk1) ∧ u.cell? ⟨P, 1, none⟩ = some (.slice (some ⟨g2, 0, none⟩) ws.length kk2) ∧ u.cell? ⟨P, 4, none⟩ = some (.slice v4 cs.length k4)) := fun u hu => by
    obtain ⟨⟨c0, c1, -, -, c4, -⟩, -⟩ := (h2.below hu).cells
    exact ⟨c0, c1, c4⟩
  have HMO := hide (specMount_ok (some ⟨g1, 0, none⟩) (some ⟨g2, 0, none⟩) ps ws kk1 kk2 A2.drew h2.rd.1 h2.rd.2.1 hok)
  have HA := hide hF.2.2.2.2.2.1
  have mP : w.heap.size + 1 ≠ P := by have := hF.lt.1; omega
  have HK := hide k1
  have HB2 := hide hb2
  have HBS := hide hF.lt.2.2
  have hA1 : w.heap.size + 1 < A2.heap.size := k1.lt
  clear h2 hF hok hb0 hb1 hb2 hsA k1
  go_enter Try.func137, Try.ntmps137
  go_upto_region 1 with fail
  rw [← hA]
  rw [← hA2]
  clear hA hA2
  go_wp2_with fail
  go_region_held (fun w' => w'.cell? ⟨P, 0, none⟩ = some (.slice (some ⟨g1, 0, none⟩) ps.length kk1) ∧ w'.cell? ⟨P, 1, none⟩ = some (.slice (some ⟨g2, 0, none⟩) ws.length kk2) ∧ w'.cell? ⟨P, 4, none⟩ = some (.slice v4 cs.length k4)) (first | assumption | go_keep | exact ⟨set4_keep hS.1 mP, set4_keep hS.2.1 mP, set4_keep hS.2.2 mP⟩)
    ((go_at_call 28; refine HMO.out.mono ?_; rintro e w1 ⟨v, rfl, hf, hb1⟩; obtain ⟨a1, c1', b1, d1, e1, f1, hv1⟩ := hf.shape; subst hv1; have HB1 : Hid (Below A2.heap.size A2 w1) := (after_drew (Below.refl _ _) 1).trans hb1; have hS := HT.out w1 HB1.out; have HF1 := hide hf; obtain ⟨⟨n0, n1, n2, n3⟩, nf⟩ := id (HK.out.below HB1.out); have f0 := nf 0; have f1' := nf 1; have f2 := nf 2; have f3 := nf 3; clear hf hb1 nf))
  go_wp2
  have hne : ∀ {e : TypeId} {size n : Nat} {v : Value} {xs : List Value} {bs : Nat} (y0 y1 y2 y3 : Value), w1.ownsRow bs e size v n xs → (∀ k, v.ownBlock = some k → k ≠ w.heap.size + 1) → ((((w1.setCell ⟨w.heap.size + 1, 0, none⟩ y0).setCell ⟨w.heap.size + 1, 1, none⟩ y1).setCell ⟨w.heap.size + 1, 2, none⟩ y2).setCell ⟨w.heap.size + 1, 3, none⟩ y3).ownsRow bs e size v n xs := fun y0 y1 y2 y3 ho hk =>
    ownsRow_setCell_other (ownsRow_setCell_other (ownsRow_setCell_other (ownsRow_setCell_other ho (fun h => hk _ h rfl) _) (fun h => hk _ h rfl) _) (fun h => hk _ h rfl) _) (fun h => hk _ h rfl) _
  obtain ⟨v1, v2, v3, hv, o1, o2, o3, h12, h13, h23⟩ := HF1.out
  have hbase := HBS.out
  have hd : A2.drew.heap.size = A2.heap.size := rfl
  rw [hd] at o1 o2 o3
  have HBW := after HB2.out HB1.out
  refine bodyPost_ret (v := .tuple #[.slice v4 cs.length k4, .agg #[.slice a1 ps.length c1', .slice b1 ws.length d1, .slice e1 (mMap ps).length f1, .int .i64 (mSeq ps)], .bool true]) (by simp [results, Try.results137, go_sem, n0, n1, n2, n3]) rfl ⟨_, _, rfl, ?_, ⟨v1, v2, v3, hv, ?_, ?_, ?_, h12, h13, h23⟩, (((HBW.setCell (by show _ ≤ _; simp) _).setCell (by show _ ≤ _; simp) _).setCell (by show _ ≤ _; simp) _).setCell (by show _ ≤ _; simp) _⟩
  · exact hne _ _ _ _ (owns_below HA.out HBW) (fun k hk => by have := (HA.out.lt k hk).2; omega)
  · exact hne _ _ _ _ (owns_mono o1 (by omega)) (fun k hk => by have := (o1.lt k hk).1; omega)
  · exact hne _ _ _ _ (owns_mono o2 (by omega)) (fun k hk => by have := (o2.lt k hk).1; omega)
  · exact hne _ _ _ _ (owns_mono o3 (by omega)) (fun k hk => by have := (o3.lt k hk).1; omega)
end Go.Proofs.Ytelbannfbglgcaa

namespace Go.Proofs.Ytelbannfbglgcaa
open Go.RowKit

theorem cell_aside {w : World} {p o q k : Nat} {v u : Value} (h : w.cell? ⟨p, o, none⟩ = some v) (hne : q ≠ p) : (w.setCell ⟨q, k, none⟩ u).cell? ⟨p, o, none⟩ = some v := by
  rw [World.cell?_of_block (w := w) (a := ⟨p, o, none⟩) (Below.heap_setCell w _ u _ (by show p ≠ q; omega))]
  exact h
/-- Three cells of a variable. -/
def C3 (u : World) (p : Nat) (x0 x1 x2 : Value) : Prop :=
  (u.cell? ⟨p, 0, none⟩ = some x0 ∧ u.cell? ⟨p, 1, none⟩ = some x1 ∧ u.cell? ⟨p, 2, none⟩ = some x2) ∧ ∀ j, u.frozen? ⟨p, j, none⟩ = false
theorem C3.lt {u : World} {p : Nat} {x0 x1 x2 : Value} (h : C3 u p x0 x1 x2) : p < u.heap.size := lt_of_cell h.1.1
theorem C3.below {u u' : World} {p : Nat} {x0 x1 x2 : Value} (h : C3 u p x0 x1 x2) (hb : Below u.heap.size u u') : C3 u' p x0 x1 x2 :=
  ⟨⟨(hb.cell (p := ⟨p, 0, none⟩) h.lt).trans h.1.1, (hb.cell (p := ⟨p, 1, none⟩) h.lt).trans h.1.2.1, (hb.cell (p := ⟨p, 2, none⟩) h.lt).trans h.1.2.2⟩, fun j => (hb.frozen (p := ⟨p, j, none⟩) h.lt).trans (h.2 j)⟩
theorem C3.grown {u u' : World} {p q : Nat} {x0 x1 x2 : Value} (h : C3 u p x0 x1 x2) (hg : u.grownBy u' (some q)) (hne : q ≠ p) : C3 u' p x0 x1 x2 := by
  have e := hg.block p h.lt (fun he => hne (by cases he; rfl))
  exact ⟨⟨(World.cell?_of_block (a := ⟨p, 0, none⟩) e).trans h.1.1, (World.cell?_of_block (a := ⟨p, 1, none⟩) e).trans h.1.2.1, (World.cell?_of_block (a := ⟨p, 2, none⟩) e).trans h.1.2.2⟩, fun j => (World.frozen?_of_block (a := ⟨p, j, none⟩) e).trans (h.2 j)⟩
theorem c3_new (u : World) (x0 x1 x2 : Value) (t : TypeId) : C3 (u.alloc (.cells #[x0, x1, x2] t)) u.heap.size x0 x1 x2 := ⟨⟨by simp, by simp, by simp⟩, fun j => by simp⟩

end Go.Proofs.Ytelbannfbglgcaa
