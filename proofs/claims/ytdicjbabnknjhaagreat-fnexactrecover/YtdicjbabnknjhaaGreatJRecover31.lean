/-
  Contracts of the specification's l5Room, l5Done.
  Contract of the program's (*writing).write: a scope with two labels.
  Contract of the program's (*writing).write behind acts that were planned already; what some writes plan, one behind the other.
-/
import Derived.Test.YtdicjbabnknjhaaGreatJRecover27
import Derived.Test.YtdicjbabnknjhaaGreatJRecover13
import Derived.Test.YtdicjbabnknjhaaGreatJRecover30
import Derived.Deep.DeepCutAuto
import Derived.WalkMore
import Derived.ScopeJumps
namespace Go.Proofs.YtdicjbabnknjhaaGreat
open Go.RowKit

theorem ftlOk_of {ps : List ByteArray} {ws : List Int} (h : chipOkP ps ws) : ftlOkB ps ws (mMap ps) (mSeq ps) = true := by simp [ftlOkB, chipOkB_true h]
theorem set4_keep {w1 : World} {B x j : Nat} {v a b c d : Value} (h : w1.cell? ⟨x, j, none⟩ = some v) (hne : B ≠ x) : ((((w1.setCell ⟨B, 0, none⟩ a).setCell ⟨B, 1, none⟩ b).setCell ⟨B, 2, none⟩ c).setCell ⟨B, 3, none⟩ d).cell? ⟨x, j, none⟩ = some v :=
  cell_other (cell_other (cell_other (cell_other h hne) hne) hne) hne
theorem openB_bd (ps : List ByteArray) (ws : List Int) : -1 ≤ openB ps ws ∧ openB ps ws ≤ 9 := by
  have := nextP_bd ps ws
  unfold openB
  split <;> omega
/-- The state of the loop that makes room. -/
def RMs (wr : World) (P base : Nat) (R : Option (List ByteArray × List Int × List (Int × Int × ByteArray))) (k : Nat) : Prop :=
  (∃ ps ws cs, Work wr P base ps ws (mMap ps) (mSeq ps) cs true ∧ chipOkP ps ws ∧ pRoom (10 - k) ps ws cs = R ∧ cs.length ≤ 157 * k) ∨ (R = none ∧ Failed wr P base)
theorem pRoom_enough {n : Nat} {ps : List ByteArray} {ws : List Int} {cs : List (Int × Int × ByteArray)} (h : pEnough ps ws) : pRoom (n + 1) ps ws cs = some (ps, ws, cs) := by simp only [pRoom]; rw [if_pos h]
theorem pRoom_noworst {n : Nat} {ps : List ByteArray} {ws : List Int} {cs : List (Int × Int × ByteArray)} (h : ¬ pEnough ps ws) (h2 : worstB ps ws (mMap ps) < 0) : pRoom (n + 1) ps ws cs = none := by simp only [pRoom]; rw [if_neg h, if_pos h2]
theorem pRoom_clean {n b : Nat} {ps : List ByteArray} {ws : List Int} {cs : List (Int × Int × ByteArray)} (h : ¬ pEnough ps ws) (h2 : worstB ps ws (mMap ps) = (b : Int)) : pRoom (n + 1) ps ws cs = match pClean b ps ws cs with | none => none | some r => pRoom n r.1 r.2.1 r.2.2 := by
  simp only [pRoom]; rw [if_neg h, if_neg (by omega), h2, Int.toNat_natCast]; rfl

set_option maxRecDepth 100000 in
set_option maxHeartbeats 12800000 in
theorem room5_any (P base : Nat) (ps : List ByteArray) (ws : List Int) (w : World) (hW : Work w P base ps ws (mMap ps) (mSeq ps) [] true) (hok : chipOkP ps ws) :
    Calls Tryz.prog 83 #[.pointer (some ⟨P, 0, none⟩)] w fun e w' => e = .returned (.tuple #[]) ∧ Below base w w' ∧
      (∀ r, pRoom 10 ps ws [] = some r → Work w' P base r.1 r.2.1 (mMap r.1) (mSeq r.1) r.2.2 true) ∧ (pRoom 10 ps ws [] = none → Failed w' P base) := by
  obtain ⟨R, hR⟩ : ∃ R, R = pRoom 10 ps ws [] := ⟨_, rfl⟩
  have HW := hide hW
  have HOK := hide hok
  have HR := hide hR
  rw [← hR]
  clear hW hok hR
  go_enter Tryz.func83, Tryz.ntmps83
  go_wp2_with fail
  go_loopw [2] (fun i wr => ∃ k : Nat, k ≤ 10 ∧ i = .int .i64 k ∧ Hid (RMs wr P base R k) ∧ Hid (Below base w wr)) (fun i _ => 10 - (intOf i).toNat)
  case atStart => exact ⟨0, by omega, rfl, .inl ⟨ps, ws, [], HW.out, HOK.out, HR.out.symm, by simp⟩, Below.refl _ _⟩
  case round =>
    obtain ⟨k, hk, rfl, hst, hbr⟩ := hrel
    rcases hst.out with ⟨pk, wk, ck, hw, hok, hrm, hck⟩ | ⟨hRn, v4, k4, c5, hw⟩
    · obtain ⟨g1, k1, g2, k2, g3, k3, v4, k4, hw⟩ := hw
      obtain ⟨⟨c0, c1, c2, c3, c4, c5⟩, fz⟩ := hw.cells
      have HWK := hide hw
      have HOKk := hide hok
      have HRM := hide hrm
      have HCK := hide hck
      clear hst hw hok hrm hck
      by_cases hlt : k < 10
      · have t1 : decide ((k : Int) < 10) = true := by simp; omega
        have HRM : Hid (pRoom ((9 - k) + 1) pk wk ck = R) := by rw [show 9 - k + 1 = 10 - k by omega]; exact HRM
        have HFB := hide (specFree_ok (some ⟨g1, 0, none⟩) (some ⟨g2, 0, none⟩) pk wk k1 k2 wr HWK.out.rd.1 HWK.out.rd.2.1 HOKk.out)
        obtain ⟨n, hn⟩ : ∃ n, n = (freeB pk 10).length := ⟨_, rfl⟩
        have hn10 : n ≤ 10 := by rw [hn]; exact freeB_len pk 10
        rw [← hn] at HFB
        have HEN : Hid (pEnough pk wk ↔ (2 < n ∨ (n = 2 ∧ 0 ≤ openB pk wk))) := by show _ ↔ _; rw [hn]; exact Iff.rfl
        have HOP : Hid (∀ u, Below wr.heap.size wr u → Calls Tryz.prog 101 #[.agg #[.slice (some ⟨g1, 0, none⟩) pk.length k1, .slice (some ⟨g2, 0, none⟩) wk.length k2]] u fun e w' => e = .returned (.int .i64 (openB pk wk)) ∧ Below u.heap.size u w') := fun u hu =>
          open_any _ _ pk wk k1 k2 u (HWK.out.below hu).rd.1 (HWK.out.below hu).rd.2.1 HOKk.out.1 HOKk.out.2.1
        have HWO : Hid (∀ u, Below wr.heap.size wr u → Calls Tryz.prog 102 #[.agg #[.slice (some ⟨g1, 0, none⟩) pk.length k1, .slice (some ⟨g2, 0, none⟩) wk.length k2, .slice (some ⟨g3, 0, none⟩) (mMap pk).length k3, .int .i64 (mSeq pk)]] u fun e w' => e = .returned (.int .i64 (worstB pk wk (mMap pk))) ∧ Below u.heap.size u w') := fun u hu =>
          specWorst_ok _ _ _ pk wk (mMap pk) k1 k2 k3 (mSeq pk) u (HWK.out.below hu).rd.1 (HWK.out.below hu).rd.2.1 (HWK.out.below hu).rd.2.2 (ftlOk_of HOKk.out)
        clear hn
        go_wp2_with fail
        refine HFB.out.mono ?_
        rintro e w1 ⟨v, rfl, hown, hb1⟩
        obtain ⟨a1, c1', rfl⟩ := owns_shape hown
        have HW1 := hide (HWK.out.below hb1)
        have HB1 := hide hb1
        clear hown hb1 HFB c0 c1 c2 c3 c4 c5 fz
        obtain ⟨⟨c0, c1, c2, c3, c4, c5⟩, fz⟩ := HW1.out.cells
        have HBF : Hid (∀ u, Below wr.heap.size wr u → Below base w u) := fun u hu => hbr.out.trans (hu.mono HWK.out.lt.2.2)
        have REST : Hid (¬ pEnough pk wk → ∀ u, Below wr.heap.size wr u → Hid (Below wr.heap.size wr u) ∧ Hid (WorkAt u P base g1 k1 g2 k2 g3 k3 v4 k4 pk wk (mMap pk) (mSeq pk) ck true)) := fun _ u hu => ⟨hu, HWK.out.below hu⟩
        by_cases hn2 : 2 < n
        · have t2 : decide ((2 : Int) < (n : Int)) = true := by simp; omega
          have HY : Hid (R = some (pk, wk, ck)) := by show _ = _; rw [← HRM.out]; exact pRoom_enough (HEN.out.2 (.inl hn2))
          go_wp2
          exact bodyPost_ret (v := .tuple #[]) (results_none Tryz.results83 _ _ _) rfl ⟨rfl, HBF.out _ HB1.out, yes_some HY.out ⟨_, _, _, _, _, _, _, _, HW1.out⟩, not_none HY.out⟩
        · have t2 : decide ((2 : Int) < (n : Int)) = false := by simp; omega
          by_cases he2 : n = 2
          · subst he2
            have HNO := hide (openB_bd pk wk)
            go_wp2_with fail
            refine (HOP.out _ HB1.out).mono ?_
            rintro e w2 ⟨rfl, hb2⟩
            have HB2 := hide (after HB1.out hb2)
            have HW2 := hide (HWK.out.below HB2.out)
            clear hb2 HB1 HW1 c0 c1 c2 c3 c4 c5 fz
            obtain ⟨⟨c0, c1, c2, c3, c4, c5⟩, fz⟩ := HW2.out.cells
            obtain ⟨O, hO⟩ : ∃ O, O = openB pk wk := ⟨_, rfl⟩
            have HOE := hide hO
            rw [← hO]
            clear hO
            by_cases h0 : 0 ≤ O
            · have t3 : decide ((0 : Int) ≤ O) = true := by simpa using h0
              have HY : Hid (R = some (pk, wk, ck)) := by show _ = _; rw [← HRM.out]; exact pRoom_enough (HEN.out.2 (.inr ⟨by trivial, by rw [← HOE.out]; exact h0⟩))
              go_wp2
              exact bodyPost_ret (v := .tuple #[]) (results_none Tryz.results83 _ _ _) rfl ⟨rfl, HBF.out _ HB2.out, yes_some HY.out ⟨_, _, _, _, _, _, _, _, HW2.out⟩, not_none HY.out⟩
            · have t3 : decide ((0 : Int) ≤ O) = false := by simpa using h0
              have HNE : Hid (¬ pEnough pk wk) := fun h => by rcases HEN.out.1 h with h | ⟨_, h⟩; omega; rw [← HOE.out] at h; exact h0 h
              go_wp2_with fail
              refine (HWO.out _ HB2.out).mono ?_
              rintro e w3 ⟨rfl, hb3⟩
              have HB3 := hide (after HB2.out hb3)
              have HW3 := hide (HWK.out.below HB3.out)
              clear hb3 HWO HOP c0 c1 c2 c3 c4 c5 fz HB2
              obtain ⟨⟨c0, c1, c2, c3, c4, c5⟩, fz⟩ := HW3.out.cells
              have fz5 := fz 5
              obtain ⟨B, hB⟩ : ∃ B, B = worstB pk wk (mMap pk) := ⟨_, rfl⟩
              have HBE := hide hB
              rw [← hB]
              clear hB
              by_cases hneg : B < 0
              · have HRN : Hid (R = none) := by show _ = _; rw [← HRM.out]; exact pRoom_noworst HNE.out (by rw [← HBE.out]; exact hneg)
                have t9 : decide (B < 0) = true := by simpa using hneg
                have h5 := HW3.out.flag false
                have HZ : Hid (Below base w (w3.setCell ⟨P, 5, none⟩ (.bool false)) ∧ Failed (w3.setCell ⟨P, 5, none⟩ (.bool false)) P base) := ⟨(HBF.out _ HB3.out).trans h5.2, _, _, _, h5.1.acts⟩
                clear h5
                go_wp2
                exact bodyPost_ret (v := .tuple #[]) (results_none Tryz.results83 _ _ _) rfl ⟨rfl, HZ.out.1, no_some HRN.out, fun _ => HZ.out.2⟩
              · obtain ⟨b, rfl⟩ : ∃ b : Nat, B = b := ⟨B.toNat, by omega⟩
                have t9 : decide ((b : Int) < 0) = false := by simp
                have HRC := hide ((pRoom_clean (n := 9 - k) (cs := ck) HNE.out HBE.out.symm).symm.trans HRM.out)
                have HCL := hide (clean5_any P base b pk wk ck w3 ⟨_, _, _, _, _, _, _, _, HW3.out⟩ HOKk.out (worst_used HOKk.out.1 HBE.out.symm).1 (by have := HCK.out; omega))
                go_wp2_with fail
                refine HCL.out.mono ?_
                rintro e w4 ⟨rfl, hb4, hy, hn⟩
                have HB4 : Hid (Below base w w4) := (HBF.out _ HB3.out).trans hb4
                have HS4 : Hid (RMs w4 P base R (k + 1)) := by
                  cases hb : pClean b pk wk ck with
                  | none =>
                    rw [hb] at HRC
                    exact .inr ⟨HRC.out.symm, hn hb⟩
                  | some r =>
                    rw [hb] at HRC
                    have hri := pClean_right HOKk.out hb
                    exact .inl ⟨_, _, _, hy r hb, hri.1, by rw [show 10 - (k + 1) = 9 - k by omega]; exact HRC.out, by have := HCK.out; omega⟩
                clear hb4 hy hn HCL HRC c0 c1 c2 c3 c4 c5 fz5 fz
                go_wp2
                exact ⟨⟨k + 1, by omega, by go_num, HS4, HB4⟩, by simp [intOf]; omega⟩
          · have t3 : ((n : Int) == 2) = false := by simp; omega
            have HNE : Hid (¬ pEnough pk wk) := fun h => by rcases HEN.out.1 h with h | ⟨h, _⟩; omega; exact he2 h
            go_wp2_with fail
            refine (HWO.out _ HB1.out).mono ?_
            rintro e w3 ⟨rfl, hb3⟩
            have HB3 := hide (after HB1.out hb3)
            have HW3 := hide (HWK.out.below HB3.out)
            clear hb3 HWO HOP c0 c1 c2 c3 c4 c5 fz HB1
            obtain ⟨⟨c0, c1, c2, c3, c4, c5⟩, fz⟩ := HW3.out.cells
            have fz5 := fz 5
            obtain ⟨B, hB⟩ : ∃ B, B = worstB pk wk (mMap pk) := ⟨_, rfl⟩
            have HBE := hide hB
            rw [← hB]
            clear hB
            by_cases hneg : B < 0
            · have HRN : Hid (R = none) := by show _ = _; rw [← HRM.out]; exact pRoom_noworst HNE.out (by rw [← HBE.out]; exact hneg)
              have t9 : decide (B < 0) = true := by simpa using hneg
              have h5 := HW3.out.flag false
              have HZ : Hid (Below base w (w3.setCell ⟨P, 5, none⟩ (.bool false)) ∧ Failed (w3.setCell ⟨P, 5, none⟩ (.bool false)) P base) := ⟨(HBF.out _ HB3.out).trans h5.2, _, _, _, h5.1.acts⟩
              clear h5
              go_wp2
              exact bodyPost_ret (v := .tuple #[]) (results_none Tryz.results83 _ _ _) rfl ⟨rfl, HZ.out.1, no_some HRN.out, fun _ => HZ.out.2⟩
            · obtain ⟨b, rfl⟩ : ∃ b : Nat, B = b := ⟨B.toNat, by omega⟩
              have t9 : decide ((b : Int) < 0) = false := by simp
              have HRC := hide ((pRoom_clean (n := 9 - k) (cs := ck) HNE.out HBE.out.symm).symm.trans HRM.out)
              have HCL := hide (clean5_any P base b pk wk ck w3 ⟨_, _, _, _, _, _, _, _, HW3.out⟩ HOKk.out (worst_used HOKk.out.1 HBE.out.symm).1 (by have := HCK.out; omega))
              go_wp2_with fail
              refine HCL.out.mono ?_
              rintro e w4 ⟨rfl, hb4, hy, hn⟩
              have HB4 : Hid (Below base w w4) := (HBF.out _ HB3.out).trans hb4
              have HS4 : Hid (RMs w4 P base R (k + 1)) := by
                cases hb : pClean b pk wk ck with
                | none =>
                  rw [hb] at HRC
                  exact .inr ⟨HRC.out.symm, hn hb⟩
                | some r =>
                  rw [hb] at HRC
                  have hri := pClean_right HOKk.out hb
                  exact .inl ⟨_, _, _, hy r hb, hri.1, by rw [show 10 - (k + 1) = 9 - k by omega]; exact HRC.out, by have := HCK.out; omega⟩
              clear hb4 hy hn HCL HRC c0 c1 c2 c3 c4 c5 fz5 fz
              go_wp2
              exact ⟨⟨k + 1, by omega, by go_num, HS4, HB4⟩, by simp [intOf]; omega⟩
      · obtain rfl : k = 10 := by omega
        have HY : Hid (R = some (pk, wk, ck)) := by show _ = _; rw [← HRM.out]; rfl
        go_wp2
        exact bodyPost_end (v := .tuple #[]) (results_none Tryz.results83 _ _ _) rfl ⟨rfl, hbr.out, yes_some HY.out ⟨_, _, _, _, _, _, _, _, HWK.out⟩, not_none HY.out⟩
    · obtain ⟨-, c4, c5, -, -⟩ := hw.cells
      have HZ : Hid (Failed wr P base) := ⟨_, _, _, hw⟩
      have HRN := hide hRn
      clear hst hw hRn
      by_cases hlt : k < 10
      · have t1 : decide ((k : Int) < 10) = true := by simp; omega
        go_wp2
        exact bodyPost_end (v := .tuple #[]) (results_none Tryz.results83 _ _ _) rfl ⟨rfl, hbr.out, no_some HRN.out, fun _ => HZ.out⟩
      · have t1 : decide ((k : Int) < 10) = false := by simp; omega
        go_wp2
        exact bodyPost_end (v := .tuple #[]) (results_none Tryz.results83 _ _ _) rfl ⟨rfl, hbr.out, no_some HRN.out, fun _ => HZ.out⟩

set_option maxHeartbeats 1600000 in
/-- Of work that failed already nothing is made. -/
theorem room5_no (P base : Nat) (w : World) (hF : Failed w P base) : Calls Tryz.prog 83 #[.pointer (some ⟨P, 0, none⟩)] w fun e w' => e = .returned (.tuple #[]) ∧ w' = w := by
  obtain ⟨v4, k4, cs, hF⟩ := hF
  have c5 := hF.cells.2.2.1
  clear hF
  go_enter Tryz.func83, Tryz.ntmps83
  go_wp2_with fail
  go_loopw [2] (fun i wr => i = .int .i64 0 ∧ wr = w) (fun _ _ => 0)
  case atStart => exact ⟨rfl, rfl⟩
  case round =>
    obtain ⟨rfl, rfl⟩ := hrel
    go_wp2
    exact bodyPost_end (v := .tuple #[]) (results_none Tryz.results83 _ _ _) rfl ⟨rfl, rfl⟩

/-- A row of acts that is the call's own. -/
def ActsOwn (w : World) (base : Nat) (v : Value) (cs : List (Int × Int × ByteArray)) : Prop := w.ownsRow base 71 3 v cs.length (vsAct cs)

set_option maxRecDepth 100000 in
set_option maxHeartbeats 3200000 in
/-- Of work that failed: no acts, and what it began with. -/
theorem done5_no (a b e0 : Option Addr) (ps : List ByteArray) (ws ms : List Int) (c d f : Nat) (q : Int) (P base : Nat) (w : World) (hp : Rd w a (vsString ps)) (hw : Rd w b (vsInt ws)) (hms : Rd w e0 (vsInt ms)) (hl : ps.length = 60) (hm : ws.length = 10) (hn : ms.length = 26) (hF : Failed w P base) :
    Calls Tryz.prog 85 #[.agg #[.slice a ps.length c, .slice b ws.length d, .slice e0 ms.length f, .int .i64 q], .pointer (some ⟨P, 0, none⟩)] w fun e w' => ∃ va vf, e = .returned (.tuple #[va, vf, .bool false]) ∧ ActsOwn w' w.heap.size va [] ∧ FtlOwn w' w.heap.size vf ps ws ms q ∧ Below w.heap.size w w' := by
  obtain ⟨A, hA⟩ : ∃ A, A = w.alloc (Obj.cells #[.slice a ps.length c, .slice b ws.length d, .slice e0 ms.length f, .int .i64 q] 34) := ⟨_, rfl⟩
  obtain ⟨A2, hA2⟩ : ∃ A2, A2 = A.alloc (Obj.cells #[.slice none 0 0, .slice none 0 0, .slice none 0 0, .int .i64 0] 34) := ⟨_, rfl⟩
  have hsA : A.heap.size = w.heap.size + 1 := by rw [hA]; simp
  have hsA2 : A2.heap.size = w.heap.size + 1 + 1 := by rw [hA2]; simp [hsA]
  have hb0 : Below w.heap.size w A := by rw [hA]; exact (Below.refl _ _).alloc (Nat.le_refl _) _
  have hb1 : Below A.heap.size A A2 := by rw [hA2]; exact (Below.refl _ _).alloc (Nat.le_refl _) _
  have hb2 := after hb0 hb1
  obtain ⟨W, hW⟩ : ∃ W, W = A2.alloc (Obj.cells #[] 71) := ⟨_, rfl⟩
  have hb3 : Below A2.heap.size A2 W := by rw [hW]; exact (Below.refl _ _).alloc (Nat.le_refl _) _
  have hbW := after hb2 hb3
  have k0 : C4 A w.heap.size (.slice a ps.length c) (.slice b ws.length d) (.slice e0 ms.length f) (.int .i64 q) := by rw [hA]; exact c4_new _ _ _ _ _ _
  have k1 : C4 A2 (w.heap.size + 1) (.slice none 0 0) (.slice none 0 0) (.slice none 0 0) (.int .i64 0) := by
    have : C4 A2 A.heap.size (.slice none 0 0) (.slice none 0 0) (.slice none 0 0) (.int .i64 0) := by rw [hA2]; exact c4_new _ _ _ _ _ _
    rw [hsA] at this
    exact this
  obtain ⟨v4, k4, cs, hF⟩ := hF
  have x5 := (hF.below hb2).cells.2.2.1
  have K0 := k0.below hb1
  have HCP := hide (copy4_any a b e0 ps ws ms c d f q W (hp.below hbW) (hw.below hbW) (hms.below hbW) hl hm hn)
  have K1 := k1.below hb3
  have hlt1 : w.heap.size + 1 < A2.heap.size := k1.lt
  have HE : Hid (W.ownsRow w.heap.size 71 3 (.slice (some ⟨A2.heap.size, 0, none⟩) 0 0) 0 []) := by
    show W.ownsRow _ _ _ _ _ _
    rw [hW]
    exact World.ownsRow_made A2 #[] 0 (by omega) (Nat.zero_le _) rfl
  have HBW := hide hbW
  have hsW : w.heap.size + 1 < W.heap.size := K1.lt
  have hlt0 : w.heap.size < A2.heap.size := K0.lt
  clear hp hw hms hb0 hb1 hb2 hb3 hbW k0 k1 hF hsA hsA2 hl hm hn
  go_enter Tryz.func85, Tryz.ntmps85
  go_upto_region 1 with fail
  rw [← hA]
  rw [← hA2]
  clear hA hA2
  obtain ⟨⟨y0, y1, y2, y3⟩, -⟩ := id (K0)
  go_wp2_with fail
  rw [← hW]
  clear hW x5 y0 y1 y2 y3
  refine HCP.out.mono ?_
  rintro e w1 ⟨v, rfl, hf, hb1⟩
  obtain ⟨a1, c1, b1, d1, e1, f1, rfl⟩ := hf.shape
  have K2 := K1.below hb1
  have HE1 := hide (owns_below HE.out hb1)
  have HB1 := hide (after HBW.out hb1)
  have HF1 := hide hf
  have hsw1 := hb1.size
  obtain ⟨⟨n0, n1, n2, n3⟩, nf⟩ := id K2
  have f0 := nf 0
  have f1' := nf 1
  have f2 := nf 2
  have f3 := nf 3
  clear hf hb1 HCP K0 K1 K2 nf HE
  go_wp2
  have hne : ∀ {e : TypeId} {size n : Nat} {v : Value} {xs : List Value} {bs : Nat} (y0 y1 y2 y3 : Value), w1.ownsRow bs e size v n xs → (∀ k, v.ownBlock = some k → k ≠ w.heap.size + 1) → ((((w1.setCell ⟨w.heap.size + 1, 0, none⟩ y0).setCell ⟨w.heap.size + 1, 1, none⟩ y1).setCell ⟨w.heap.size + 1, 2, none⟩ y2).setCell ⟨w.heap.size + 1, 3, none⟩ y3).ownsRow bs e size v n xs := fun y0 y1 y2 y3 ho hk =>
    ownsRow_setCell_other (ownsRow_setCell_other (ownsRow_setCell_other (ownsRow_setCell_other ho (fun h => hk _ h rfl) _) (fun h => hk _ h rfl) _) (fun h => hk _ h rfl) _) (fun h => hk _ h rfl) _
  obtain ⟨v1, v2, v3, hv, o1, o2, o3, h12, h13, h23⟩ := HF1.out
  refine bodyPost_ret (v := .tuple #[.slice (some ⟨A2.heap.size, 0, none⟩) 0 0, .agg #[.slice a1 ps.length c1, .slice b1 ws.length d1, .slice e1 ms.length f1, .int .i64 q], .bool false]) (by simp [results, Tryz.results85, go_sem, n0, n1, n2, n3]) rfl ⟨_, _, rfl, ?_, ⟨v1, v2, v3, hv, ?_, ?_, ?_, h12, h13, h23⟩, (((HB1.out.setCell (by show _ ≤ _; simp) _).setCell (by show _ ≤ _; simp) _).setCell (by show _ ≤ _; simp) _).setCell (by show _ ≤ _; simp) _⟩
  · exact hne _ _ _ _ HE1.out (fun k hk => by simp [Value.ownBlock] at hk; omega)
  · exact hne _ _ _ _ (owns_mono o1 (by omega)) (fun k hk => by have := (o1.lt k hk).1; omega)
  · exact hne _ _ _ _ (owns_mono o2 (by omega)) (fun k hk => by have := (o2.lt k hk).1; omega)
  · exact hne _ _ _ _ (owns_mono o3 (by omega)) (fun k hk => by have := (o3.lt k hk).1; omega)

set_option maxRecDepth 100000 in
set_option maxHeartbeats 3200000 in
/-- Of work that is done: its acts, and what is mounted then. -/
theorem done5_ok (x0 x1 x2 x3 : Value) (P base : Nat) (ps : List ByteArray) (ws ms : List Int) (q : Int) (cs : List (Int × Int × ByteArray)) (w : World) (hF : Work w P base ps ws ms q cs true) (hok : chipOkP ps ws) :
    Calls Tryz.prog 85 #[.agg #[x0, x1, x2, x3], .pointer (some ⟨P, 0, none⟩)] w fun e w' => ∃ va vf, e = .returned (.tuple #[va, vf, .bool true]) ∧ ActsOwn w' base va cs ∧ FtlOwn w' base vf ps ws (mMap ps) (mSeq ps) ∧ Below w.heap.size w w' := by
  obtain ⟨A, hA⟩ : ∃ A, A = w.alloc (Obj.cells #[x0, x1, x2, x3] 34) := ⟨_, rfl⟩
  obtain ⟨A2, hA2⟩ : ∃ A2, A2 = A.alloc (Obj.cells #[.slice none 0 0, .slice none 0 0, .slice none 0 0, .int .i64 0] 34) := ⟨_, rfl⟩
  have hsA : A.heap.size = w.heap.size + 1 := by rw [hA]; simp
  have hb0 : Below w.heap.size w A := by rw [hA]; exact (Below.refl _ _).alloc (Nat.le_refl _) _
  have hb1 : Below A.heap.size A A2 := by rw [hA2]; exact (Below.refl _ _).alloc (Nat.le_refl _) _
  have hb2 := after hb0 hb1
  have k1 : C4 A2 (w.heap.size + 1) (.slice none 0 0) (.slice none 0 0) (.slice none 0 0) (.int .i64 0) := by
    have : C4 A2 A.heap.size (.slice none 0 0) (.slice none 0 0) (.slice none 0 0) (.int .i64 0) := by rw [hA2]; exact c4_new _ _ _ _ _ _
    rw [hsA] at this
    exact this
  obtain ⟨g1, kk1, g2, kk2, g3, kk3, v4, k4, hF⟩ := hF
  have h2 := hF.below hb2
  obtain ⟨⟨c0, c1, -, -, c4, x5⟩, -⟩ := h2.cells
  have HT : Hid (∀ u, Below A2.heap.size A2 u → u.cell? ⟨P, 0, none⟩ = some (.slice (some ⟨g1, 0, none⟩) ps.length kk1) ∧ u.cell? ⟨P, 1, none⟩ = some (.slice (some ⟨g2, 0, none⟩) ws.length kk2) ∧ u.cell? ⟨P, 4, none⟩ = some (.slice v4 cs.length k4)) := fun u hu => by
    obtain ⟨⟨c0, c1, -, -, c4, -⟩, -⟩ := (h2.below hu).cells
    exact ⟨c0, c1, c4⟩
  have HMO := hide (specMount_ok (some ⟨g1, 0, none⟩) (some ⟨g2, 0, none⟩) ps ws kk1 kk2 A2.drew h2.rd.1 h2.rd.2.1 hok)
  have HA := hide hF.2.2.2.2.2.1
  have mP : w.heap.size + 1 ≠ P := by have := hF.lt.1; omega
  have HK := hide k1
  have HB2 := hide hb2
  have HBS := hide hF.lt.2.2
  have hA1 : w.heap.size + 1 < A2.heap.size := k1.lt
  clear h2 hF hok hb0 hb1 hb2 hsA k1
  go_enter Tryz.func85, Tryz.ntmps85
  go_upto_region 1 with fail
  rw [← hA]
  rw [← hA2]
  clear hA hA2
  go_wp2_with fail
  go_region_held (fun w' => w'.cell? ⟨P, 0, none⟩ = some (.slice (some ⟨g1, 0, none⟩) ps.length kk1) ∧ w'.cell? ⟨P, 1, none⟩ = some (.slice (some ⟨g2, 0, none⟩) ws.length kk2) ∧ w'.cell? ⟨P, 4, none⟩ = some (.slice v4 cs.length k4)) (first | assumption | go_keep | exact ⟨set4_keep hS.1 mP, set4_keep hS.2.1 mP, set4_keep hS.2.2 mP⟩)
    ((go_at_call 51; refine HMO.out.mono ?_; rintro e w1 ⟨v, rfl, hf, hb1⟩; obtain ⟨a1, c1', b1, d1, e1, f1, hv1⟩ := hf.shape; subst hv1; have HB1 : Hid (Below A2.heap.size A2 w1) := (after_drew (Below.refl _ _) 1).trans hb1; have hS := HT.out w1 HB1.out; have HF1 := hide hf; obtain ⟨⟨n0, n1, n2, n3⟩, nf⟩ := id (HK.out.below HB1.out); have f0 := nf 0; have f1' := nf 1; have f2 := nf 2; have f3 := nf 3; clear hf hb1 nf))
  go_wp2
  have hne : ∀ {e : TypeId} {size n : Nat} {v : Value} {xs : List Value} {bs : Nat} (y0 y1 y2 y3 : Value), w1.ownsRow bs e size v n xs → (∀ k, v.ownBlock = some k → k ≠ w.heap.size + 1) → ((((w1.setCell ⟨w.heap.size + 1, 0, none⟩ y0).setCell ⟨w.heap.size + 1, 1, none⟩ y1).setCell ⟨w.heap.size + 1, 2, none⟩ y2).setCell ⟨w.heap.size + 1, 3, none⟩ y3).ownsRow bs e size v n xs := fun y0 y1 y2 y3 ho hk =>
    ownsRow_setCell_other (ownsRow_setCell_other (ownsRow_setCell_other (ownsRow_setCell_other ho (fun h => hk _ h rfl) _) (fun h => hk _ h rfl) _) (fun h => hk _ h rfl) _) (fun h => hk _ h rfl) _
  obtain ⟨v1, v2, v3, hv, o1, o2, o3, h12, h13, h23⟩ := HF1.out
  have hbase := HBS.out
  have hd : A2.drew.heap.size = A2.heap.size := rfl
  rw [hd] at o1 o2 o3
  have HBW := after HB2.out HB1.out
  refine bodyPost_ret (v := .tuple #[.slice v4 cs.length k4, .agg #[.slice a1 ps.length c1', .slice b1 ws.length d1, .slice e1 (mMap ps).length f1, .int .i64 (mSeq ps)], .bool true]) (by simp [results, Tryz.results85, go_sem, n0, n1, n2, n3]) rfl ⟨_, _, rfl, ?_, ⟨v1, v2, v3, hv, ?_, ?_, ?_, h12, h13, h23⟩, (((HBW.setCell (by show _ ≤ _; simp) _).setCell (by show _ ≤ _; simp) _).setCell (by show _ ≤ _; simp) _).setCell (by show _ ≤ _; simp) _⟩
  · exact hne _ _ _ _ (owns_below HA.out HBW) (fun k hk => by have := (HA.out.lt k hk).2; omega)
  · exact hne _ _ _ _ (owns_mono o1 (by omega)) (fun k hk => by have := (o1.lt k hk).1; omega)
  · exact hne _ _ _ _ (owns_mono o2 (by omega)) (fun k hk => by have := (o2.lt k hk).1; omega)
  · exact hne _ _ _ _ (owns_mono o3 (by omega)) (fun k hk => by have := (o3.lt k hk).1; omega)
end Go.Proofs.YtdicjbabnknjhaaGreat

namespace Go.Proofs.YtdicjbabnknjhaaGreat
open Go.RowKit

/-- As Q; by a goto: J of its label. -/
def jumps (J : Nat → Act → World → Prop) (Q : Exit → Act → World → Prop) : Exit → Act → World → Prop
  | .goto l, a, w => J l a w
  | e, a, w => Q e a w
theorem jumps_mono {J J' : Nat → Act → World → Prop} {Q : Exit → Act → World → Prop} (h : ∀ l a w, J l a w → J' l a w) : ∀ e a w, jumps J Q e a w → jumps J' Q e a w := by
  intro e a w hq
  cases e with
  | goto l => exact h l a w hq
  | normal => exact hq
  | exit id => exact hq
  | ret => exact hq
  | panic ch => exact hq
  | outgrown => exact hq
theorem jumps_ret {J : Nat → Act → World → Prop} {Q : Exit → Act → World → Prop} {a : Act} {w : World} (h : Q .ret a w) : jumps J Q .ret a w := h
theorem wp_from {P : Program} {c X : Code} {l : Nat} {a : Act} {w : World} {Q : Exit → Act → World → Prop} (h : ∃ rest, findLabel c l = some (.seq .skip rest) ∧ rest.wp P Q a w) (hx : findLabel c l = some (.seq .skip X)) : X.wp P Q a w := by
  obtain ⟨rest, hf, hp⟩ := h
  rw [hx] at hf
  injection hf with hf
  injection hf with _ hf
  subst hf
  exact hp
theorem wp_skip_seq {P : Program} {c : Code} {a : Act} {w : World} {Q : Exit → Act → World → Prop} (h : c.wp P Q a w) : (Code.seq .skip c).wp P Q a w := wp_seq (wp_skip h)
/-- A scope in which the run jumps to some labels: what holds at each jump, and a measure that each pass lowers. -/
theorem wp_scope_many {P : Program} {a : Act} {w : World} {Q : Exit → Act → World → Prop} {c : Code} (J : Nat → Act → World → Prop) (μ : Nat → Act → World → Nat) (first : (∀ l a w, J l a w → ∃ rest, findLabel c l = some (.seq .skip rest) ∧ rest.wp P (jumps J Q) a w) → c.wp P (jumps J Q) a w)
    (pass : ∀ l a w, J l a w → ∃ rest, findLabel c l = some (.seq .skip rest) ∧ rest.wp P (jumps (fun l' a' w' => J l' a' w' ∧ μ l' a' w' < μ l a w) Q) a w) : (Code.scope c).wp P Q a w := by
  intro b k cs
  have key : ∀ n l a w, μ l a w = n → J l a w → ∃ rest, findLabel c l = some rest ∧ ∃ e a' w', Q e a' w' ∧ Arrives P (lone (b.at a (.code rest :: .inScope c :: k)) cs w) b k cs e a' w' := by
    intro n
    induction n using Nat.strongRecOn with
    | _ n ih =>
      intro l a w hn hJ
      obtain ⟨rest, hf, hp⟩ := pass l a w hJ
      refine ⟨_, hf, ?_⟩
      have hp := wp_skip_seq hp
      obtain ⟨e, a₁, w₁, hq, harr⟩ := hp b (.inScope c :: k) cs
      cases e with
      | normal => exact ⟨.normal, a₁, w₁, hq, Steps.trans harr (.one step_inScope)⟩
      | exit id => exact ⟨.exit id, a₁, w₁, hq, fun k' hk => harr k' (by simp [exitTo, hk])⟩
      | goto l' =>
        obtain ⟨hJ', hlt⟩ := hq
        obtain ⟨rest', hf', e₂, a₂, w₂, hq₂, harr₂⟩ := ih _ (by omega) l' a₁ w₁ rfl hJ'
        exact ⟨e₂, a₂, w₂, hq₂, .of_steps (harr _ (by simp [gotoIn, hf'])) harr₂⟩
      | ret => exact ⟨_, a₁, w₁, hq, harr⟩
      | panic ch => exact ⟨_, a₁, w₁, hq, harr⟩
      | outgrown => exact ⟨_, a₁, w₁, hq, harr⟩
  obtain ⟨e, a₁, w₁, hq, harr⟩ := first (fun l a w h => by obtain ⟨rest, hf, hp⟩ := pass l a w h; exact ⟨rest, hf, Code.wp_mono (jumps_mono fun _ _ _ h => h.1) hp⟩) b (.inScope c :: k) cs
  cases e with
  | normal => exact ⟨.normal, a₁, w₁, hq, .head step_scope (Steps.trans harr (.one step_inScope))⟩
  | exit id => exact ⟨.exit id, a₁, w₁, hq, fun k' hk => .head step_scope (harr k' (by simp [exitTo, hk]))⟩
  | goto l' =>
    obtain ⟨rest', hf', e₂, a₂, w₂, hq₂, harr₂⟩ := key _ l' a₁ w₁ rfl hq
    exact ⟨e₂, a₂, w₂, hq₂, .of_steps (.head step_scope (harr _ (by simp [gotoIn, hf']))) harr₂⟩
  | ret => exact ⟨_, a₁, w₁, hq, .of_steps (.one step_scope) harr⟩
  | panic ch => exact ⟨_, a₁, w₁, hq, .of_steps (.one step_scope) harr⟩
  | outgrown => exact ⟨_, a₁, w₁, hq, .of_steps (.one step_scope) harr⟩
/-- What is planned, room made ahead. -/
noncomputable def pWrite (s : Int) (d : ByteArray) (R : Option (List ByteArray × List Int × List (Int × Int × ByteArray))) : Option (List ByteArray × List Int × List (Int × Int × ByteArray)) :=
  match R with
  | none => none
  | some r => match pBurn r.1 r.2.1 s d with
    | none => none
    | some b => some (b.1, r.2.1, r.2.2 ++ [b.2])
theorem pPlan_write {ps : List ByteArray} {ws : List Int} {s : Int} {d : ByteArray} : pPlan ps ws s d = pWrite s d (pRoom 10 ps ws []) := by
  unfold pPlan pWrite
  cases hr : recOkB s (mSeq ps) d with
  | true => rfl
  | false =>
    rw [if_pos rfl]
    cases pRoom 10 ps ws [] with
    | none => rfl
    | some r =>
      have h : recOkB s (mSeq r.1) d = false := by rw [recOkB_seq (mSeq_bd r.1) (mSeq_bd ps)]; exact hr
      simp only []
      rw [pBurn_none (.inr (.inl h))]

theorem worst_ge {ps : List ByteArray} {ws ms : List Int} (hm : ms.length = 26) : -1 ≤ worstB ps ws ms := by
  have := worstU_bd ps ws ms (openB ps ws) hm 10
  unfold worstB
  split <;> omega
/-- At the label 'look'. -/
def PLook (wr : World) (P base : Nat) (R : Option (List ByteArray × List Int × List (Int × Int × ByteArray))) (k : Nat) : Prop :=
  ∃ ps ws ms q cs, PW wr P base ps ws ms q cs ∧ ms = mMap ps ∧ q = mSeq ps ∧ chipOkP ps ws ∧ pRoom (10 - k) ps ws cs = R ∧ cs.length ≤ 157 * k
/-- At the label 'room'. -/
def PRoom (wr : World) (P base : Nat) (R : Option (List ByteArray × List Int × List (Int × Int × ByteArray))) : Prop :=
  ∃ ps ws ms q cs, PW wr P base ps ws ms q cs ∧ ms = mMap ps ∧ q = mSeq ps ∧ chipOkP ps ws ∧ R = some (ps, ws, cs) ∧ cs.length ≤ 1570

/-- What holds at the jumps. -/
def JW (P base : Nat) (s : Int) (d : ByteArray) (w : World) (R : Option (List ByteArray × List Int × List (Int × Int × ByteArray))) (l : Nat) (a' : Act) (wr : World) : Prop :=
  (l = 1 ∧ ∃ (k : Nat) (u3 u4 u5 u6 u8 u9 u10 u11 u12 u13 u14 u15 u16 u17 u18 u19 u20 u21 u22 u23 u24 u25 u26 u27 u28 u29 u30 u31 : Value), a' = { tmps := #[.pointer (some ⟨P, 0, none⟩), .int .i64 s, .string d, u3, u4, u5, u6, .int .i64 k, u8, u9, u10, u11, u12, u13, u14, u15, u16, u17, u18, u19, u20, u21, u22, u23, u24, u25, u26, u27, u28, u29, u30, u31], defers := [] } ∧ k ≤ 10 ∧ Hid (PLook wr P base R k) ∧ Hid (Below base w wr ∧ Fr P P P w wr)) ∨
  (l = 0 ∧ ∃ (u3 u4 u5 u6 u7 u8 u9 u10 u11 u12 u13 u14 u15 u16 u17 u18 u19 u20 u21 u22 u23 u24 u25 u26 u27 u28 u29 u30 u31 : Value), a' = { tmps := #[.pointer (some ⟨P, 0, none⟩), .int .i64 s, .string d, u3, u4, u5, u6, u7, u8, u9, u10, u11, u12, u13, u14, u15, u16, u17, u18, u19, u20, u21, u22, u23, u24, u25, u26, u27, u28, u29, u30, u31], defers := [] } ∧ Hid (PRoom wr P base R) ∧ Hid (Below base w wr ∧ Fr P P P w wr))
def muW (l : Nat) (a' : Act) (_ : World) : Nat := if l = 1 then 11 - (intOf (a'.tmps.getD 7 undef)).toNat else 0

set_option maxRecDepth 100000 in
set_option maxHeartbeats 12800000 in
theorem pwrite_any (P base : Nat) (ps : List ByteArray) (ws ms : List Int) (q : Int) (s : Int) (d : ByteArray) (w : World) (hW : PW w P base ps ws ms q []) (hm : ms = mMap ps) (hq : q = mSeq ps) (hok : chipOkP ps ws) (hd : d.size ≤ maxLen) (hs0 : -9223372036854775808 ≤ s) (hs1 : s ≤ 9223372036854775807) :
    Calls Tryz.prog 71 #[.pointer (some ⟨P, 0, none⟩), .int .i64 s, .string d] w fun e w' => e = .returned (.bool (pPlan ps ws s d).isSome) ∧ Below base w w' ∧ Fr P P P w w' ∧
      (∀ r, pPlan ps ws s d = some r → PW w' P base r.1 r.2.1 (mMap r.1) (mSeq r.1) r.2.2) ∧ PSome w' P base := by
  obtain ⟨R, hR⟩ : ∃ R, R = pRoom 10 ps ws [] := ⟨_, rfl⟩
  obtain ⟨A, hA⟩ : ∃ A, A = pPlan ps ws s d := ⟨_, rfl⟩
  have HAR : Hid (A = pWrite s d R) := by show _ = _; rw [hA, hR]; exact pPlan_write
  have HST : Hid (PLook w P base R 0) := ⟨ps, ws, ms, q, [], hW, hm, hq, hok, hR.symm, by simp⟩
  rw [← hA]
  clear hW hm hq hok hR hA
  go_enter Tryz.func71, Tryz.ntmps71
  go_wp2
  refine wp_scope_many (JW P base s d w R) muW ?first ?pass
  case first =>
    intro hpass
    go_wp2
    go_step3
    rename_i hK
    refine hK _ _ ?_
    refine wp_from (hpass 1 _ _ (.inl ⟨rfl, 0, _, _, _, _, _, _, _, _, _, _, _, _, _, _, _, _, _, _, _, _, _, _, _, _, _, _, _, _, rfl, Nat.zero_le _, HST, ⟨Below.refl _ _, Fr.of_below (Below.refl _ _)⟩⟩)) rfl
  case pass =>
    intro l a' wr hJ
    rcases hJ with ⟨rfl, k, u3, u4, u5, u6, u8, u9, u10, u11, u12, u13, u14, u15, u16, u17, u18, u19, u20, u21, u22, u23, u24, u25, u26, u27, u28, u29, u30, u31, rfl, hk, hst, hbf⟩ | ⟨rfl, u3, u4, u5, u6, u7, u8, u9, u10, u11, u12, u13, u14, u15, u16, u17, u18, u19, u20, u21, u22, u23, u24, u25, u26, u27, u28, u29, u30, u31, rfl, hst, hbf⟩
    · have hbr : Hid (Below base w wr) := hbf.out.1
      refine ⟨_, rfl, ?_⟩
      obtain ⟨pk, wk, mk, qk, ck, hwk, hmk, hqk, hokk, hrk, hck⟩ := hst.out
      have HWK0 := hide hwk
      obtain ⟨v5, k5, a5, c5, b5, d5, e5, f5, hwk⟩ := hwk
      obtain ⟨⟨c0, c1, c2, c3, c4⟩, -⟩ := hwk.cells
      have HWK := hide hwk
      have HOKk := hide hokk
      have HRK := hide hrk
      have HCK := hide hck
      have HMQ := hide (And.intro hmk hqk)
      clear hst hwk hmk hqk hokk hrk hck HST
      by_cases hk10 : k = 10
      · subst hk10
        have HPR : Hid (PRoom wr P base R) := ⟨pk, wk, mk, qk, ck, HWK0.out, HMQ.out.1, HMQ.out.2, HOKk.out, HRK.out.symm, by have := HCK.out; omega⟩
        go_wp2_with fail
        go_step3
        exact ⟨.inr ⟨rfl, _, _, _, _, _, _, _, _, _, _, _, _, _, _, _, _, _, _, _, _, _, _, _, _, _, _, _, _, _, rfl, HPR, hbf⟩, by simp [muW, intOf]⟩
      · have t1 : ((k : Int) == 10) = false := by simp; omega
        have hk9 : k < 10 := by omega
        have HRM : Hid (pRoom ((9 - k) + 1) pk wk ck = R) := by rw [show 9 - k + 1 = 10 - k by omega]; exact HRK
        obtain ⟨C, hC⟩ : ∃ C, C = crowdB pk wk := ⟨_, rfl⟩
        have HCR := hide (crowded_any a5 b5 pk wk c5 d5 wr HWK.out.rd.1 HWK.out.rd.2.1 HOKk.out (by have := HWK.out.cap; rw [HOKk.out.1] at this; exact this))
        rw [← hC] at HCR
        have HCC := hide hC
        obtain ⟨B, hB⟩ : ∃ B, B = worstB pk wk (mMap pk) := ⟨_, rfl⟩
        have HWO : Hid (∀ u, Below wr.heap.size wr u → Calls Tryz.prog 95 #[.agg #[.slice a5 pk.length c5, .slice b5 wk.length d5, .slice e5 mk.length f5, .int .i64 qk]] u fun e w' => e = .returned (.int .i64 B) ∧ Below u.heap.size u w') := by
          intro u hu
          have hr := (HWK.out.below hu).rd
          have hm := HMQ.out.1
          rw [hm] at hr
          rw [hm, hB]
          exact implWorstOf_ok a5 b5 e5 pk wk c5 d5 f5 qk u hr.1 hr.2.1 hr.2.2 HOKk.out (by have := HWK.out.cap; rw [HOKk.out.1] at this; exact this)
        have HBQ := hide hB
        clear hC hB hk10
        go_wp2_with fail
        refine HCR.out.mono ?_
        rintro e w2 ⟨rfl, hb2⟩
        have HB2 := hide hb2
        obtain ⟨⟨x0, x1, x2, x3, x4⟩, -⟩ := (HWK.out.below hb2).cells
        have HBF : Hid (∀ u, Below wr.heap.size wr u → Below base w u) := fun u hu => hbr.out.trans (hu.mono HWK.out.lt.2.2)
        clear hb2 HCR c0 c1 c2 c3 c4
        cases C with
        | false =>
          have HEN : Hid (pEnough pk wk) := Classical.byContradiction fun h => by have := crowdB_true.2 h; rw [← HCC.out] at this; cases this
          have HPR : Hid (PRoom w2 P base R) := ⟨pk, wk, mk, qk, ck, HWK0.out.below HB2.out, HMQ.out.1, HMQ.out.2, HOKk.out, by rw [← HRM.out]; exact pRoom_enough HEN.out, by have := HCK.out; omega⟩
          have HBB := hide (HBF.out _ HB2.out)
          go_wp2_with fail
          go_step3
          exact ⟨.inr ⟨rfl, _, _, _, _, _, _, _, _, _, _, _, _, _, _, _, _, _, _, _, _, _, _, _, _, _, _, _, _, _, rfl, HPR, ⟨HBB.out, hbf.out.2.trans (Fr.of_below HB2.out)⟩⟩, by simp [muW, intOf]; omega⟩
        | true =>
          have HNE : Hid (¬ pEnough pk wk) := crowdB_true.1 HCC.out.symm
          go_wp2_with fail
          refine (HWO.out w2 HB2.out).mono ?_
          rintro e w3 ⟨rfl, hb3⟩
          have HB3 := hide (after HB2.out hb3)
          have HBB := hide (HBF.out _ HB3.out)
          clear hb3 HWO x0 x1 x2 x3 x4
          by_cases hneg : B < 0
          · have hb1 : B = -1 := by have := worst_ge (ps := pk) (ws := wk) (mMap_len pk); rw [← HBQ.out] at this; omega
            have HRN : Hid (R = none) := by show _ = _; rw [← HRM.out]; exact pRoom_noworst HNE.out (by rw [← HBQ.out]; exact hneg)
            have HAN : Hid (A = none) := by show _ = _; rw [HAR.out, HRN.out]; rfl
            have HPS := hide (HWK0.out.below HB3.out).some
            have HCN := hide (pclean_no P w3)
            subst hb1
            go_wp2_with fail
            refine HCN.out.mono ?_
            rintro e u ⟨rfl, hu⟩
            have hu' := hu.symm
            subst hu'
            clear HCN
            go_wp2
            exact jumps_ret (bodyPost_ret (v := .bool false) (by simp [results, Tryz.results71, go_sem]) rfl ⟨by rw [HAN.out]; rfl, HBB.out, hbf.out.2.trans (Fr.of_below HB3.out), no_some HAN.out, HPS.out⟩)
          · obtain ⟨b, rfl⟩ : ∃ b : Nat, B = b := ⟨B.toNat, by omega⟩
            have HWU := hide (worst_used HOKk.out.1 HBQ.out.symm)
            have HRC := hide ((pRoom_clean (n := 9 - k) (cs := ck) HNE.out HBQ.out.symm).symm.trans HRM.out)
            have HCL := hide (pclean_any P base b pk wk mk qk ck w3 (HWK0.out.below HB3.out) HMQ.out.1 HMQ.out.2 HOKk.out HWU.out.1 HWU.out.2.1 (by have := HCK.out; omega))
            obtain ⟨X, hX⟩ : ∃ X, X = pClean b pk wk ck := ⟨_, rfl⟩
            rw [← hX] at HCL
            have HXQ := hide hX
            clear hX hneg
            go_wp2_with fail
            refine HCL.out.mono ?_
            rintro e w4 ⟨rfl, hb4, hf4, hy, hps⟩
            have HB4 : Hid (Below base w w4) := HBB.out.trans hb4
            have HF4 := hide ((hbf.out.2.trans (Fr.of_below HB3.out)).trans hf4)
            clear hf4
            cases X with
            | none =>
              have HRN : Hid (R = none) := by show _ = _; rw [← HRC.out, ← HXQ.out]
              have HAN : Hid (A = none) := by show _ = _; rw [HAR.out, HRN.out]; rfl
              have HPS := hide hps
              clear hb4 hy hps HCL
              go_wp2
              exact jumps_ret (bodyPost_ret (v := .bool false) (by simp [results, Tryz.results71, go_sem]) rfl ⟨by rw [HAN.out]; rfl, HB4.out, HF4.out, no_some HAN.out, HPS.out⟩)
            | some r =>
              have hri := pClean_right HOKk.out HXQ.out.symm
              have HLK : Hid (PLook w4 P base R (k + 1)) := ⟨_, _, _, _, _, hy r rfl, rfl, rfl, hri.1, by rw [show 10 - (k + 1) = 9 - k by omega, ← HRC.out, ← HXQ.out], by have := HCK.out; omega⟩
              clear hb4 hy hps HCL hri
              go_wp2_with fail
              go_step3
              exact ⟨.inl ⟨rfl, k + 1, _, _, _, _, _, _, _, _, _, _, _, _, _, _, _, _, _, _, _, _, _, _, _, _, _, _, _, _, by go_num, by omega, HLK, ⟨HB4.out, HF4.out⟩⟩, by simp [muW, intOf]; omega⟩
    · have hbr : Hid (Below base w wr) := hbf.out.1
      refine ⟨_, rfl, ?_⟩
      obtain ⟨pk, wk, mk, qk, ck, hwk, hmk, hqk, hokk, hrk, hck⟩ := hst.out
      have HBN := hide (pburn_any P base pk wk mk qk ck s d wr hwk hmk hqk hokk hd hs0 hs1 (by omega))
      obtain ⟨B, hB⟩ : ∃ B, B = pBurn pk wk s d := ⟨_, rfl⟩
      have HAB : Hid (A = pWrite s d (some (pk, wk, ck))) := by show _ = _; rw [← hrk]; exact HAR.out
      have HBQ := hide hB
      rw [← hB] at HBN
      clear hwk hmk hqk hokk hrk hck hst HAR hB HST
      go_wp2_with fail
      refine HBN.out.mono ?_
      rintro e w2 ⟨rfl, hb2, hf2, hy, hn⟩
      have HB2 : Hid (Below base w w2) := hbr.out.trans hb2
      have HF2 := hide (hbf.out.2.trans hf2)
      clear hf2
      cases B with
      | none =>
        have HAN : Hid (A = none) := by show _ = _; rw [HAB.out]; unfold pWrite; simp only []; rw [← HBQ.out]
        have HPS := hide (hn rfl).some
        clear hy hn hb2 HBN
        go_wp2
        exact jumps_ret (bodyPost_ret (v := .bool false) (by simp [results, Tryz.results71, go_sem]) rfl ⟨by rw [HAN.out]; rfl, HB2.out, HF2.out, no_some HAN.out, HPS.out⟩)
      | some b =>
        have HAY : Hid (A = some (b.1, wk, ck ++ [b.2])) := by show _ = _; rw [HAB.out]; unfold pWrite; simp only []; rw [← HBQ.out]
        have HWF := hide (hy b rfl)
        clear hy hn hb2 HBN
        go_wp2
        exact jumps_ret (bodyPost_ret (v := .bool true) (by simp [results, Tryz.results71, go_sem]) rfl ⟨by rw [HAY.out]; rfl, HB2.out, HF2.out, yes_some HAY.out HWF.out, HWF.out.some⟩)
end Go.Proofs.YtdicjbabnknjhaaGreat

namespace Go.Proofs.YtdicjbabnknjhaaGreat
open Go.RowKit

/-- What is planned behind the acts cs. -/
noncomputable def pPlanC (cs : List (Int × Int × ByteArray)) (ps : List ByteArray) (ws : List Int) (s : Int) (d : ByteArray) : Option (List ByteArray × List Int × List (Int × Int × ByteArray)) := pWrite s d (pRoom 10 ps ws cs)
/-- Acts ahead of a plan. -/
def ahead (cs : List (Int × Int × ByteArray)) (r : List ByteArray × List Int × List (Int × Int × ByteArray)) : List ByteArray × List Int × List (Int × Int × ByteArray) := (r.1, r.2.1, cs ++ r.2.2)
theorem pMove_ahead (B : Nat) (ws : List Int) : ∀ (xs : List Int) (ps : List ByteArray) (bs0 cs : List (Int × Int × ByteArray)), pMove B ws xs ps (cs ++ bs0) = (pMove B ws xs ps bs0).map fun r => (r.1, cs ++ r.2) := by
  intro xs
  induction xs with
  | nil => intro ps bs0 cs; rfl
  | cons x xs ih =>
    intro ps bs0 cs
    unfold pMove
    split
    · rfl
    · split
      · rfl
      · rw [List.append_assoc, ih]
theorem pClean_ahead (B : Nat) (ps : List ByteArray) (ws : List Int) (bs0 cs : List (Int × Int × ByteArray)) : pClean B ps ws (cs ++ bs0) = (pClean B ps ws bs0).map (ahead cs) := by
  rw [pClean_of, pClean_of, pMove_ahead]
  cases pMove B ws (livesU (mMap ps) B 6) ps bs0 with
  | none => rfl
  | some r =>
    unfold pCleanOf
    simp only [Option.map_some]
    split
    · rfl
    · simp [ahead, List.append_assoc]
theorem pRoom_ahead : ∀ (n : Nat) (ps : List ByteArray) (ws : List Int) (bs0 cs : List (Int × Int × ByteArray)), pRoom n ps ws (cs ++ bs0) = (pRoom n ps ws bs0).map (ahead cs) := by
  intro n
  induction n with
  | zero => intro ps ws bs0 cs; rfl
  | succ n ih =>
    intro ps ws bs0 cs
    unfold pRoom
    split
    · rfl
    · split
      · rfl
      · rw [pClean_ahead]
        cases pClean _ ps ws bs0 with
        | none => rfl
        | some r => exact ih r.1 r.2.1 r.2.2 cs
theorem pPlanC_ahead (cs : List (Int × Int × ByteArray)) (ps : List ByteArray) (ws : List Int) (s : Int) (d : ByteArray) : pPlanC cs ps ws s d = (pPlan ps ws s d).map (ahead cs) := by
  rw [pPlan_write, pPlanC]
  have h := pRoom_ahead 10 ps ws [] cs
  rw [List.append_nil] at h
  rw [h]
  cases pRoom 10 ps ws [] with
  | none => rfl
  | some r =>
    simp only [Option.map_some, pWrite, ahead]
    cases pBurn r.1 r.2.1 s d with
    | none => rfl
    | some b => simp [ahead, List.append_assoc]

/-- Some writes, one behind the other. -/
noncomputable def pWrites : List (Int × ByteArray) → List ByteArray → List Int → List (Int × Int × ByteArray) → Option (List ByteArray × List Int × List (Int × Int × ByteArray))
  | [], ps, ws, cs => some (ps, ws, cs)
  | x :: L, ps, ws, cs => match pPlan ps ws x.1 x.2 with
    | none => none
    | some r => pWrites L r.1 r.2.1 (cs ++ r.2.2)
noncomputable def pWritesL (L : List (Int × ByteArray)) (ps : List ByteArray) (ws : List Int) : Option (List ByteArray × List Int × List (Int × Int × ByteArray)) := if 8 < L.length then none else pWrites L ps ws []
theorem pWrites_at {L : List (Int × ByteArray)} {k : Nat} {x : Int × ByteArray} {ps : List ByteArray} {ws : List Int} {cs : List (Int × Int × ByteArray)} (h : L[k]? = some x) :
    pWrites (L.drop k) ps ws cs = match pPlan ps ws x.1 x.2 with
      | none => none
      | some r => pWrites (L.drop (k + 1)) r.1 r.2.1 (cs ++ r.2.2) := by
  have hk : k < L.length := by
    rcases Nat.lt_or_ge k L.length with h' | h'
    · exact h'
    · simp [h'] at h
  have e : L[k] = x := by rw [List.getElem?_eq_getElem hk] at h; exact Option.some.inj h
  rw [List.drop_eq_getElem_cons hk, e]
  rfl
theorem pWrites_none {L : List (Int × ByteArray)} {k : Nat} {x : Int × ByteArray} {ps : List ByteArray} {ws : List Int} {cs : List (Int × Int × ByteArray)} (h : L[k]? = some x) (hp : pPlan ps ws x.1 x.2 = none) : pWrites (L.drop k) ps ws cs = none := by rw [pWrites_at h, hp]
theorem pWrites_some {L : List (Int × ByteArray)} {k : Nat} {x : Int × ByteArray} {ps : List ByteArray} {ws : List Int} {cs : List (Int × Int × ByteArray)} {r : List ByteArray × List Int × List (Int × Int × ByteArray)} (h : L[k]? = some x) (hp : pPlan ps ws x.1 x.2 = some r) : pWrites (L.drop k) ps ws cs = pWrites (L.drop (k + 1)) r.1 r.2.1 (cs ++ r.2.2) := by rw [pWrites_at h, hp]
theorem pWrites_right : ∀ (L : List (Int × ByteArray)) (ps : List ByteArray) (ws : List Int) (cs : List (Int × Int × ByteArray)) (r : List ByteArray × List Int × List (Int × Int × ByteArray)), chipOkP ps ws → pWrites L ps ws cs = some r → chipOkP r.1 r.2.1 ∧ r.2.2.length ≤ cs.length + 1571 * L.length := by
  intro L
  induction L with
  | nil =>
    intro ps ws cs r h hp
    simp only [pWrites, Option.some.injEq] at hp
    subst hp
    exact ⟨h, by simp⟩
  | cons x L ih =>
    intro ps ws cs r h hp
    unfold pWrites at hp
    split at hp
    · cases hp
    · next r1 hr1 =>
      have h1 := pPlan_right h hr1
      have h2 := ih _ _ _ _ h1.1 hp
      refine ⟨h2.1, ?_⟩
      have := h2.2
      rw [List.length_append] at this
      rw [List.length_cons]
      omega

/-- At the label 'look'. -/
def PLookC (N0 : Nat) (wr : World) (P base : Nat) (R : Option (List ByteArray × List Int × List (Int × Int × ByteArray))) (k : Nat) : Prop :=
  ∃ ps ws ms q cs, PW wr P base ps ws ms q cs ∧ ms = mMap ps ∧ q = mSeq ps ∧ chipOkP ps ws ∧ pRoom (10 - k) ps ws cs = R ∧ cs.length ≤ N0 + 157 * k
/-- At the label 'room'. -/
def PRoomC (N0 : Nat) (wr : World) (P base : Nat) (R : Option (List ByteArray × List Int × List (Int × Int × ByteArray))) : Prop :=
  ∃ ps ws ms q cs, PW wr P base ps ws ms q cs ∧ ms = mMap ps ∧ q = mSeq ps ∧ chipOkP ps ws ∧ R = some (ps, ws, cs) ∧ cs.length ≤ N0 + 1570

/-- What holds at the jumps. -/
def JWC (N0 : Nat) (P base : Nat) (s : Int) (d : ByteArray) (w : World) (R : Option (List ByteArray × List Int × List (Int × Int × ByteArray))) (l : Nat) (a' : Act) (wr : World) : Prop :=
  (l = 1 ∧ ∃ (k : Nat) (u3 u4 u5 u6 u8 u9 u10 u11 u12 u13 u14 u15 u16 u17 u18 u19 u20 u21 u22 u23 u24 u25 u26 u27 u28 u29 u30 u31 : Value), a' = { tmps := #[.pointer (some ⟨P, 0, none⟩), .int .i64 s, .string d, u3, u4, u5, u6, .int .i64 k, u8, u9, u10, u11, u12, u13, u14, u15, u16, u17, u18, u19, u20, u21, u22, u23, u24, u25, u26, u27, u28, u29, u30, u31], defers := [] } ∧ k ≤ 10 ∧ Hid (PLookC N0 wr P base R k) ∧ Hid (Below base w wr ∧ Fr P P P w wr)) ∨
  (l = 0 ∧ ∃ (u3 u4 u5 u6 u7 u8 u9 u10 u11 u12 u13 u14 u15 u16 u17 u18 u19 u20 u21 u22 u23 u24 u25 u26 u27 u28 u29 u30 u31 : Value), a' = { tmps := #[.pointer (some ⟨P, 0, none⟩), .int .i64 s, .string d, u3, u4, u5, u6, u7, u8, u9, u10, u11, u12, u13, u14, u15, u16, u17, u18, u19, u20, u21, u22, u23, u24, u25, u26, u27, u28, u29, u30, u31], defers := [] } ∧ Hid (PRoomC N0 wr P base R) ∧ Hid (Below base w wr ∧ Fr P P P w wr))

set_option maxRecDepth 100000 in
set_option maxHeartbeats 12800000 in
theorem pwriteC_any (P base N0 : Nat) (cs : List (Int × Int × ByteArray)) (ps : List ByteArray) (ws ms : List Int) (q : Int) (s : Int) (d : ByteArray) (w : World) (hW : PW w P base ps ws ms q cs) (hm : ms = mMap ps) (hq : q = mSeq ps) (hok : chipOkP ps ws) (hd : d.size ≤ maxLen) (hs0 : -9223372036854775808 ≤ s) (hs1 : s ≤ 9223372036854775807) (hN0 : cs.length = N0) (hNb : N0 ≤ 40000) :
    Calls Tryz.prog 71 #[.pointer (some ⟨P, 0, none⟩), .int .i64 s, .string d] w fun e w' => e = .returned (.bool (pPlanC cs ps ws s d).isSome) ∧ Below base w w' ∧ Fr P P P w w' ∧
      (∀ r, pPlanC cs ps ws s d = some r → PW w' P base r.1 r.2.1 (mMap r.1) (mSeq r.1) r.2.2) ∧ PSome w' P base := by
  obtain ⟨R, hR⟩ : ∃ R, R = pRoom 10 ps ws cs := ⟨_, rfl⟩
  obtain ⟨A, hA⟩ : ∃ A, A = pPlanC cs ps ws s d := ⟨_, rfl⟩
  have HAR : Hid (A = pWrite s d R) := by show _ = _; rw [hA, hR]; rfl
  have HST : Hid (PLookC N0 w P base R 0) := ⟨ps, ws, ms, q, cs, hW, hm, hq, hok, hR.symm, by omega⟩
  rw [← hA]
  clear hW hm hq hok hR hA hN0
  go_enter Tryz.func71, Tryz.ntmps71
  go_wp2
  refine wp_scope_many (JWC N0 P base s d w R) muW ?first ?pass
  case first =>
    intro hpass
    go_wp2
    go_step3
    rename_i hK
    refine hK _ _ ?_
    refine wp_from (hpass 1 _ _ (.inl ⟨rfl, 0, _, _, _, _, _, _, _, _, _, _, _, _, _, _, _, _, _, _, _, _, _, _, _, _, _, _, _, _, rfl, Nat.zero_le _, HST, ⟨Below.refl _ _, Fr.of_below (Below.refl _ _)⟩⟩)) rfl
  case pass =>
    intro l a' wr hJ
    rcases hJ with ⟨rfl, k, u3, u4, u5, u6, u8, u9, u10, u11, u12, u13, u14, u15, u16, u17, u18, u19, u20, u21, u22, u23, u24, u25, u26, u27, u28, u29, u30, u31, rfl, hk, hst, hbf⟩ | ⟨rfl, u3, u4, u5, u6, u7, u8, u9, u10, u11, u12, u13, u14, u15, u16, u17, u18, u19, u20, u21, u22, u23, u24, u25, u26, u27, u28, u29, u30, u31, rfl, hst, hbf⟩
    · have hbr : Hid (Below base w wr) := hbf.out.1
      refine ⟨_, rfl, ?_⟩
      obtain ⟨pk, wk, mk, qk, ck, hwk, hmk, hqk, hokk, hrk, hck⟩ := hst.out
      have HWK0 := hide hwk
      obtain ⟨v5, k5, a5, c5, b5, d5, e5, f5, hwk⟩ := hwk
      obtain ⟨⟨c0, c1, c2, c3, c4⟩, -⟩ := hwk.cells
      have HWK := hide hwk
      have HOKk := hide hokk
      have HRK := hide hrk
      have HCK := hide hck
      have HMQ := hide (And.intro hmk hqk)
      clear hst hwk hmk hqk hokk hrk hck HST
      by_cases hk10 : k = 10
      · subst hk10
        have HPR : Hid (PRoomC N0 wr P base R) := ⟨pk, wk, mk, qk, ck, HWK0.out, HMQ.out.1, HMQ.out.2, HOKk.out, HRK.out.symm, by have := HCK.out; omega⟩
        go_wp2_with fail
        go_step3
        exact ⟨.inr ⟨rfl, _, _, _, _, _, _, _, _, _, _, _, _, _, _, _, _, _, _, _, _, _, _, _, _, _, _, _, _, _, rfl, HPR, hbf⟩, by simp [muW, intOf]⟩
      · have t1 : ((k : Int) == 10) = false := by simp; omega
        have hk9 : k < 10 := by omega
        have HRM : Hid (pRoom ((9 - k) + 1) pk wk ck = R) := by rw [show 9 - k + 1 = 10 - k by omega]; exact HRK
        obtain ⟨C, hC⟩ : ∃ C, C = crowdB pk wk := ⟨_, rfl⟩
        have HCR := hide (crowded_any a5 b5 pk wk c5 d5 wr HWK.out.rd.1 HWK.out.rd.2.1 HOKk.out (by have := HWK.out.cap; rw [HOKk.out.1] at this; exact this))
        rw [← hC] at HCR
        have HCC := hide hC
        obtain ⟨B, hB⟩ : ∃ B, B = worstB pk wk (mMap pk) := ⟨_, rfl⟩
        have HWO : Hid (∀ u, Below wr.heap.size wr u → Calls Tryz.prog 95 #[.agg #[.slice a5 pk.length c5, .slice b5 wk.length d5, .slice e5 mk.length f5, .int .i64 qk]] u fun e w' => e = .returned (.int .i64 B) ∧ Below u.heap.size u w') := by
          intro u hu
          have hr := (HWK.out.below hu).rd
          have hm := HMQ.out.1
          rw [hm] at hr
          rw [hm, hB]
          exact implWorstOf_ok a5 b5 e5 pk wk c5 d5 f5 qk u hr.1 hr.2.1 hr.2.2 HOKk.out (by have := HWK.out.cap; rw [HOKk.out.1] at this; exact this)
        have HBQ := hide hB
        clear hC hB hk10
        go_wp2_with fail
        refine HCR.out.mono ?_
        rintro e w2 ⟨rfl, hb2⟩
        have HB2 := hide hb2
        obtain ⟨⟨x0, x1, x2, x3, x4⟩, -⟩ := (HWK.out.below hb2).cells
        have HBF : Hid (∀ u, Below wr.heap.size wr u → Below base w u) := fun u hu => hbr.out.trans (hu.mono HWK.out.lt.2.2)
        clear hb2 HCR c0 c1 c2 c3 c4
        cases C with
        | false =>
          have HEN : Hid (pEnough pk wk) := Classical.byContradiction fun h => by have := crowdB_true.2 h; rw [← HCC.out] at this; cases this
          have HPR : Hid (PRoomC N0 w2 P base R) := ⟨pk, wk, mk, qk, ck, HWK0.out.below HB2.out, HMQ.out.1, HMQ.out.2, HOKk.out, by rw [← HRM.out]; exact pRoom_enough HEN.out, by have := HCK.out; omega⟩
          have HBB := hide (HBF.out _ HB2.out)
          go_wp2_with fail
          go_step3
          exact ⟨.inr ⟨rfl, _, _, _, _, _, _, _, _, _, _, _, _, _, _, _, _, _, _, _, _, _, _, _, _, _, _, _, _, _, rfl, HPR, ⟨HBB.out, hbf.out.2.trans (Fr.of_below HB2.out)⟩⟩, by simp [muW, intOf]; omega⟩
        | true =>
          have HNE : Hid (¬ pEnough pk wk) := crowdB_true.1 HCC.out.symm
          go_wp2_with fail
          refine (HWO.out w2 HB2.out).mono ?_
          rintro e w3 ⟨rfl, hb3⟩
          have HB3 := hide (after HB2.out hb3)
          have HBB := hide (HBF.out _ HB3.out)
          clear hb3 HWO x0 x1 x2 x3 x4
          by_cases hneg : B < 0
          · have hb1 : B = -1 := by have := worst_ge (ps := pk) (ws := wk) (mMap_len pk); rw [← HBQ.out] at this; omega
            have HRN : Hid (R = none) := by show _ = _; rw [← HRM.out]; exact pRoom_noworst HNE.out (by rw [← HBQ.out]; exact hneg)
            have HAN : Hid (A = none) := by show _ = _; rw [HAR.out, HRN.out]; rfl
            have HPS := hide (HWK0.out.below HB3.out).some
            have HCN := hide (pclean_no P w3)
            subst hb1
            go_wp2_with fail
            refine HCN.out.mono ?_
            rintro e u ⟨rfl, hu⟩
            have hu' := hu.symm
            subst hu'
            clear HCN
            go_wp2
            exact jumps_ret (bodyPost_ret (v := .bool false) (by simp [results, Tryz.results71, go_sem]) rfl ⟨by rw [HAN.out]; rfl, HBB.out, hbf.out.2.trans (Fr.of_below HB3.out), no_some HAN.out, HPS.out⟩)
          · obtain ⟨b, rfl⟩ : ∃ b : Nat, B = b := ⟨B.toNat, by omega⟩
            have HWU := hide (worst_used HOKk.out.1 HBQ.out.symm)
            have HRC := hide ((pRoom_clean (n := 9 - k) (cs := ck) HNE.out HBQ.out.symm).symm.trans HRM.out)
            have HCL := hide (pclean_any P base b pk wk mk qk ck w3 (HWK0.out.below HB3.out) HMQ.out.1 HMQ.out.2 HOKk.out HWU.out.1 HWU.out.2.1 (by have := HCK.out; omega))
            obtain ⟨X, hX⟩ : ∃ X, X = pClean b pk wk ck := ⟨_, rfl⟩
            rw [← hX] at HCL
            have HXQ := hide hX
            clear hX hneg
            go_wp2_with fail
            refine HCL.out.mono ?_
            rintro e w4 ⟨rfl, hb4, hf4, hy, hps⟩
            have HB4 : Hid (Below base w w4) := HBB.out.trans hb4
            have HF4 := hide ((hbf.out.2.trans (Fr.of_below HB3.out)).trans hf4)
            clear hf4
            cases X with
            | none =>
              have HRN : Hid (R = none) := by show _ = _; rw [← HRC.out, ← HXQ.out]
              have HAN : Hid (A = none) := by show _ = _; rw [HAR.out, HRN.out]; rfl
              have HPS := hide hps
              clear hb4 hy hps HCL
              go_wp2
              exact jumps_ret (bodyPost_ret (v := .bool false) (by simp [results, Tryz.results71, go_sem]) rfl ⟨by rw [HAN.out]; rfl, HB4.out, HF4.out, no_some HAN.out, HPS.out⟩)
            | some r =>
              have hri := pClean_right HOKk.out HXQ.out.symm
              have HLK : Hid (PLookC N0 w4 P base R (k + 1)) := ⟨_, _, _, _, _, hy r rfl, rfl, rfl, hri.1, by rw [show 10 - (k + 1) = 9 - k by omega, ← HRC.out, ← HXQ.out], by have := HCK.out; omega⟩
              clear hb4 hy hps HCL hri
              go_wp2_with fail
              go_step3
              exact ⟨.inl ⟨rfl, k + 1, _, _, _, _, _, _, _, _, _, _, _, _, _, _, _, _, _, _, _, _, _, _, _, _, _, _, _, _, by go_num, by omega, HLK, ⟨HB4.out, HF4.out⟩⟩, by simp [muW, intOf]; omega⟩
    · have hbr : Hid (Below base w wr) := hbf.out.1
      refine ⟨_, rfl, ?_⟩
      obtain ⟨pk, wk, mk, qk, ck, hwk, hmk, hqk, hokk, hrk, hck⟩ := hst.out
      have HBN := hide (pburn_any P base pk wk mk qk ck s d wr hwk hmk hqk hokk hd hs0 hs1 (by omega))
      obtain ⟨B, hB⟩ : ∃ B, B = pBurn pk wk s d := ⟨_, rfl⟩
      have HAB : Hid (A = pWrite s d (some (pk, wk, ck))) := by show _ = _; rw [← hrk]; exact HAR.out
      have HBQ := hide hB
      rw [← hB] at HBN
      clear hwk hmk hqk hokk hrk hck hst HAR hB HST
      go_wp2_with fail
      refine HBN.out.mono ?_
      rintro e w2 ⟨rfl, hb2, hf2, hy, hn⟩
      have HB2 : Hid (Below base w w2) := hbr.out.trans hb2
      have HF2 := hide (hbf.out.2.trans hf2)
      clear hf2
      cases B with
      | none =>
        have HAN : Hid (A = none) := by show _ = _; rw [HAB.out]; unfold pWrite; simp only []; rw [← HBQ.out]
        have HPS := hide (hn rfl).some
        clear hy hn hb2 HBN
        go_wp2
        exact jumps_ret (bodyPost_ret (v := .bool false) (by simp [results, Tryz.results71, go_sem]) rfl ⟨by rw [HAN.out]; rfl, HB2.out, HF2.out, no_some HAN.out, HPS.out⟩)
      | some b =>
        have HAY : Hid (A = some (b.1, wk, ck ++ [b.2])) := by show _ = _; rw [HAB.out]; unfold pWrite; simp only []; rw [← HBQ.out]
        have HWF := hide (hy b rfl)
        clear hy hn hb2 HBN
        go_wp2
        exact jumps_ret (bodyPost_ret (v := .bool true) (by simp [results, Tryz.results71, go_sem]) rfl ⟨by rw [HAY.out]; rfl, HB2.out, HF2.out, yes_some HAY.out HWF.out, HWF.out.some⟩)
end Go.Proofs.YtdicjbabnknjhaaGreat
