/-
  Contract of the program's (*writing).clean.
  Contracts of the specification's l4Copy, and of FreeBlocks of a chip that is not right.
  Contract of the specification's l4Copy.
-/
import Derived.Test.YtdicjbabnknjhaaGreatJRecover28
import Derived.Test.YtdicjbabnknjhaaGreatJRecover29
import Derived.Test.YtdicjbabnknjhaaGreatJRecover10
import Derived.Test.YtdicjbabnknjhaaGreatJRecover12
import Derived.Deep.RegionHeldLaw
import Derived.Deep.RegionLawGrows
namespace Go.Proofs.YtdicjbabnknjhaaGreat
open Go.RowKit

theorem apply_clear {ps : List ByteArray} {ws : List Int} {B : Nat} (hok : chipOkP ps ws) (hB : B < 10) :
    (applyF ps ws 2 (B : Int) ByteArray.empty = true → ws[B]?.getD 0 ≠ 1000000000 ∧ applyP ps ws 2 (B : Int) ByteArray.empty = wipeP ps B 6 ∧ applyW ps ws 2 (B : Int) = ws.set B (ws[B]?.getD 0 + 1)) ∧
      (applyF ps ws 2 (B : Int) ByteArray.empty = false → ws[B]?.getD 0 = 1000000000) := by
  have e1 : applyF ps ws 2 (B : Int) ByteArray.empty = clearF ps ws (B : Int) := by unfold applyF; rw [if_neg (by decide), if_pos rfl]
  have e2 : applyP ps ws 2 (B : Int) ByteArray.empty = clearP ps ws (B : Int) := by unfold applyP; rw [if_neg (by decide), if_pos rfl]
  have e3 : applyW ps ws 2 (B : Int) = clearW ps ws (B : Int) := by unfold applyW; rw [if_neg (by decide), if_pos rfl]
  rw [e1, e2, e3]
  constructor
  · intro h
    have h : clearOk ws (B : Int) := by
      simp only [clearF, decide_eq_true_eq] at h
      exact h.2
    have hw := h.2.2
    rw [Int.toNat_natCast] at hw
    refine ⟨hw, ?_, ?_⟩
    · unfold clearP halfQ
      rw [if_pos hok, if_pos h, Int.toNat_natCast]
      rfl
    · unfold clearW
      rw [if_pos hok, if_pos h, Int.toNat_natCast]
  · intro h
    have h : ¬ (chipOkP ps ws ∧ clearOk ws (B : Int)) := by
      simpa only [clearF, decide_eq_false_iff_not] using h
    refine Classical.byContradiction fun hw => h ⟨hok, by omega, by omega, ?_⟩
    rw [Int.toNat_natCast]
    exact hw
theorem inB_iff {n : Int} {B : Nat} : inB n (B : Int) = true ↔ n / 6 = (B : Int) := by
  simp only [inB, decide_eq_true_eq]
  omega
/-- Work that has come to some state. -/
def PSome (w : World) (P base : Nat) : Prop := ∃ ps ws ms q cs, PW w P base ps ws ms q cs
theorem PW.some {w : World} {P base : Nat} {ps : List ByteArray} {ws ms : List Int} {q : Int} {cs : List (Int × Int × ByteArray)} (h : PW w P base ps ws ms q cs) : PSome w P base := ⟨_, _, _, _, _, h⟩
theorem PSome.below {w w' : World} {P base : Nat} (h : PSome w P base) (hb : Below w.heap.size w w') : PSome w' P base := by
  obtain ⟨_, _, _, _, _, h⟩ := h
  exact (h.below hb).some
/-- What is moved behind a burn. -/
noncomputable def pNext (B : Nat) (ws : List Int) (L : List Int) (cs : List (Int × Int × ByteArray)) : Option (List ByteArray × (Int × Int × ByteArray)) → Option (List ByteArray × List (Int × Int × ByteArray))
  | none => none
  | some r => pMove B ws L r.1 (cs ++ [r.2])
/-- Between two pages: what lived there so far was burnt. -/
def PCl (wr : World) (P base B : Nat) (ws L : List Int) (M : Option (List ByteArray × List (Int × Int × ByteArray))) (n k : Nat) : Prop :=
  ∃ ps ms q cs, PW wr P base ps ws ms q cs ∧ ms = mMap ps ∧ q = mSeq ps ∧ chipOkP ps ws ∧ pMove B ws (L.drop k) ps cs = M ∧ cs.length = n + k

set_option maxHeartbeats 1600000 in
/-- Where there is no block. -/
theorem pclean_no (P : Nat) (w : World) :
    Calls Tryz.prog 94 #[.pointer (some ⟨P, 0, none⟩), .int .i64 (-1)] w fun e w' => e = .returned (.bool false) ∧ w' = w := by
  go_enter Tryz.func94, Tryz.ntmps94
  go_wp2
  go_ret
  exact ⟨rfl, rfl⟩

set_option maxRecDepth 100000 in
set_option maxHeartbeats 12800000 in
theorem pclean_any (P base B : Nat) (ps : List ByteArray) (ws ms : List Int) (q : Int) (cs : List (Int × Int × ByteArray)) (w : World) (hW : PW w P base ps ws ms q cs) (hm : ms = mMap ps) (hq : q = mSeq ps) (hok : chipOkP ps ws) (hB : B < 10) (hnf : (B : Int) ∉ freeB ps 10) (hcs : cs.length ≤ 50000) :
    Calls Tryz.prog 94 #[.pointer (some ⟨P, 0, none⟩), .int .i64 B] w fun e w' => e = .returned (.bool (pClean B ps ws cs).isSome) ∧ Below base w w' ∧ Fr P P P w w' ∧
      (∀ r, pClean B ps ws cs = some r → PW w' P base r.1 r.2.1 (mMap r.1) (mSeq r.1) r.2.2) ∧ PSome w' P base := by
  have hW0 := hide hW
  obtain ⟨v4, k4, a, c, b, d0, e0, f, hW⟩ := hW
  obtain ⟨⟨c0, c1, c2, c3, c4⟩, -⟩ := hW.cells
  obtain ⟨L, hL⟩ : ∃ L, L = livesU (mMap ps) B 6 := ⟨_, rfl⟩
  have hLl : L.length ≤ 156 := by have := livesU_len (mMap ps) B 6; rw [mMap_len, ← hL] at this; omega
  have HLB : Hid (∀ x ∈ L, 0 ≤ x ∧ x < 60) := by
    show ∀ x ∈ L, _
    rw [hL]
    intro x hx
    have := lives_bd 6 x hx
    omega
  obtain ⟨M, hM⟩ : ∃ M, M = pMove B ws L ps cs := ⟨_, rfl⟩
  have HPC : Hid (pClean B ps ws cs = pCleanOf B ws M) := by show _ = _; rw [hM, hL]; exact pClean_of B ps ws cs
  have HFB : Hid (Calls Tryz.prog 111 #[.agg #[.slice a ps.length c, .slice b ws.length d0]] w fun e w' => ∃ a1 n1 c1, e = .returned (.slice a1 n1 c1) ∧ Below w.heap.size w w' ∧ ∀ u, Below w'.heap.size w' u → Calls Tryz.prog 113 #[.slice a1 n1 c1, .int .i64 B] u fun e w' => e = .returned (.bool false) ∧ w' = u) := by
    refine (implFree_ok a b ps ws c d0 w hW.rd.1 hW.rd.2.1 hok (by have := hW.cap; rw [hok.1] at this; exact this)).mono ?_
    rintro e w' ⟨v, rfl, hown, hb⟩
    obtain ⟨a1, c1, rfl⟩ := owns_shape hown
    refine ⟨a1, _, c1, rfl, hb, fun u hu => ?_⟩
    refine (containsInt_any a1 (freeB ps 10) c1 (B : Int) u (rd_of_own (owns_below hown hu)) (by have := freeB_len ps 10; omega)).mono ?_
    rintro e w' ⟨rfl, rfl⟩
    exact ⟨by rw [show decide ((B : Int) ∈ freeB ps 10) = false by simpa using hnf], rfl⟩
  have HLV : Hid (∀ u, Below w.heap.size w u → Calls Tryz.prog 114 #[.slice e0 ms.length f, .int .i64 B] u fun e w' => ∃ aL cL, e = .returned (.slice aL L.length cL) ∧ w'.ownsRow u.heap.size 3 1 (.slice aL L.length cL) L.length (vsInt L) ∧ Below u.heap.size u w') := by
    intro u hu
    have hr := (hW.below hu).rd.2.2
    rw [hm] at hr
    rw [hm]
    refine (livesIn_any e0 ps f B u hr hB).mono ?_
    rintro e w' ⟨v, rfl, hown, hb⟩
    rw [← hL] at hown
    obtain ⟨aL, cL, rfl⟩ := owns_shape hown
    exact ⟨aL, cL, rfl, hown, hb⟩
  have HM := hide (And.intro hm hq)
  have HMM := hide hM
  have HW := hide hW
  have HOK := hide hok
  have hlt := hW.lt
  have HLT := hide hlt
  clear hW hok hL hM hnf hm hq hlt
  go_enter Tryz.func94, Tryz.ntmps94
  go_wp2_with fail
  refine HFB.out.mono ?_
  rintro e w1 ⟨a1, n1, c1', rfl, hb1, hct⟩
  have HB1 := hide hb1
  have HCT := hide (hct w1 (Below.refl _ _))
  obtain ⟨⟨x0, x1, x2, x3, x4⟩, -⟩ := (HW.out.below hb1).cells
  clear HFB hb1 hct c0 c1 c2 c3 c4
  go_wp2_with fail
  refine HCT.out.mono ?_
  rintro e u ⟨rfl, hu⟩
  have hu' := hu.symm
  subst hu'
  clear HCT
  go_wp2_with fail
  refine (HLV.out w1 HB1.out).mono ?_
  rintro e w2 ⟨aL, cL, rfl, hown, hb2⟩
  have HO2 := hide hown
  have HB2 := hide (after HB1.out hb2)
  have HS2 : Hid (w.heap.size ≤ w1.heap.size) := HB1.out.size
  obtain ⟨S1, hS1⟩ : ∃ S1, S1 = w1.heap.size := ⟨_, rfl⟩
  rw [← hS1] at HO2 HS2
  clear HLV hown hb2 x0 x1 x2 x3 x4 HB1 hS1
  go_wp2_with fail
  go_loopw [33] (fun i wr => ∃ k : Nat, k ≤ L.length ∧ i = .int .i64 k ∧ Hid (PCl wr P base B ws L M cs.length k) ∧ Hid (Below base w wr ∧ Fr P P P w wr) ∧ Hid (wr.ownsRow S1 3 1 (.slice aL L.length cL) L.length (vsInt L))) (fun i _ => L.length - (intOf i).toNat)
  case atStart => exact ⟨0, Nat.zero_le _, rfl, ⟨ps, ms, q, cs, hW0.out.below HB2.out, HM.out.1, HM.out.2, HOK.out, HMM.out.symm, rfl⟩, ⟨HB2.out.mono HLT.out.2.2, Fr.of_below HB2.out⟩, HO2.out⟩
  case round =>
    obtain ⟨k, hk, rfl, hst, hbf, hor⟩ := hrel
    have hbr : Hid (Below base w wr) := hbf.out.1
    clear HO2 HB2
    obtain ⟨pk, mk, qk, ck, hwk, hmk, hqk, hokk, hmv, hck⟩ := hst.out
    have HWK0 := hide hwk
    obtain ⟨v5, k5, a5, c5, b5, d5, e5, f5, hwk⟩ := hwk
    obtain ⟨⟨c0, c1, c2, c3, c4⟩, -⟩ := hwk.cells
    have HWK := hide hwk
    have HOKk := hide hokk
    have HMV := hide hmv
    have HCK := hide hck
    have HMQ := hide (And.intro hmk hqk)
    clear hst hwk hmk hqk hokk hmv hck
    by_cases hltk : k < L.length
    · have t1 : decide ((k : Int) < (L.length : Int)) = true := by simpa using hltk
      obtain ⟨bL, oL, x, rfl, hcx, HX⟩ := rdInt_at (rd_of_own hor.out) hltk
      obtain ⟨hx0, hx1⟩ := HLB.out x (List.mem_of_getElem? HX.out)
      obtain ⟨X, rfl⟩ : ∃ X : Nat, x = X := ⟨x.toNat, by omega⟩
      have hXl : X < pk.length := by have := HOKk.out.1; omega
      obtain ⟨bp, op, t, rfl, hct, HT⟩ := rdString_at HWK.out.rd.1 hXl
      obtain ⟨s, q', d, Bo, he2, hcall⟩ := implRec_fn pk X t HT.out (by have := HOKk.out.2.2.1 t (List.mem_of_getElem? HT.out); omega)
      have he2 := hide he2
      have hcall := hide hcall
      have HN : Hid (Calls Tryz.prog 112 #[.agg #[.slice (some ⟨bp, op, none⟩) pk.length c5, .slice b5 ws.length d5]] wr fun e w' => e = .returned (.int .i64 (nextP pk ws)) ∧ Below wr.heap.size wr w') :=
        implNext_ok _ _ pk ws c5 d5 wr HWK.out.rd.1 HWK.out.rd.2.1 HOKk.out (by have := HWK.out.cap; rw [HOKk.out.1] at this; exact this)
      have hNb := nextP_bd pk ws
      obtain ⟨N, hN⟩ : ∃ N, N = nextP pk ws := ⟨_, rfl⟩
      rw [← hN] at HN hNb
      have HNN := hide hN
      have HIN : Hid (∀ u, Calls Tryz.prog 115 #[.int .i64 N, .int .i64 B] u fun e w' => e = .returned (.bool (inB N B)) ∧ w' = u) := fun u => inBlock_any N B u (by omega) (by omega) (by omega) (by omega)
      have HSD : Hid (d.size ≤ 400 ∧ 0 ≤ s ∧ s ≤ 25) := by have := recC_size pk X; rw [he2.out] at this; exact this
      have HDR : Hid (L.drop k = (X : Int) :: L.drop (k + 1)) := by
        have h := HX.out
        rw [List.getElem?_eq_getElem hltk] at h
        injection h with h
        show _ = _
        rw [List.drop_eq_getElem_cons hltk, h]
      have HM2 : Hid (M = if N < 0 ∨ N / 6 = (B : Int) then none else pNext B ws (L.drop (k + 1)) ck (pBurn pk ws s d)) := by
        show _ = _
        rw [← HMV.out, HDR.out]
        simp only [pMove]
        rw [← HNN.out, Int.toNat_natCast, he2.out]
        rfl
      have hXI : (X : Int) < (pk.length : Int) := by omega
      have hkI : (k : Int) < (L.length : Int) := by omega
      have hltx := lt_of_cell hcx
      have hltt := lt_of_cell hct
      clear hN hx0 hx1
      go_wp2_with fail
      refine HN.out.mono ?_
      rintro e w3 ⟨rfl, hb3⟩
      have HB3 := hide hb3
      clear hb3 HN c0 c1 c2 c3 c4
      obtain ⟨⟨c0, c1, c2, c3, c4⟩, -⟩ := (HWK.out.below HB3.out).cells
      have hct3 := (HB3.out.cell (p := ⟨bp, op + X, none⟩) hltt).trans hct
      clear hct hcx
      go_wp2_with fail
      refine (HIN.out w3).mono ?_
      rintro e u ⟨rfl, hu⟩
      have hu' := hu.symm
      subst hu'
      clear HIN
      have HBF : Hid (Below base w w3) := hbr.out.trans (HB3.out.mono HWK.out.lt.2.2)
      by_cases h6 : N / 6 = (B : Int)
      · have t6 : inB N (B : Int) = true := inB_iff.2 h6
        have HPN : Hid (pClean B ps ws cs = none) := by show _ = _; rw [HPC.out, HM2.out, if_pos (.inr h6)]; rfl
        have HPS := hide (HWK.out.below HB3.out).pw.some
        generalize inB N (B : Int) = IB at t6 ⊢
        subst t6
        go_wp2
        exact bodyPost_ret (v := .bool false) (by simp [results, Tryz.results94, go_sem]) rfl ⟨by rw [HPN.out]; rfl, HBF.out, hbf.out.2.trans (Fr.of_below HB3.out), no_some HPN.out, HPS.out⟩
      · have t6 : inB N (B : Int) = false := by
          cases h : inB N (B : Int) with
          | false => rfl
          | true => exact absurd (inB_iff.1 h) h6
        generalize inB N (B : Int) = IB at t6 ⊢
        subst t6
        go_wp2_with fail
        refine (hcall.out w3).mono ?_
        rintro e w4 ⟨rfl, hb4⟩
        have HB4 := hide (after HB3.out hb4)
        obtain ⟨R, hR⟩ : ∃ R, R = pBurn pk ws s d := ⟨_, rfl⟩
        have HM3 : Hid (M = pNext B ws (L.drop (k + 1)) ck R) := by
          show _ = _
          rw [HM2.out, hR]
          by_cases h0 : N < 0
          · rw [if_pos (.inl h0), pBurn_none (.inl (by rw [← HNN.out]; exact h0))]; rfl
          · rw [if_neg (by rintro (h | h); exact h0 h; exact h6 h)]
        have HBN : Hid (∀ u, Below wr.heap.size wr u → Calls Tryz.prog 96 #[.pointer (some ⟨P, 0, none⟩), .int .i64 s, .string d] u fun e w' => e = .returned (.bool R.isSome) ∧ Below base u w' ∧ Fr P P P u w' ∧
            (∀ r, R = some r → PW w' P base r.1 ws (mMap r.1) (mSeq r.1) (ck ++ [r.2])) ∧ (R = none → PW w' P base pk ws mk qk ck)) := by
          intro u hu
          rw [hR]
          exact pburn_any P base pk ws mk qk ck s d u (HWK0.out.below hu) HMQ.out.1 HMQ.out.2 HOKk.out (by have := HSD.out.1; unfold maxLen; omega) (by have := HSD.out.2.1; omega) (by have := HSD.out.2.2; omega) (by have := HCK.out; omega)
        have HRG : Hid (∀ r, R = some r → chipOkP r.1 ws) := fun r hr => pBurn_right HOKk.out (by rw [← hR]; exact hr)
        have HL4 : Hid (w4.ownsRow S1 3 1 (.slice (some ⟨bL, oL, none⟩) L.length cL) L.length (vsInt L)) := owns_below hor.out HB4.out
        clear hb4 hcall c0 c1 c2 c3 c4 hct3 hR HM2
        go_wp2_with fail
        refine (HBN.out _ (after HB4.out ((Below.refl _ _).alloc (Nat.le_refl _) _))).mono ?_
        rintro e w5 ⟨rfl, hb5, hfr, hy, hn⟩
        have HB5 : Hid (Below base w w5) := (hbr.out.trans ((HB4.out.trans ((Below.refl _ _).alloc HB4.out.size _)).mono HWK.out.lt.2.2)).trans hb5
        have HL5 : Hid (w5.ownsRow S1 3 1 (.slice (some ⟨bL, oL, none⟩) L.length cL) L.length (vsInt L)) := hfr.row (owns_below HL4.out ((Below.refl _ _).alloc (Nat.le_refl _) _)) (by decide) (fun j hj => by have := (HL4.out.lt j hj).1; have := HS2.out; have := HLT.out.1; omega)
        have HFR5 := hide ((hbf.out.2.trans (Fr.of_below (HB4.out.trans ((Below.refl _ _).alloc HB4.out.size _)))).trans hfr)
        cases R with
        | none =>
          have HPN : Hid (pClean B ps ws cs = none) := by show _ = _; rw [HPC.out, HM3.out]; rfl
          have HPS := hide (hn rfl).some
          clear hb5 hfr hy hn HBN HM3
          go_wp2
          exact bodyPost_ret (v := .bool false) (by simp [results, Tryz.results94, go_sem]) rfl ⟨by rw [HPN.out]; rfl, HB5.out, HFR5.out, no_some HPN.out, HPS.out⟩
        | some r =>
          have HS5 : Hid (PCl w5 P base B ws L M cs.length (k + 1)) := ⟨_, _, _, _, hy r rfl, rfl, rfl, HRG.out r rfl, HM3.out.symm, by rw [List.length_append, HCK.out]; rfl⟩
          clear hb5 hfr hy hn HBN HM3
          go_wp2
          exact ⟨⟨k + 1, by omega, by go_num, HS5, ⟨HB5.out, HFR5.out⟩, HL5⟩, by simp [intOf]; omega⟩
    · have hkL : k = L.length := by omega
      subst hkL
      have t1 : decide ((L.length : Int) < (L.length : Int)) = false := by simp
      have hMs : M = some (pk, ck) := by rw [← HMV.out, List.drop_length]; rfl
      rw [hMs] at HPC
      have HAC := hide (apply_clear (B := B) HOKk.out hB)
      obtain ⟨F, hF⟩ : ∃ F, F = applyF pk ws 2 (B : Int) ByteArray.empty := ⟨_, rfl⟩
      have HAD := hide (add_any P base pk ws mk qk ck 2 (B : Int) ByteArray.empty wr HWK0.out HOKk.out (by decide) (by have := HCK.out; omega))
      rw [← hF] at HAC HAD
      have HBF := HWK.out.lt.2.2
      clear hMs hF HMV c0 c1 c2 c3 c4
      go_wp2_with fail
      refine HAD.out.mono ?_
      rintro e w3 ⟨rfl, hb3, hfr, hy, hn⟩
      have HB3 : Hid (Below base w w3) := hbr.out.trans hb3
      have HF3 := hide (hbf.out.2.trans hfr)
      cases F with
      | true =>
        obtain ⟨h1, h2, h3⟩ := HAC.out.1 rfl
        have HPY : Hid (pClean B ps ws cs = some (wipeP pk B 6, ws.set B (ws[B]?.getD 0 + 1), ck ++ [(2, (B : Int), ByteArray.empty)])) := by
          show _ = _
          rw [HPC.out]
          simp only [pCleanOf]
          rw [if_neg h1]
        have hw := hy rfl
        rw [h2, h3] at hw
        have HWF := hide hw
        clear hb3 hfr hy hn HAD HAC hw h1 h2 h3
        go_wp2
        exact bodyPost_ret (v := .bool true) (by simp [results, Tryz.results94, go_sem]) rfl ⟨by rw [HPY.out]; rfl, HB3.out, HF3.out, yes_some HPY.out HWF.out, HWF.out.some⟩
      | false =>
        have h1 := HAC.out.2 rfl
        have HPN : Hid (pClean B ps ws cs = none) := by
          show _ = _
          rw [HPC.out]
          simp only [pCleanOf]
          rw [if_pos h1]
        have HWF := hide (hn rfl)
        clear hb3 hfr hy hn HAD HAC h1
        go_wp2
        exact bodyPost_ret (v := .bool false) (by simp [results, Tryz.results94, go_sem]) rfl ⟨by rw [HPN.out]; rfl, HB3.out, HF3.out, no_some HPN.out, HWF.out.some⟩
end Go.Proofs.YtdicjbabnknjhaaGreat

namespace Go.Proofs.YtdicjbabnknjhaaGreat
open Go.RowKit

set_option maxRecDepth 100000 in
set_option maxHeartbeats 1600000 in
theorem specFree_bad (a b : Option Addr) (ps : List ByteArray) (ws : List Int) (c d : Nat) (w : World) (hp : Rd w a (vsString ps)) (hw : Rd w b (vsInt ws)) (hl : ps.length ≤ 1048576) (hm : ws.length ≤ 1048576) (hs : ∀ s ∈ ps, s.size ≤ 1048576) (hok : ¬ chipOkP ps ws) :
    Calls Tryz.prog 100 #[.agg #[.slice a ps.length c, .slice b ws.length d]] w fun e w' => ∃ v, e = .returned v ∧ w'.ownsRow w.heap.size 3 1 v 0 [] ∧ Below w.heap.size w w' := by
  obtain ⟨A, hA⟩ : ∃ A, A = w.alloc (Obj.cells #[.slice a ps.length c, .slice b ws.length d] 32) := ⟨_, rfl⟩
  have hbA : Below w.heap.size w A := by rw [hA]; exact (Below.refl _ _).alloc (Nat.le_refl _) _
  have hsA : w.heap.size < A.heap.size := by rw [hA]; simp
  have hsA1 : A.heap.size = w.heap.size + 1 := by rw [hA]; simp
  obtain ⟨W, hW⟩ : ∃ W, W = A.alloc (Obj.cells #[] 3) := ⟨_, rfl⟩
  have hbW : Below A.heap.size A W := by rw [hW]; exact (Below.refl _ _).alloc (Nat.le_refl _) _
  have hW0 : W.ownsRow w.heap.size 3 1 (.slice (some ⟨w.heap.size + 1, 0, none⟩) 0 0) 0 [] := by rw [hW, ← hsA1]; exact World.ownsRow_made A #[] 0 (Nat.le_of_lt hsA) (Nat.zero_le _) rfl
  have x0 : A.cell? ⟨w.heap.size, 0, none⟩ = some (.slice a ps.length c) := by rw [hA]; simp
  have x1 : A.cell? ⟨w.heap.size, 1, none⟩ = some (.slice b ws.length d) := by rw [hA]; simp
  have hB := chipOkB_false hok
  have hbAW := after hbA hbW
  have c0 := (hbW.cell (p := ⟨w.heap.size, 0, none⟩) hsA).trans x0
  have c1 := (hbW.cell (p := ⟨w.heap.size, 1, none⟩) hsA).trans x1
  have HP := hide (hp.below hbAW)
  have HW := hide (hw.below hbAW)
  clear hp hw hok hsA1 x0 x1
  go_enter Tryz.func100, Tryz.ntmps100
  go_wp2
  rw [← hA]
  rw [← hW]
  clear hA hW
  go_loopw [3, 4] (fun v i wr => i = .int .i64 0 ∧ v = .slice (some ⟨w.heap.size + 1, 0, none⟩) 0 0 ∧ wr = W) (fun _ _ _ => 0)
  case atStart => exact ⟨rfl, rfl, rfl⟩
  case round =>
    obtain ⟨rfl, rfl, rfl⟩ := hrel
    go_wp2_with fail
    refine (specChipOk_any a b ps ws c d _ HP.out HW.out hl hm hs).mono ?_
    rw [hB]
    rintro e u1 ⟨rfl, hb1⟩
    have hbw1 := after hbAW hb1
    have hown := owns_below hW0 hb1
    clear hb1
    go_wp2
    go_ret
    exact ⟨_, rfl, hown, hbw1⟩

end Go.Proofs.YtdicjbabnknjhaaGreat

namespace Go.Proofs.YtdicjbabnknjhaaGreat
open Go.RowKit
attribute [local go_sem ↓] Go.wp_at_zero Go.wp_at_succ

theorem copy4_fin {w W wB : World} {b b' gA kA gA' kA' gB kB L : Nat} {ps : List ByteArray} {ws ms : List Int} {q : Int} (hsW : w.heap.size + 1 < W.heap.size) (hBW : Below w.heap.size w W) (hBB : Below W.heap.size W wB)
    (hA : ChipOwn wB b (.agg #[.slice (some ⟨gA, 0, none⟩) ps.length kA, .slice (some ⟨gA', 0, none⟩) ws.length kA']) ps ws) (hb : W.heap.size ≤ b) (hO : wB.ownsRow b' 3 1 (.slice (some ⟨gB, 0, none⟩) L kB) L (vsInt ms)) (hb' : W.heap.size ≤ b') (hL : L = ms.length) (n1 : gA ≠ gB) (n2 : gA' ≠ gB) (y0 y1 y2 y3 : Value) :
    FtlOwn ((((wB.setCell ⟨w.heap.size + 1, 0, none⟩ y0).setCell ⟨w.heap.size + 1, 1, none⟩ y1).setCell ⟨w.heap.size + 1, 2, none⟩ y2).setCell ⟨w.heap.size + 1, 3, none⟩ y3) w.heap.size (.agg #[.slice (some ⟨gA, 0, none⟩) ps.length kA, .slice (some ⟨gA', 0, none⟩) ws.length kA', .slice (some ⟨gB, 0, none⟩) L kB, .int .i64 q]) ps ws ms q ∧
      Below w.heap.size w ((((wB.setCell ⟨w.heap.size + 1, 0, none⟩ y0).setCell ⟨w.heap.size + 1, 1, none⟩ y1).setCell ⟨w.heap.size + 1, 2, none⟩ y2).setCell ⟨w.heap.size + 1, 3, none⟩ y3) := by
  obtain ⟨v1, v2, hv, h1, h2, hne⟩ := hA
  simp only [Value.agg.injEq, Array.mk.injEq, List.cons.injEq, and_true] at hv
  obtain ⟨rfl, rfl⟩ := hv
  subst hL
  have q1 : w.heap.size + 1 < b := by omega
  have q2 : w.heap.size + 1 < b' := by omega
  refine ⟨⟨_, _, _, rfl, ?_, ?_, ?_, hne, ?_, ?_⟩, ((((after hBW hBB).setCell (by show _ ≤ _; simp) _).setCell (by show _ ≤ _; simp) _).setCell (by show _ ≤ _; simp) _).setCell (by show _ ≤ _; simp) _⟩
  · exact owns_mono (ownsRow_setCell_below (ownsRow_setCell_below (ownsRow_setCell_below (ownsRow_setCell_below h1 q1 _) q1 _) q1 _) q1 _) (by omega)
  · exact owns_mono (ownsRow_setCell_below (ownsRow_setCell_below (ownsRow_setCell_below (ownsRow_setCell_below h2 q1 _) q1 _) q1 _) q1 _) (by omega)
  · exact owns_mono (ownsRow_setCell_below (ownsRow_setCell_below (ownsRow_setCell_below (ownsRow_setCell_below hO q2 _) q2 _) q2 _) q2 _) (by omega)
  · intro q hq; simp [Value.ownBlock] at hq ⊢; omega
  · intro q hq; simp [Value.ownBlock] at hq ⊢; omega

set_option maxRecDepth 100000 in
set_option maxHeartbeats 1600000 in
theorem copy4_any (a b e0 : Option Addr) (ps : List ByteArray) (ws ms : List Int) (c d f : Nat) (q : Int) (w : World) (hp : Rd w a (vsString ps)) (hw : Rd w b (vsInt ws)) (hms : Rd w e0 (vsInt ms)) (hl : ps.length = 60) (hm : ws.length = 10) (hn : ms.length = 26) :
    Calls Tryz.prog 27 #[.agg #[.slice a ps.length c, .slice b ws.length d, .slice e0 ms.length f, .int .i64 q]] w fun e w' => ∃ v, e = .returned v ∧ FtlOwn w' w.heap.size v ps ws ms q ∧ Below w.heap.size w w' := by
  obtain ⟨i2, hi2, hz0, hz1, hz2⟩ := info_parts infoInt
  obtain ⟨N, hN⟩ : ∃ N, N = ps.length := ⟨_, rfl⟩
  obtain ⟨M, hM⟩ : ∃ M, M = ws.length := ⟨_, rfl⟩
  obtain ⟨L, hL⟩ : ∃ L, L = ms.length := ⟨_, rfl⟩
  obtain ⟨b1, o1, rfl, -⟩ := rd_at (k := 0) hp (by simp; omega)
  obtain ⟨b2, o2, rfl, -⟩ := rd_at (k := 0) hw (by simp; omega)
  obtain ⟨b3, o3, rfl, -⟩ := rd_at (k := 0) hms (by simp; omega)
  rw [← hN, ← hM, ← hL]
  have HN : Hid (N = ps.length ∧ M = ws.length ∧ L = ms.length ∧ N = 60 ∧ M = 10 ∧ L = 26) := ⟨hN, hM, hL, by omega, by omega, by omega⟩
  have hL0 : 0 < L := by omega
  have hL1 : L ≤ 100 := by omega
  have hps0 : 0 < ps.length := by omega
  have hws0 : 0 < ws.length := by omega
  obtain ⟨A, hA⟩ : ∃ A, A = w.alloc (Obj.cells #[.slice (some ⟨b1, o1, none⟩) N c, .slice (some ⟨b2, o2, none⟩) M d, .slice (some ⟨b3, o3, none⟩) L f, .int .i64 q] 34) := ⟨_, rfl⟩
  obtain ⟨W, hW⟩ : ∃ W, W = A.alloc (Obj.cells #[.slice none 0 0, .slice none 0 0, .slice none 0 0, .int .i64 0] 34) := ⟨_, rfl⟩
  have hsA : A.heap.size = w.heap.size + 1 := by rw [hA]; simp
  have hb0 : Below w.heap.size w A := by rw [hA]; exact (Below.refl _ _).alloc (Nat.le_refl _) _
  have hb1 : Below A.heap.size A W := by rw [hW]; exact (Below.refl _ _).alloc (Nat.le_refl _) _
  have hbW := after hb0 hb1
  have k0 : C4 W w.heap.size (.slice (some ⟨b1, o1, none⟩) N c) (.slice (some ⟨b2, o2, none⟩) M d) (.slice (some ⟨b3, o3, none⟩) L f) (.int .i64 q) := by
    have : C4 A w.heap.size (.slice (some ⟨b1, o1, none⟩) N c) (.slice (some ⟨b2, o2, none⟩) M d) (.slice (some ⟨b3, o3, none⟩) L f) (.int .i64 q) := by rw [hA]; exact c4_new _ _ _ _ _ _
    exact this.below hb1
  have k1 : C4 W (w.heap.size + 1) (.slice none 0 0) (.slice none 0 0) (.slice none 0 0) (.int .i64 0) := by
    have : C4 W A.heap.size (.slice none 0 0) (.slice none 0 0) (.slice none 0 0) (.int .i64 0) := by rw [hW]; exact c4_new _ _ _ _ _ _
    rw [hsA] at this
    exact this
  have HY : Hid (∀ u, Below W.heap.size W u → (u.cell? ⟨w.heap.size, 0, none⟩ = some (.slice (some ⟨b1, o1, none⟩) N c) ∧ u.cell? ⟨w.heap.size, 1, none⟩ = some (.slice (some ⟨b2, o2, none⟩) M d) ∧ u.cell? ⟨w.heap.size, 2, none⟩ = some (.slice (some ⟨b3, o3, none⟩) L f) ∧ u.cell? ⟨w.heap.size, 3, none⟩ = some (.int .i64 q)) ∧
      (u.cell? ⟨w.heap.size + 1, 0, none⟩ = some (.slice none 0 0) ∧ u.cell? ⟨w.heap.size + 1, 1, none⟩ = some (.slice none 0 0) ∧ u.cell? ⟨w.heap.size + 1, 2, none⟩ = some (.slice none 0 0) ∧ u.cell? ⟨w.heap.size + 1, 3, none⟩ = some (.int .i64 0)) ∧ u.frozen? ⟨w.heap.size + 1, 0, none⟩ = false ∧ u.frozen? ⟨w.heap.size + 1, 1, none⟩ = false ∧ u.frozen? ⟨w.heap.size + 1, 2, none⟩ = false ∧ u.frozen? ⟨w.heap.size + 1, 3, none⟩ = false) :=
    fun u hu => ⟨(k0.below hu).1, (k1.below hu).1, (k1.below hu).2 0, (k1.below hu).2 1, (k1.below hu).2 2, (k1.below hu).2 3⟩
  have HCM : Hid (∀ w', Below W.heap.size W w' → Hid (∀ j u, (vsInt ms)[j]? = some u → w'.cell? ((⟨b3, o3, none⟩ : Addr).add j) = some u)) := by
    intro w' hb j u hu
    rcases (hms.below hbW).below hb with h | ⟨b, o, he, hc⟩
    · rw [h] at hu; simp at hu
    · simp at he; obtain ⟨rfl, rfl⟩ := he; rw [add_at]; exact hc j u hu
  have HCP : Hid (∀ u, Below W.heap.size W u → Calls Tryz.prog 59 #[.agg #[.slice (some ⟨b1, o1, none⟩) N c, .slice (some ⟨b2, o2, none⟩) M d]] u fun e w' => ∃ v, e = .returned v ∧ ChipOwn w' u.heap.size v ps ws ∧ Below u.heap.size u w') := by
    intro u hu
    rw [hN, hM]
    exact copy_any _ _ ps ws c d u ((hp.below hbW).below hu) ((hw.below hbW).below hu) hl hm
  have hlw : Hid ((vsInt ms).length = L * 1) := by show _ = _; simp [hL]
  have hdr : Below W.heap.size W W.drew := after_drew (Below.refl _ _) 1
  have HAL : Hid (Below W.heap.size W (W.alloc (Obj.cells #[] 3)).drew) := after_drew ((Below.refl _ _).alloc (Nat.le_refl _) _) 1
  have hsW : w.heap.size + 1 < W.heap.size := k1.lt
  have hne1 : ¬ w.heap.size = W.heap.size := by omega
  obtain ⟨⟨x0, x1, x2, x3⟩, -⟩ := id k0
  have HBW := hide hbW
  clear hp hw hms hN hM hL hl hm hn hb0 hb1 hbW hsA k0 k1
  go_enter Tryz.func27, Tryz.ntmps27
  go_wp2_with fail
  rw [← hA]
  rw [← hW]
  clear hA hW
  go_region_held_law (fun w' => w'.cell? ⟨w.heap.size, 0, none⟩ = some (.slice (some ⟨b1, o1, none⟩) N c) ∧ w'.cell? ⟨w.heap.size, 1, none⟩ = some (.slice (some ⟨b2, o2, none⟩) M d) ∧ w'.cell? ⟨w.heap.size, 2, none⟩ = some (.slice (some ⟨b3, o3, none⟩) L f) ∧ w'.cell? ⟨w.heap.size, 3, none⟩ = some (.int .i64 q))
    (first | assumption | go_keep)
    ((first
      | (refine step_append_grows (by rfl) (.tmp 6) (.tmp 8) 23 (by rfl) 3 i2 (.int .i64 0) 1 8 Tryz.underlying23 hi2 hz0 hz1 hz2 rfl (by decide) _ 0 0 [] (by rfl) (by simp) (by simp) (by simp) ⟨b3, o3, none⟩ L f (vsInt ms) (by rfl) hlw.out ((HCM.out wA HBA.out).out) (by intro u hu; simp at hu; obtain ⟨x, -, rfl⟩ := hu; rfl) (by omega) (by unfold maxLen; omega) (by omega) ?_; intro vB wB hoB hgB; have hbB := (Below.refl _ _).grown hgB (Nat.le_refl _) (by simp); have HBB : Hid (Below W.heap.size W wB) := after HBA.out hbB; simp only [Nat.zero_add, List.nil_append] at hoB; obtain ⟨gB, kB, hvB, hlB, hgB'⟩ := owns_form hoB hL0; subst hvB; have hSB := (HY.out wB HBB.out).1; obtain ⟨-, ⟨r0, r1, r2, r3⟩, rf0, rf1, rf2, rf3⟩ := HY.out wB HBB.out; have HOB := hide hoB; have HbB := hide hbB; clear hoB hgB hbB)
      | (refine step_append_grows (by rfl) (.tmp 6) (.tmp 8) 23 (by rfl) 3 i2 (.int .i64 0) 1 8 Tryz.underlying23 hi2 hz0 hz1 hz2 rfl (by decide) _ 0 0 [] (by rfl) (by simp) (by simp) (by simp) ⟨b3, o3, none⟩ L f (vsInt ms) (by rfl) hlw.out ((HCM.out (wA.alloc (Obj.cells #[] 3)) (after HBA.out ((Below.refl _ _).alloc (Nat.le_refl _) _))).out) (by intro u hu; simp at hu; obtain ⟨x, -, rfl⟩ := hu; rfl) (by omega) (by unfold maxLen; omega) (by omega) ?_; intro vB wB hoB hgB; have hbB := (Below.refl _ _).grown hgB (Nat.le_refl _) (by simp); have HBB : Hid (Below W.heap.size W wB) := after (after HBA.out ((Below.refl _ _).alloc (Nat.le_refl _) _)) hbB; simp only [Nat.zero_add, List.nil_append] at hoB; obtain ⟨gB, kB, hvB, hlB, hgB'⟩ := owns_form hoB hL0; subst hvB; have hSB := (HY.out wB HBB.out).1; obtain ⟨-, ⟨r0, r1, r2, r3⟩, rf0, rf1, rf2, rf3⟩ := HY.out wB HBB.out; have HOB := hide hoB; have HbB := hide hbB; clear hoB hgB hbB)
      | (go_at_call 59; refine (HCP.out W.drew hdr).mono ?_; rintro e wA ⟨v, rfl, hownA, hbA⟩; obtain ⟨gA, kA, gA', kA', hvA, -, -, hneA, hgA1, hgA2, hgA3, hgA4⟩ := own_form hownA hps0 hws0; subst hvA; have HBA : Hid (Below W.heap.size W wA) := after hdr hbA; have hSA := (HY.out wA HBA.out).1; have HOA := hide hownA; clear hownA hbA)
      | (go_at_call 59; refine (HCP.out (W.alloc (Obj.cells #[] 3)).drew HAL.out).mono ?_; rintro e wA ⟨v, rfl, hownA, hbA⟩; obtain ⟨gA, kA, gA', kA', hvA, -, -, hneA, hgA1, hgA2, hgA3, hgA4⟩ := own_form hownA hps0 hws0; subst hvA; have HBA : Hid (Below W.heap.size W wA) := after HAL.out hbA; have hSA := (HY.out wA HBA.out).1; have HOA := hide hownA; clear hownA hbA)))
  all_goals clear HY HCM HCP
  all_goals go_wp2
  all_goals
    have fin := copy4_fin (q := q) hsW HBW.out HBB.out (own_below HOA.out (by first | exact HbB.out | exact after ((Below.refl _ _).alloc (Nat.le_refl _) _) HbB.out)) (by simp) HOB.out (by have := HBA.out.size; simp; omega) HN.out.2.2.1 (by first | omega | (simp at hlB; omega)) (by first | omega | (simp at hlB; omega)) (.slice (some ⟨gA, 0, none⟩) ps.length kA) (.slice (some ⟨gA', 0, none⟩) ws.length kA') (.slice (some ⟨gB, 0, none⟩) L kB) (.int .i64 q)
    exact bodyPost_ret (v := .agg #[.slice (some ⟨gA, 0, none⟩) ps.length kA, .slice (some ⟨gA', 0, none⟩) ws.length kA', .slice (some ⟨gB, 0, none⟩) L kB, .int .i64 q]) (by simp [results, Tryz.results27, go_sem, r0, r1, r2, r3]) rfl ⟨_, rfl, fin⟩

end Go.Proofs.YtdicjbabnknjhaaGreat
