/-
  The walk of the law FnPlaces.
-/
import Derived.Test.YtelbannfbglgcaaJPlaces34
namespace Go.Proofs.Ytelbannfbglgcaa
open Go.RowKit

set_option maxRecDepth 100000 in
set_option maxHeartbeats 12800000 in
theorem places_walk (la : Option Addr) (zs : List Int) (cap : Nat) (w : World) (hr : Rd w la (u8s zs)) (hb : IsBytes zs) (hm : zs.length ≤ 1048576) :
    Calls Try.prog 6 #[.slice la zs.length cap] w fun e w' => e = .returned (.bool true) ∧ Below w.heap.size w w' := by
  have hd : decide ((1048576 : Int) < zs.length) = false := by simp; omega
  have HR := hide hr
  have HBY := hide hb
  clear hr hb
  go_enter Try.func6, Try.ntmps6
  go_wp2_with fail
  refine (big_any _ _ _ _).mono ?_
  rw [hd]
  rintro e u ⟨rfl, hu⟩
  have hu' := hu.symm
  subst hu'
  clear hd hu
  go_wp2_with fail
  refine (DrawNextPage_any la zs cap w HR.out HBY.out hm).mono ?_
  rintro e w1 ⟨a, c, b, d, ps, ws, rfl, hd1, hb1⟩
  obtain ⟨W1, hW1⟩ : ∃ W1, W1 = w1.alloc (Obj.cells #[.slice a ps.length c, .slice b ws.length d] 27) := ⟨_, rfl⟩
  have hbW1 : Below w1.heap.size w1 W1 := by rw [hW1]; exact (Below.refl _ _).alloc (Nat.le_refl _) _
  have xC : At W1 w1.heap.size [.slice a ps.length c, .slice b ws.length d] := by rw [hW1]; exact at_new w1 [.slice a ps.length c, .slice b ws.length d] _
  have HD1 := hide (hd1.below hbW1)
  have HB1 := hide (after hb1 hbW1)
  have HXC := hide xC
  have hsz := hd1.2.2.2.2.2
  have hln := hd1.2.2.2.2.1
  obtain ⟨R, hRc, HNS, HNI⟩ := next_law ps ws (by omega) (by omega) hsz
  have HRC := hide hRc
  have x0 : W1.cell? ⟨w1.heap.size, 0, none⟩ = some (.slice a ps.length c) := xC.2 0 (by simp)
  have x1 : W1.cell? ⟨w1.heap.size, 1, none⟩ = some (.slice b ws.length d) := xC.2 1 (by simp)
  clear hd1 hb1 hbW1 xC hsz hRc
  go_wp2_with fail
  rw [← hW1]
  clear hW1
  generalize w1.heap.size = C at HXC x0 x1 ⊢
  refine (HNI.out W1 _ HD1.out.chipRd HD1.out.capOk).mono ?_
  rintro e w2 ⟨rfl, hb2⟩
  have HD2 := hide (HD1.out.below hb2)
  have HXC2 := hide (HXC.out.below hb2)
  have HB2 := hide (after HB1.out hb2)
  clear hb2 x0 x1 HD1 HXC HB1
  go_wp2_with fail
  refine (DrawFreeBlocks_any la zs cap w2 (HR.out.below HB2.out) HBY.out hm).mono ?_
  rintro e w3 ⟨a3, c3, b3, d3, ps3, ws3, rfl, hd3, hb3⟩
  obtain ⟨W3, hW3⟩ : ∃ W3, W3 = w3.alloc (Obj.cells #[.slice a3 ps3.length c3, .slice b3 ws3.length d3] 27) := ⟨_, rfl⟩
  have hbW3 : Below w3.heap.size w3 W3 := by rw [hW3]; exact (Below.refl _ _).alloc (Nat.le_refl _) _
  have xD : At W3 w3.heap.size [.slice a3 ps3.length c3, .slice b3 ws3.length d3] := by rw [hW3]; exact at_new w3 [.slice a3 ps3.length c3, .slice b3 ws3.length d3] _
  have HB3 := hide (after hb3 hbW3)
  have HD3 := hide (hd3.below hbW3)
  have HXD := hide xD
  have hsz := hd3.2.2.2.2.2
  have hln3 := hd3.2.2.2.2.1
  obtain ⟨fr, hfl, hfc, HFS, HFI⟩ := free_law ps3 ws3 (by omega) (by omega) hsz
  have HFC := hide hfc
  have x0 : W3.cell? ⟨w3.heap.size, 0, none⟩ = some (.slice a3 ps3.length c3) := xD.2 0 (by simp)
  have x1 : W3.cell? ⟨w3.heap.size, 1, none⟩ = some (.slice b3 ws3.length d3) := xD.2 1 (by simp)
  clear hd3 hb3 hbW3 xD hsz hfc
  go_wp2_with fail
  rw [← hW3]
  clear hW3
  generalize w3.heap.size = D at HXD x0 x1 ⊢
  refine (HFI.out W3 _ HD3.out.chipRd HD3.out.capOk).mono ?_
  rintro e w4 ⟨v4, rfl, ho4, hb4⟩
  obtain ⟨a4, c4, rfl⟩ := ho4.shape
  have HR4 := hide ho4.rd
  have HB24 := hide (after HB3.out hb4)
  have HD4 := hide (HD3.out.below hb4)
  have HXD4 := hide (HXD.out.below hb4)
  have HC4 := hide (HD2.out.below HB24.out)
  have HXC4 := hide (HXC2.out.below HB24.out)
  have HB4 := hide (after HB2.out HB24.out)
  have x0 : w4.cell? ⟨C, 0, none⟩ = some (.slice a ps.length c) := HXC4.out.2 0 (by simp)
  have x1 : w4.cell? ⟨C, 1, none⟩ = some (.slice b ws.length d) := HXC4.out.2 1 (by simp)
  have y0 : w4.cell? ⟨D, 0, none⟩ = some (.slice a3 ps3.length c3) := HXD4.out.2 0 (by simp)
  have y1 : w4.cell? ⟨D, 1, none⟩ = some (.slice b3 ws3.length d3) := HXD4.out.2 1 (by simp)
  clear ho4 hb4 HD2 HXC2 HB2 HB3 HD3 HXD HB24
  have hRR : (R != R) = false := by simp
  go_wp2_with fail
  refine (HNS.out w4 _ HC4.out.chipRd HC4.out.capOk).mono ?_
  rintro e w5 ⟨rfl, hb5⟩
  have HD5 := hide (HD4.out.below hb5)
  have HXD5 := hide (HXD4.out.below hb5)
  have HC5 := hide (HC4.out.below hb5)
  have HXC5 := hide (HXC4.out.below hb5)
  have HB5 := hide (after HB4.out hb5)
  have HR5 := hide (HR4.out.below hb5)
  have y0 : w5.cell? ⟨D, 0, none⟩ = some (.slice a3 ps3.length c3) := HXD5.out.2 0 (by simp)
  have y1 : w5.cell? ⟨D, 1, none⟩ = some (.slice b3 ws3.length d3) := HXD5.out.2 1 (by simp)
  clear hb5 x0 x1 HNS HNI HFI HC4 HD4 HXC4 HXD4 HB4 HR4
  go_wp2_with fail
  refine (HFS.out w5 _ HD5.out.chipRd HD5.out.capOk).mono ?_
  rintro e w6 ⟨v6, rfl, ho6, hb6⟩
  obtain ⟨a6, c6, rfl⟩ := ho6.shape
  have HR6 := hide ho6.rd
  have HB56 := hide hb6
  clear ho6 hb6
  obtain ⟨_, _, he4, hr4⟩ := HR5.out.below HB56.out
  injection he4 with e1 _ e2
  subst e1 e2
  obtain ⟨_, _, he6, hr6⟩ := HR6.out
  injection he6 with e1 _ e2
  subst e1 e2
  have HSI := hide (sameInts_any a4 a6 fr c4 c6 w6 hr4 hr6 (by omega))
  have HR4 := hide hr4
  clear hr4 hr6 HR5 HR6 y0 y1
  go_wp2_with fail
  refine HSI.out.mono ?_
  rintro e w7 ⟨rfl, hb7⟩
  have HB57 := hide (after HB56.out hb7)
  have HR7 := hide (HR4.out.below hb7)
  have HD7 := hide (HD5.out.below HB57.out)
  have HXD7 := hide (HXD5.out.below HB57.out)
  have HC7 := hide (HC5.out.below HB57.out)
  have HXC7 := hide (HXC5.out.below HB57.out)
  have HB7 := hide (after HB5.out HB57.out)
  have x0 : w7.cell? ⟨C, 0, none⟩ = some (.slice a ps.length c) := HXC7.out.2 0 (by simp)
  clear hb7 HSI HR4 HB56 HB57 HD5 HXD5 HC5 HXC5 HB5 HFS
  rcases Classical.em (0 ≤ R) with h0 | h0
  obtain ⟨k, rfl, hk, hke⟩ := HRC.out h0
  obtain ⟨bp, op, t, rfl, hct, HT⟩ := rdString_at HC7.out.1.1 hk
  obtain rfl : t = ByteArray.empty := (by have h := HT.out; rw [hke] at h; exact (Option.some.inj h).symm)
  have hki : (k : Int) < (ps.length : Int) := (by omega)
  clear hke HT hk
  go_wp2_with fail
  rotate_left
  go_wp2_with fail
  all_goals
    clear HRC x0 HXC7 HC7
    go_loopw [7] (fun i wr => ∃ k : Nat, k ≤ fr.length ∧ i = .int .i64 k ∧ Hid (Below w7.heap.size w7 wr)) (fun i _ => fr.length - (intOf i).toNat)
    case atStart => exact ⟨0, Nat.zero_le _, rfl, Below.refl _ _⟩
    case round =>
      obtain ⟨i, hi, rfl, hbi⟩ := hrel
      by_cases hlt : i < fr.length
      · have hiI : (i : Int) < (fr.length : Int) := by omega
        obtain ⟨x, hx⟩ : ∃ x, Hid (fr[i]? = some x) := ⟨_, List.getElem?_eq_getElem hlt⟩
        obtain ⟨B, rfl, hB, hl60, hcl⟩ := HFC.out x (List.mem_of_getElem? hx.out)
        have HCL := hide hcl
        have hl1 : 60 ≤ ps3.length ∧ ps3.length ≤ 60 := by omega
        clear hcl hl60
        go_wp2_with fail
        go_loopw [8] (fun j wx => ∃ m : Nat, m ≤ 6 ∧ j = .int .i64 m ∧ Hid (Below w7.heap.size w7 wx)) (fun j _ => 6 - (intOf j).toNat)
        case atStart => exact ⟨0, Nat.zero_le _, rfl, hbi⟩
        case round =>
          obtain ⟨m, hm6, rfl, hbm⟩ := hrel
          by_cases hm : m < 6
          · have hmI : (m : Int) < 6 := by omega
            obtain ⟨ba, oa, z, hb', hcx, HZ⟩ := rdInt_at (HR7.out.below hbm.out) hlt
            obtain rfl : z = (B : Int) := by have h := HZ.out; rw [hx.out] at h; exact (Option.some.inj h).symm
            obtain ⟨bp, op, t, hbp, hct, HT⟩ := rdString_at (HD7.out.1.1.below hbm.out) (k := B * 6 + m) (by omega)
            obtain rfl : t = ByteArray.empty := by have h := HT.out; rw [HCL.out m hm] at h; exact (Option.some.inj h).symm
            have y0 : wr.cell? ⟨D, 0, none⟩ = some (.slice a3 ps3.length c3) := (HXD7.out.below hbm.out).2 0 (by simp)
            have q0 : (0 : Int) ≤ (B : Int) * 6 + m := by omega
            have q1 : (B : Int) * 6 + m < (ps3.length : Int) := by omega
            subst hb' hbp
            have HBD := hide (fun n => after_drew hbm.out n)
            clear HZ HT HCL hbm hbi
            go_wp2
            go_quiet (fail)
            go_wp2
            go_roundw
            case rel => exact ⟨m + 1, by omega, by go_num, HBD.out _⟩
            case measure => simp [intOf]; omega
          · have hmI : ¬ (m : Int) < 6 := by omega
            go_wp2
            go_roundw
            case rel => exact ⟨i + 1, by omega, by go_num, hbm⟩
            case measure => simp [intOf]; omega
      · have hiI : ¬ (i : Int) < (fr.length : Int) := by omega
        have HB8 := hide (after HB7.out hbi.out)
        clear HFC HR7 HXD7 HD7 HB7
        go_wp2_with fail
        refine (DrawLives_any la zs cap wr (HR.out.below HB8.out) HBY.out hm).mono ?_
        rintro e w9 ⟨a5, c5, b5, d5, e5, f5, ps5, ws5, ms5, q5, s5, rfl, hs5, hd5, hb9⟩
        obtain ⟨W9, hW9⟩ : ∃ W9, W9 = w9.alloc (Obj.cells #[.slice a5 ps5.length c5, .slice b5 ws5.length d5, .slice e5 ms5.length f5, .int .i64 q5] 47) := ⟨_, rfl⟩
        have hbW9 : Below w9.heap.size w9 W9 := by rw [hW9]; exact (Below.refl _ _).alloc (Nat.le_refl _) _
        have xF : At W9 w9.heap.size [.slice a5 ps5.length c5, .slice b5 ws5.length d5, .slice e5 ms5.length f5, .int .i64 q5] := by rw [hW9]; exact at_new w9 [.slice a5 ps5.length c5, .slice b5 ws5.length d5, .slice e5 ms5.length f5, .int .i64 q5] _
        have HB9 := hide (after HB8.out (after hb9 hbW9))
        have HD9 := hide (hd5.below hbW9)
        have HXF := hide xF
        obtain ⟨ls, hll, hlc, HLS, HLI⟩ := lives_law ps5 ws5 ms5 q5 s5 (by have := hd5.1.2.2.2.2.1; omega) (by have := hd5.1.2.2.2.2.1; omega) (by have := hd5.2.2.2.2; omega) hd5.1.2.2.2.2.2
        have HLC := hide hlc
        have hms : ms5.length ≤ 26 := hd5.2.2.2.2
        have x0 : W9.cell? ⟨w9.heap.size, 0, none⟩ = some (.slice a5 ps5.length c5) := xF.2 0 (by simp)
        have x1 : W9.cell? ⟨w9.heap.size, 1, none⟩ = some (.slice b5 ws5.length d5) := xF.2 1 (by simp)
        have x2 : W9.cell? ⟨w9.heap.size, 2, none⟩ = some (.slice e5 ms5.length f5) := xF.2 2 (by simp)
        have x3 : W9.cell? ⟨w9.heap.size, 3, none⟩ = some (.int .i64 q5) := xF.2 3 (by simp)
        clear hd5 hb9 hbW9 xF hlc HB8 hbi
        go_wp2_with fail
        rw [← hW9]
        clear hW9
        generalize w9.heap.size = F at HXF x0 x1 x2 x3 ⊢
        refine (HLI.out W9 _ (HD9.out.ftlRd q5)).mono ?_
        rintro e wa ⟨va, rfl, hoa, hba⟩
        obtain ⟨aa, ca, rfl⟩ := hoa.shape
        have HRA := hide hoa.rd
        have HDA := hide (HD9.out.below hba)
        have HXA := hide (HXF.out.below hba)
        have HBA := hide (after HB9.out hba)
        have x0 : wa.cell? ⟨F, 0, none⟩ = some (.slice a5 ps5.length c5) := HXA.out.2 0 (by simp)
        have x1 : wa.cell? ⟨F, 1, none⟩ = some (.slice b5 ws5.length d5) := HXA.out.2 1 (by simp)
        have x2 : wa.cell? ⟨F, 2, none⟩ = some (.slice e5 ms5.length f5) := HXA.out.2 2 (by simp)
        have x3 : wa.cell? ⟨F, 3, none⟩ = some (.int .i64 q5) := HXA.out.2 3 (by simp)
        clear hoa hba HD9 HXF HB9 HLI
        go_wp2_with fail
        refine (HLS.out wa _ (HDA.out.ftlRd q5)).mono ?_
        rintro e wb ⟨vb, rfl, hob, hbb⟩
        obtain ⟨ab, cb, rfl⟩ := hob.shape
        have HBB := hide hbb
        obtain ⟨_, _, he4, hr4⟩ := HRA.out.below hbb
        injection he4 with e1 _ e2
        subst e1 e2
        obtain ⟨_, _, he6, hr6⟩ := hob.rd
        injection he6 with e1 _ e2
        subst e1 e2
        have HSI := hide (sameInts_any aa ab ls ca cb wb hr4 hr6 (by omega))
        have HRB := hide hr4
        clear hr4 hr6 hob hbb HRA x0 x1 x2 x3 HLS
        go_wp2_with fail
        refine HSI.out.mono ?_
        rintro e wc ⟨rfl, hbc⟩
        have HAC := hide (after HBB.out hbc)
        have HRC2 := hide (HRB.out.below hbc)
        have HDC := hide (HDA.out.below HAC.out)
        have HXC := hide (HXA.out.below HAC.out)
        have HBC := hide (after HBA.out HAC.out)
        clear hbc HSI HRB HBB HDA HXA HBA HAC
        go_wp2_with fail
        go_loopw [12] (fun i wx => ∃ k : Nat, k ≤ ls.length ∧ i = .int .i64 k ∧ Hid (Below wc.heap.size wc wx)) (fun i _ => ls.length - (intOf i).toNat)
        case atStart => exact ⟨0, Nat.zero_le _, rfl, Below.refl _ _⟩
        case round =>
          obtain ⟨j, hj, rfl, hbj⟩ := hrel
          by_cases hlt2 : j < ls.length
          · have hjI : (j : Int) < (ls.length : Int) := by omega
            have hrl := HRC2.out.below hbj.out
            obtain ⟨ba, oa, z, rfl, hcx, HZ⟩ := rdInt_at hrl hlt2
            obtain ⟨z0, z1, z2, z3⟩ := HLC.out z (List.mem_of_getElem? HZ.out)
            obtain ⟨X, rfl⟩ : ∃ X : Nat, z = X := ⟨z.toNat, by omega⟩
            have HDJ := hide (HDC.out.below hbj.out)
            have HWI := hide (fun u (hu : Below wr.heap.size wr u) => within_any e5 ms5 f5 (X : Int) u (HDJ.out.2.1.below hu) z3 (by omega))
            have x2 : wr.cell? ⟨F, 2, none⟩ = some (.slice e5 ms5.length f5) := (HXC.out.below hbj.out).2 2 (by simp)
            have hq1 : ((X : Int) / 6 != s5) = false := by simpa using z2
            have hF := lt_of_cell x2
            have hba := lt_of_cell hcx
            have HK := hide (fun u (hu : Below wr.heap.size wr u) => And.intro ((hu.cell (p := ⟨ba, oa + j, none⟩) hba).trans hcx) ((hu.cell (p := ⟨F, 2, none⟩) hF).trans x2))
            clear z3 hrl HZ
            have HBN := hide (fun n => after_drew hbj.out n)
            clear hbj z2
            go_wp2_with fail
            go_quiet ((go_at_call 43; exact Calls.quiet_of_same (HWI.out _ (after_drew (Below.refl _ _) _))))
            go_wp2
            go_roundw
            case rel => exact ⟨j + 1, by omega, by go_num, HBN.out _⟩
            case measure => simp [intOf]; omega
          · have hjI : ¬ (j : Int) < (ls.length : Int) := by omega
            have HBD := hide (after HBC.out hbj.out)
            clear HLC HRC2 HDC HXC HBC hbj
            go_wp2_with fail
            refine (DrawSector_any la zs cap wr (HR.out.below HBD.out) HBY.out hm).mono ?_
            rintro e wd ⟨a6', c6', b6', d6', e6', f6', ps6, ws6, ms6, q6, s6, rfl, hs6, hd6, hbd⟩
            obtain ⟨W6, hW6⟩ : ∃ W6, W6 = wd.alloc (Obj.cells #[.slice a6' ps6.length c6', .slice b6' ws6.length d6', .slice e6' ms6.length f6', .int .i64 q6] 47) := ⟨_, rfl⟩
            have hbW6 : Below wd.heap.size wd W6 := by rw [hW6]; exact (Below.refl _ _).alloc (Nat.le_refl _) _
            have xG : At W6 wd.heap.size [.slice a6' ps6.length c6', .slice b6' ws6.length d6', .slice e6' ms6.length f6', .int .i64 q6] := by rw [hW6]; exact at_new wd [.slice a6' ps6.length c6', .slice b6' ws6.length d6', .slice e6' ms6.length f6', .int .i64 q6] _
            have HBE := hide (after HBD.out (after hbd hbW6))
            have HD6 := hide (hd6.below hbW6)
            have hk0 : ps6.length ≤ 1048576 := by have := hd6.1.2.2.2.2.1; omega
            have hk1 : ws6.length ≤ 1048576 := by have := hd6.1.2.2.2.2.1; omega
            have hk2 : ms6.length ≤ 1048576 := by have := hd6.2.2.2.2; omega
            have HSZ := hide hd6.1.2.2.2.2.2
            have HSS : Hid (∀ u, Below W6.heap.size W6 u → Calls Try.prog 46 #[.agg #[.slice a6' ps6.length c6', .slice b6' ws6.length d6', .slice e6' ms6.length f6', .int .i64 q6], .int .i64 s6] u fun e w' => e = .returned (.string (sectOf ps6 ws6 ms6 q6 s6)) ∧ Below u.heap.size u w') := fun u hu =>
              specSector_any a6' b6' e6' ps6 ws6 ms6 c6' d6' f6' q6 s6 u (HD6.out.below hu).1.1.1 (HD6.out.below hu).1.1.2 (HD6.out.below hu).2.1 hk0 hk1 hk2 HSZ.out
            have HSI6 : Hid (∀ u, Below W6.heap.size W6 u → Calls Try.prog 45 #[.agg #[.slice a6' ps6.length c6', .slice b6' ws6.length d6', .slice e6' ms6.length f6', .int .i64 q6], .int .i64 s6] u fun e w' => e = .returned (.string (sectOf ps6 ws6 ms6 q6 s6)) ∧ Below u.heap.size u w') := fun u hu =>
              implSector_any a6' b6' e6' ps6 ws6 ms6 c6' d6' f6' q6 s6 u (HD6.out.below hu).1.1.1 (HD6.out.below hu).1.1.2 (HD6.out.below hu).2.1 hk0 hk1 hk2 HSZ.out
            obtain ⟨Z, hZ⟩ : ∃ Z, Z = sectOf ps6 ws6 ms6 q6 s6 := ⟨_, rfl⟩
            rw [← hZ] at HSS HSI6
            have HXG := hide xG
            have x0 : W6.cell? ⟨wd.heap.size, 0, none⟩ = some (.slice a6' ps6.length c6') := xG.2 0 (by simp)
            have x1 : W6.cell? ⟨wd.heap.size, 1, none⟩ = some (.slice b6' ws6.length d6') := xG.2 1 (by simp)
            have x2 : W6.cell? ⟨wd.heap.size, 2, none⟩ = some (.slice e6' ms6.length f6') := xG.2 2 (by simp)
            have x3 : W6.cell? ⟨wd.heap.size, 3, none⟩ = some (.int .i64 q6) := xG.2 3 (by simp)
            have hZZ : (Z.toList == Z.toList) = true := by simp
            clear hd6 hbd hbW6 xG hZ
            go_wp2_with fail
            rw [← hW6]
            clear hW6
            generalize wd.heap.size = G at HXG x0 x1 x2 x3 ⊢
            have HT : Hid (∀ u, Below W6.heap.size W6 u → u.cell? ⟨G, 0, none⟩ = some (.slice a6' ps6.length c6') ∧ u.cell? ⟨G, 1, none⟩ = some (.slice b6' ws6.length d6') ∧ u.cell? ⟨G, 2, none⟩ = some (.slice e6' ms6.length f6') ∧ u.cell? ⟨G, 3, none⟩ = some (.int .i64 q6)) := fun u hu =>
              ⟨(HXG.out.below hu).2 0 (by simp), (HXG.out.below hu).2 1 (by simp), (HXG.out.below hu).2 2 (by simp), (HXG.out.below hu).2 3 (by simp)⟩
            go_region_held (fun u => u.cell? ⟨G, 0, none⟩ = some (.slice a6' ps6.length c6') ∧ u.cell? ⟨G, 1, none⟩ = some (.slice b6' ws6.length d6') ∧ u.cell? ⟨G, 2, none⟩ = some (.slice e6' ms6.length f6') ∧ u.cell? ⟨G, 3, none⟩ = some (.int .i64 q6)) (first | assumption | go_keep)
              ((first
                | (go_at_call 45; refine (HSI6.out W6.drew (after_drew (Below.refl _ _) 1)).mono ?_; rintro e we ⟨rfl, hbe⟩; have HE : Hid (Below W6.heap.size W6 we) := after (after_drew (Below.refl _ _) 1) hbe; have hSe := HT.out we HE.out; clear hbe)
                | (go_at_call 46; refine (HSS.out we HE.out).mono ?_; rintro e wf ⟨rfl, hbf⟩; have HF : Hid (Below W6.heap.size W6 wf) := after HE.out hbf; have hSf := HT.out wf HF.out; clear hbf)))
            have HFN := hide (after HBE.out HF.out)
            clear HT HXG HSS HSI6 HE HF hSe hSf
            go_wp2
            go_ret
            exact ⟨by first | rfl | (rw [hZZ]), HFN.out⟩

end Go.Proofs.Ytelbannfbglgcaa
