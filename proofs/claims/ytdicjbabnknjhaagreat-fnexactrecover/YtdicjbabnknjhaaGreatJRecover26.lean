/-
  Contract of the program's Mount, of a chip that is right.
  What the two Mounts answer, of any chip: the same.
  Contract of the program's (*writing).add.
-/
import Derived.Test.YtdicjbabnknjhaaGreatJRecover25
import Derived.Deep.QuietTactic
import Derived.BigQuiet
import Derived.Test.YtdicjbabnknjhaaGreatJRecover10
import Derived.Test.YtdicjbabnknjhaaGreatJRecover9
import Derived.Test.YtdicjbabnknjhaaGreatJRecover22
import Derived.Deep.DeepCutAuto
import Derived.Deep.RegionHeldLaw
namespace Go.Proofs.YtdicjbabnknjhaaGreat
open Go.RowKit

theorem MI.alloc {V : World} {gm : Nat} {ps : List ByteArray} {k : Nat} {wr : World} (h : MI V gm ps k wr) (he : (mUpto ps (k + 1)).2.1 = (mUpto ps k).2.1) (o : Obj) : MI V gm ps (k + 1) (wr.alloc o) := by
  have hb : Below wr.heap.size wr (wr.alloc o) := (Below.refl _ _).alloc (Nat.le_refl _) _
  refine ⟨h.1.keep (hb.mono h.1.size), ?_⟩
  rw [he]
  exact (hb.block gm (Array.getElem?_eq_some_iff.1 h.2).1).trans h.2

theorem MI.stored {V : World} {gm : Nat} {ps : List ByteArray} {k S : Nat} {wr U : World} (h : MI V gm ps k wr) (hb : Below wr.heap.size wr U) (he : (mUpto ps (k + 1)).2.1 = (mUpto ps k).2.1.set (S : Int).toNat (k : Int)) (n : Nat) : MI V gm ps (k + 1) ((U.drewN n).setCell ⟨gm, S, none⟩ (.int .i64 k)) := by
  have hb' := after_drew hb n
  refine ⟨(h.1.keep (hb'.mono h.1.size)).set (by simp) _ _, ?_⟩
  rw [he, Int.toNat_natCast]
  exact rowSet ((hb'.block gm (Array.getElem?_eq_some_iff.1 h.2).1).trans h.2)
theorem MI.kept {V : World} {gm : Nat} {ps : List ByteArray} {k : Nat} {wr U : World} (h : MI V gm ps k wr) (hb : Below wr.heap.size wr U) (he : (mUpto ps (k + 1)).2.1 = (mUpto ps k).2.1) (n : Nat) : MI V gm ps (k + 1) (U.drewN n) := by
  have hb' := after_drew hb n
  refine ⟨h.1.keep (hb'.mono h.1.size), ?_⟩
  rw [he]
  exact (hb'.block gm (Array.getElem?_eq_some_iff.1 h.2).1).trans h.2

set_option maxRecDepth 100000 in
set_option maxHeartbeats 6400000 in
theorem implMount_ok' (hrep : ∀ (b o c : Nat) (w : World), w.cell? ⟨b, o, none⟩ = some (.int .i64 (-1)) → Calls Tryz.prog 89 #[.slice (some ⟨b, o, none⟩) 1 c, .int .i64 26] w fun e w' => e = .returned (.slice (some ⟨w.heap.size, 0, none⟩) 26 26) ∧ w'.heap[w.heap.size]? = some (.cells (vsInt (List.replicate 26 (-1))).toArray 3 (0, 0)) ∧ Below w.heap.size w w')
    (a b : Option Addr) (ps : List ByteArray) (ws : List Int) (c d : Nat) (w : World) (hp : Rd w a (vsString ps)) (hw : Rd w b (vsInt ws)) (hok : chipOkP ps ws) :
    Calls Tryz.prog 63 #[.agg #[.slice a ps.length c, .slice b ws.length d]] w fun e w' => ∃ v, e = .returned v ∧ FtlOwn w' w.heap.size v ps ws (mMap ps) (mSeq ps) ∧ Below w.heap.size w w' := by
  obtain ⟨W, hW⟩ : ∃ W, W = (w.alloc (Obj.cells #[.slice a ps.length c, .slice b ws.length d] 32)).alloc (Obj.cells #[.slice none 0 0, .slice none 0 0, .slice none 0 0, .int .i64 0] 34) := ⟨_, rfl⟩
  have hbW : Below w.heap.size w W := by subst hW; exact ((Below.refl _ _).alloc (Nat.le_refl _) _).alloc (by simp) _
  have cW : W.cell? ⟨w.heap.size, 0, none⟩ = some (.slice a ps.length c) ∧ W.cell? ⟨w.heap.size, 1, none⟩ = some (.slice b ws.length d) ∧ W.cell? ⟨w.heap.size + 1, 0, none⟩ = some (.slice none 0 0) ∧ W.cell? ⟨w.heap.size + 1, 1, none⟩ = some (.slice none 0 0) ∧ W.cell? ⟨w.heap.size + 1, 2, none⟩ = some (.slice none 0 0) ∧ W.cell? ⟨w.heap.size + 1, 3, none⟩ = some (.int .i64 0) ∧ (∀ j, W.frozen? ⟨w.heap.size + 1, j, none⟩ = false) ∧ w.heap.size + 1 < W.heap.size := by
    subst hW; refine ⟨?_, ?_, ?_, ?_, ?_, ?_, fun j => ?_, ?_⟩ <;> simp [go_sem]
  obtain ⟨y0, y1, x0, x1, x2, x3, xf, hsz⟩ := cW
  have hmf : ∀ (fn : Fn) (first cap : Array Value) (w : World), (Instr.makeFunc fn first cap).run Tryz.prog w = .ok (.func fn first cap) w := fun _ _ _ _ => rfl
  have hB := chipOkB_true hok
  have HREP := hide hrep
  obtain ⟨hl, hm, hs8, hx⟩ := hok
  have HL : Hid (ps.length = 60 ∧ ws.length = 10) := ⟨hl, hm⟩
  have hs : Hid (∀ s ∈ ps, s.size ≤ 1048576) := fun s h => by have := hs8 s h; omega
  have hl1 : 60 ≤ ps.length ∧ ps.length ≤ 60 := by omega
  have hm1 : 10 ≤ ws.length ∧ ws.length ≤ 10 := by omega
  clear hrep hx hs8 hl hm
  go_enter Tryz.func63, Tryz.ntmps63
  go_wp2_with fail
  rw [← hW]
  clear hW
  refine (implChipOk_any a b ps ws c d _ (hp.below hbW) (hw.below hbW) (by omega) (by omega) hs.out).mono ?_
  rw [hB]
  rintro e w1 ⟨rfl, hb1⟩
  have hbw1 := after hbW hb1
  have k0 := (hb1.cell (p := ⟨w.heap.size, 0, none⟩) (show w.heap.size < W.heap.size by omega)).trans y0
  clear hB
  go_wp2_with fail
  refine (recsOf_any a ps c w1 (hp.below hbw1) HL.out.1 hs.out).mono ?_
  rintro e w2 ⟨rfl, hR2, hb2⟩
  obtain ⟨g, hg⟩ : ∃ g, g = w1.heap.size := ⟨_, rfl⟩
  rw [← hg] at hR2 ⊢
  have hs1 := hb1.size
  have hs2 := hb2.size
  have hbW2 := after hb1 hb2
  have hgW : w.heap.size + 1 < g := by omega
  have hgW2 : W.heap.size ≤ g := by omega
  have hg2 := hR2.lt
  obtain ⟨X, hX⟩ : ∃ X, X = w2.alloc (Obj.cells #[.int .i64 (-1)] 3) := ⟨_, rfl⟩
  have hbX : Below w2.heap.size w2 X := by rw [hX]; exact (Below.refl _ _).alloc (Nat.le_refl _) _
  have cX : X.cell? ⟨w2.heap.size, 0, none⟩ = some (.int .i64 (-1)) := by rw [hX]; simp
  have HRP := hide (HREP.out w2.heap.size 0 1 X cX)
  clear HREP k0 hg
  go_wp2_with fail
  rw [← hX]
  clear hX
  refine HRP.out.mono ?_
  rintro e w3 ⟨rfl, hrow, hb3⟩
  obtain ⟨gm, hgm⟩ : ∃ gm, gm = X.heap.size := ⟨_, rfl⟩
  rw [← hgm] at hrow ⊢
  have hsX := hbX.size
  have hs3 := hb3.size
  have hlX : w2.heap.size < X.heap.size := lt_of_cell cX
  have hggm : g < gm := by omega
  have hgm3 : gm < w3.heap.size := (Array.getElem?_eq_some_iff.1 hrow).1
  have hb23 := after hbX hb3
  obtain ⟨V, hV⟩ : ∃ V, V = w3.alloc (Obj.cells #[.slice (some ⟨gm, 0, none⟩) 26 26] 23) := ⟨_, rfl⟩
  have hb3V : Below w3.heap.size w3 V := by rw [hV]; exact (Below.refl _ _).alloc (Nat.le_refl _) _
  obtain ⟨pb, hpb⟩ : ∃ pb, pb = w3.heap.size := ⟨_, rfl⟩
  have cV : V.cell? ⟨pb, 0, none⟩ = some (.slice (some ⟨gm, 0, none⟩) 26 26) := by rw [hV, hpb]; simp
  have hrowV : V.heap[gm]? = some (.cells (vsInt (List.replicate 26 (-1))).toArray 3 (0, 0)) := (hb3V.block gm hgm3).trans hrow
  have hb2V := after hb23 hb3V
  have hRV := hR2.below hb2V
  have hbWV := after hbW2 hb2V
  have HPB := hide hpb
  have hpgm : gm < pb := by omega
  clear HRP hR2 hrow cX hb3 hbX hb23 hb3V hgm hpb
  go_wp2_with fail
  refine (placeIn_any (some ⟨gm, 0, none⟩) 26 26 w3).mono ?_
  rintro e u ⟨rfl, hu⟩
  rw [← hV] at hu
  have hu' := hu.symm
  subst hu'
  rw [← HPB.out]
  clear hV HPB
  have hsV := hbWV.size
  have HY := hide (And.intro (And.intro y0 y1) (And.intro x0 (And.intro x1 (And.intro x2 (And.intro x3 xf)))))
  have HRV := hide hRV
  have HCV := hide cV
  clear y0 y1 x0 x1 x2 x3 xf hRV cV hu
  go_wp2_with fail
  go_loopw [23, 6] (fun i l wr => ∃ k : Nat, k ≤ 60 ∧ i = .int .i64 k ∧ l = .int .i64 (lastU ps k) ∧ MI V gm ps k wr) (fun i _ _ => 60 - (intOf i).toNat)
  case atStart => exact ⟨0, by omega, rfl, rfl, OnlyIn.of_below (Below.refl _ _) _, hrowV⟩
  case round =>
    obtain ⟨k, hk, rfl, rfl, hO, hrw⟩ := hrel
    have hlast := lastU_bd ps k
    have hng : some g ∉ [some gm] := by simp; omega
    have hnp : some pb ∉ [some gm] := by simp; omega
    have hRr := HRV.out.only hO hng
    by_cases hlt : k < 60
    · obtain ⟨r0, r1, r2⟩ := hRr.1 k hlt
      rw [show recK ps 60 k = recC ps k by simp [recK, hlt]] at r0 r1 r2
      cases hr : recR (ps[k]?.getD ByteArray.empty) with
      | none =>
        rw [recC_none hr] at r0 r1 r2
        have HE := hide (map_no hr)
        have HE2 := hide (lastU_no hr)
        clear hrowV hr
        go_wp2_with fail
        refine ⟨⟨k + 1, by omega, by go_num, by rw [HE2.out], ?_⟩, by simp [intOf]; omega⟩
        exact MI.alloc ⟨hO, hrw⟩ HE.out _
      | some r =>
        obtain ⟨S', q, dd⟩ := r
        have hsec := recR_sector hr
        obtain ⟨S, rfl⟩ : ∃ S : Nat, S' = S := ⟨S'.toNat, by omega⟩
        rw [recC_some hr] at r0 r1 r2
        simp only [] at r0 r1 r2
        obtain ⟨o, ho, ho1, ho2⟩ := map_old (ps := ps) (k := k) (s := S) (by omega)
        have HRK := hide hr
        have HO := hide ho
        have hsb : S < 26 := by omega
        have hq1 : 1 ≤ q := hsec.2.2.1
        have hq2 : q ≤ 1000000000 := hsec.2.2.2
        have hq0 : (q == 0) = false := by simp; omega
        have HE2 := hide (lastU_some hr)
        obtain ⟨U, hU⟩ : ∃ U, U = wr.alloc (Obj.cells #[.int .i64 S, .int .i64 q, .string dd] 87) := ⟨_, rfl⟩
        have hbU : Below wr.heap.size wr U := by rw [hU]; exact (Below.refl _ _).alloc (Nat.le_refl _) _
        have c0 : U.cell? ⟨wr.heap.size, 0, none⟩ = some (.int .i64 S) := by rw [hU]; simp
        have c1 : U.cell? ⟨wr.heap.size, 1, none⟩ = some (.int .i64 q) := by rw [hU]; simp
        have c2 : U.cell? ⟨wr.heap.size, 2, none⟩ = some (.string dd) := by rw [hU]; simp
        have hcp := only_cell hO hnp HCV.out
        have hgmr : gm < wr.heap.size := (Array.getElem?_eq_some_iff.1 hrw).1
        have HPL := hide (place_in pb (some ⟨gm, 0, none⟩) (mUpto ps k).2.1 26 S o U (by rw [(mUpto_len ps k).2.1]; exact (hbU.cell (p := ⟨pb, 0, none⟩) (lt_of_cell hcp)).trans hcp) ((rowRd hrw).below hbU) (by rw [(mUpto_len ps k).2.1]; decide) ho)
        clear hrowV hr hsec ho
        have HMI := hide (And.intro hO hrw)
        have hRU := hRr.below hbU
        have fz := rowFrozen (k := S) ((hbU.block gm hgmr).trans hrw)
        have cz := rowInt ((hbU.block gm hgmr).trans hrw) HO.out
        have hone : ¬ gm = wr.heap.size := by omega
        go_wp2_with (rw [← hU]; clear hU)
        all_goals
          refine HPL.out.mono ?_
          rintro e u ⟨rfl, hu⟩
          have hu' := hu.symm
          subst hu'
          by_cases hom : o = -1
          · subst hom
            have HE := hide (map_new HRK.out (by rw [Int.toNat_natCast]; exact HO.out))
            clear HPL hRU hRr hrw hO r0 r1 r2 hu
            go_wp2_with fail
            go_quiet (fail)
            have HF := hide (MI.stored (S := S) HMI.out hbU HE.out nq)
            have HU2 : Hid (U.drewN nq = U.drewN nq) := rfl
            obtain ⟨U2, hU2⟩ : ∃ U2, U2 = U.drewN nq := ⟨_, rfl⟩
            have d0 : U2.cell? ⟨wr.heap.size, 0, none⟩ = some (.int .i64 S) := by rw [hU2]; exact c0
            have dz : U2.cell? ⟨gm, S, none⟩ = some (.int .i64 (-1)) := by rw [hU2]; exact cz
            have df : U2.frozen? ⟨gm, S, none⟩ = false := by rw [hU2]; exact fz
            rw [← hU2] at HF ⊢
            clear hU2 c0 c1 c2 cz fz HU2 hbU HMI
            go_wp2_with fail
            exact ⟨⟨k + 1, by omega, by go_num, by rw [HE2.out]; congr 1; omega, HF.out⟩, by simp [intOf]; omega⟩
          · obtain ⟨p, rfl⟩ : ∃ p : Nat, o = p := ⟨o.toNat, by omega⟩
            have hp60 : p < 60 := by omega
            have e1 := (hRU.1 p hp60).2.1
            rw [show recK ps 60 p = recC ps p by simp [recK, hp60]] at e1
            obtain ⟨Q0, hQ0⟩ : ∃ Q0, Q0 = (recC ps p).2.1 := ⟨_, rfl⟩
            rw [← hQ0] at e1
            have ht : ((p : Int) == -1) = false := by simp
            have HMG := hide (fun h => map_great HRK.out (by rw [Int.toNat_natCast]; exact HO.out) hom (show (recC ps (p : Int).toNat).2.1 < q from h))
            have HMS := hide (fun h => map_small HRK.out (by rw [Int.toNat_natCast]; exact HO.out) hom (show ¬ (recC ps (p : Int).toNat).2.1 < q from h))
            rw [Int.toNat_natCast, ← hQ0] at HMG HMS
            clear HPL hRU hRr hrw hO r0 r1 r2 hu hQ0 hom
            by_cases hgt : Q0 < q
            · have t5 : decide (Q0 < q) = true := by simpa using hgt
              have HE := hide (HMG.out hgt)
              clear hgt
              go_wp2_with fail
              go_quiet (fail)
              have HF := hide (MI.stored (S := S) HMI.out hbU HE.out nq)
              obtain ⟨U2, hU2⟩ : ∃ U2, U2 = U.drewN nq := ⟨_, rfl⟩
              have d0 : U2.cell? ⟨wr.heap.size, 0, none⟩ = some (.int .i64 S) := by rw [hU2]; exact c0
              have dz : U2.cell? ⟨gm, S, none⟩ = some (.int .i64 p) := by rw [hU2]; exact cz
              have df : U2.frozen? ⟨gm, S, none⟩ = false := by rw [hU2]; exact fz
              rw [← hU2] at HF ⊢
              clear hU2 c0 c1 c2 cz fz e1 hbU HMI
              go_wp2_with fail
              exact ⟨⟨k + 1, by omega, by go_num, by rw [HE2.out]; congr 1; omega, HF.out⟩, by simp [intOf]; omega⟩
            · have t5 : decide (Q0 < q) = false := by simpa using hgt
              have HE := hide (HMS.out hgt)
              clear hgt
              go_wp2_with fail
              go_quiet (fail)
              have HF := hide (MI.kept HMI.out hbU HE.out nq)
              obtain ⟨U2, hU2⟩ : ∃ U2, U2 = U.drewN nq := ⟨_, rfl⟩
              rw [← hU2] at HF ⊢
              clear hU2 c0 c1 c2 cz fz e1 hbU HMI
              go_wp2_with fail
              exact ⟨⟨k + 1, by omega, by go_num, by rw [HE2.out]; congr 1; omega, HF.out⟩, by simp [intOf]; omega⟩
    · obtain rfl : k = 60 := by omega
      have hnW : ∀ j, j ≤ w.heap.size + 1 → some j ∉ [some gm] := fun j hj => by simp; omega
      have hbr : Below W.heap.size W wr := (hbWV).trans ⟨hO.os, hO.tape, hO.output, hO.size, fun i hi => hO.block i (by omega) (by simp; omega)⟩
      have y0 := (hbr.cell (p := ⟨w.heap.size, 0, none⟩) (show w.heap.size < W.heap.size by omega)).trans HY.out.1.1
      have y1 := (hbr.cell (p := ⟨w.heap.size, 1, none⟩) (show w.heap.size < W.heap.size by omega)).trans HY.out.1.2
      have hbwr := after hbW hbr
      have hgmr : gm < wr.heap.size := (Array.getElem?_eq_some_iff.1 hrw).1
      have HCC := hide (chipCopy_any a b ps ws c d wr (hp.below hbwr) (hw.below hbwr) HL.out.1 HL.out.2)
      have hsr := hbr.size
      clear hRr hrowV hlt hO
      go_wp2_with fail
      refine HCC.out.mono ?_
      rintro e w4 ⟨v, rfl, hown, hb4⟩
      obtain ⟨a4, c4, b4, d4, rfl, ho1, ho2, hne⟩ := own_open hown
      have hbW4 := after hbr hb4
      have m0 := (hbW4.cell (p := ⟨w.heap.size + 1, 0, none⟩) hsz).trans HY.out.2.1
      have m1 := (hbW4.cell (p := ⟨w.heap.size + 1, 1, none⟩) hsz).trans HY.out.2.2.1
      have m2 := (hbW4.cell (p := ⟨w.heap.size + 1, 2, none⟩) hsz).trans HY.out.2.2.2.1
      have m3 := (hbW4.cell (p := ⟨w.heap.size + 1, 3, none⟩) hsz).trans HY.out.2.2.2.2.1
      have f0 := (hbW4.frozen (p := ⟨w.heap.size + 1, 0, none⟩) hsz).trans (HY.out.2.2.2.2.2 0)
      have f1 := (hbW4.frozen (p := ⟨w.heap.size + 1, 1, none⟩) hsz).trans (HY.out.2.2.2.2.2 1)
      have f2 := (hbW4.frozen (p := ⟨w.heap.size + 1, 2, none⟩) hsz).trans (HY.out.2.2.2.2.2 2)
      have f3 := (hbW4.frozen (p := ⟨w.heap.size + 1, 3, none⟩) hsz).trans (HY.out.2.2.2.2.2 3)
      have hbw4 := after hbwr hb4
      have HR4 := hide (rowOwns (n := 26) (base := w.heap.size + 1 + 1) ((hb4.block gm hgmr).trans hrw) (mUpto_len ps 60).2.1 (by omega) (by decide))
      have HO12 := hide (And.intro ho1 (And.intro ho2 hne))
      have HN1 : Hid (∀ q, (Value.slice a4 ps.length c4).ownBlock = some q → q ≠ gm) := fun q hq => by have := (ho1.lt q hq).1; omega
      have HN2 : Hid (∀ q, (Value.slice b4 ws.length d4).ownBlock = some q → q ≠ gm) := fun q hq => by have := (ho2.lt q hq).1; omega
      have HSQ : Hid (mSeq ps = min (lastU ps 60 + 1) 1000000000) := mSeq_last ps 60
      have HFIN : Hid (∀ z : Int, z = mSeq ps → ∃ v, (Ending.returned (Value.agg #[.slice a4 ps.length c4, .slice b4 ws.length d4, .slice (some ⟨gm, 0, none⟩) 26 26, .int .i64 z])) = .returned v ∧ FtlOwn ((((w4.setCell ⟨w.heap.size + 1, 0, none⟩ (.slice a4 ps.length c4)).setCell ⟨w.heap.size + 1, 1, none⟩ (.slice b4 ws.length d4)).setCell ⟨w.heap.size + 1, 2, none⟩ (.slice (some ⟨gm, 0, none⟩) 26 26)).setCell ⟨w.heap.size + 1, 3, none⟩ (.int .i64 z)) w.heap.size v ps ws (mMap ps) (mSeq ps) ∧ Below w.heap.size w ((((w4.setCell ⟨w.heap.size + 1, 0, none⟩ (.slice a4 ps.length c4)).setCell ⟨w.heap.size + 1, 1, none⟩ (.slice b4 ws.length d4)).setCell ⟨w.heap.size + 1, 2, none⟩ (.slice (some ⟨gm, 0, none⟩) 26 26)).setCell ⟨w.heap.size + 1, 3, none⟩ (.int .i64 z))) := by
        intro z hz
        subst hz
        have hsr1 : w.heap.size + 1 < wr.heap.size := by omega
        refine ⟨_, rfl, ⟨_, _, _, rfl, ?_, ?_, ?_, HO12.out.2.2, ?_, ?_⟩, (((hbw4.setCell (by show _ ≤ _; simp) _).setCell (by show _ ≤ _; simp) _).setCell (by show _ ≤ _; simp) _).setCell (by show _ ≤ _; simp) _⟩
        · exact owns_mono (ownsRow_setCell_below (ownsRow_setCell_below (ownsRow_setCell_below (ownsRow_setCell_below HO12.out.1 hsr1 _) hsr1 _) hsr1 _) hsr1 _) (by omega)
        · exact owns_mono (ownsRow_setCell_below (ownsRow_setCell_below (ownsRow_setCell_below (ownsRow_setCell_below HO12.out.2.1 hsr1 _) hsr1 _) hsr1 _) hsr1 _) (by omega)
        · rw [mMap_len]
          exact owns_mono (ownsRow_setCell_below (ownsRow_setCell_below (ownsRow_setCell_below (ownsRow_setCell_below HR4.out (Nat.lt_succ_self _) _) (Nat.lt_succ_self _) _) (Nat.lt_succ_self _) _) (Nat.lt_succ_self _) _) (by omega)
        · intro q hq; have := HN1.out q hq; simp [Value.ownBlock]; omega
        · intro q hq; have := HN2.out q hq; simp [Value.ownBlock]; omega
      clear HCC hown ho1 ho2 hne hrw y0 y1 hbr hb4 hbW4
      go_wp2_with fail
      all_goals
        refine bodyPost_ret (v := .agg #[.slice a4 ps.length c4, .slice b4 ws.length d4, .slice (some ⟨gm, 0, none⟩) 26 26, .int .i64 _]) (by simp [results, Tryz.results63, go_sem, m0, m1, m2, m3]) rfl (HFIN.out _ ?_)
        rw [HSQ.out]
        omega

theorem implMount_ok (a b : Option Addr) (ps : List ByteArray) (ws : List Int) (c d : Nat) (w : World) (hp : Rd w a (vsString ps)) (hw : Rd w b (vsInt ws)) (hok : chipOkP ps ws) :
    Calls Tryz.prog 63 #[.agg #[.slice a ps.length c, .slice b ws.length d]] w fun e w' => ∃ v, e = .returned v ∧ FtlOwn w' w.heap.size v ps ws (mMap ps) (mSeq ps) ∧ Below w.heap.size w w' :=
  implMount_ok' (fun b o c w hc => repeat_any b o c w hc) a b ps ws c d w hp hw hok

end Go.Proofs.YtdicjbabnknjhaaGreat

namespace Go.Proofs.YtdicjbabnknjhaaGreat
open Go.RowKit

theorem fnExactMount_both (ps : List ByteArray) (ws : List Int)  (hk0 : ps.length ≤ 1048576) (hk1 : ws.length ≤ 1048576) (hs : ∀ s ∈ ps, s.size ≤ 1048576)  :
    ∃ (Gps : List ByteArray) (Gws : List Int) (Gms : List Int) (Gq : Int) , Gps.length ≤ 1000 ∧ Gws.length ≤ 1000 ∧ Gms.length ≤ 1000 ∧ Hid (∀ (u : World) (v : Value), ChipRd u v ps ws → Calls Tryz.prog 51 #[v] u fun e w' => ∃ v, e = .returned (v) ∧ FtlOwn w' u.heap.size v Gps Gws Gms Gq ∧ Below u.heap.size u w') ∧ Hid (∀ (u : World) (v : Value), ChipRd u v ps ws → Calls Tryz.prog 63 #[v] u fun e w' => ∃ v, e = .returned (v) ∧ FtlOwn w' u.heap.size v Gps Gws Gms Gq ∧ Below u.heap.size u w') := by
  by_cases hok : chipOkP ps ws
  · refine ⟨ps, ws, mMap ps, mSeq ps, by rw [hok.1]; decide, by rw [hok.2.1]; decide, by rw [mMap_len]; decide, ?_, ?_⟩
    · rintro u v ⟨a, c, b, d, rfl, h1, h2⟩
      exact specMount_ok a b ps ws c d u h1 h2 hok
    · rintro u v ⟨a, c, b, d, rfl, h1, h2⟩
      exact implMount_ok a b ps ws c d u h1 h2 hok
  · refine ⟨[], [], [], 0, by decide, by decide, by decide, ?_, ?_⟩
    · rintro u v ⟨a, c, b, d, rfl, h1, h2⟩
      exact specMount_bad a b ps ws c d u h1 h2 hk0 hk1 hs hok
    · rintro u v ⟨a, c, b, d, rfl, h1, h2⟩
      exact implMount_bad a b ps ws c d u h1 h2 hk0 hk1 hs hok

end Go.Proofs.YtdicjbabnknjhaaGreat

namespace Go.Proofs.YtdicjbabnknjhaaGreat
open Go.RowKit

/-- A chip in a variable of its own, its rows new as well. -/
def CVarIn (u : World) (lo B : Nat) (a : Option Addr) (c : Nat) (b : Option Addr) (d : Nat) (ps : List ByteArray) (ws : List Int) : Prop :=
  (u.cell? ⟨B, 0, none⟩ = some (.slice a ps.length c) ∧ u.cell? ⟨B, 1, none⟩ = some (.slice b ws.length d)) ∧ (Rd u a (vsString ps) ∧ Rd u b (vsInt ws)) ∧ lo ≤ B ∧ ∀ b0 off, (a = some ⟨b0, off, none⟩ ∨ b = some ⟨b0, off, none⟩) → lo ≤ b0
def CVar (A u : World) (B : Nat) (a : Option Addr) (c : Nat) (b : Option Addr) (d : Nat) (ps : List ByteArray) (ws : List Int) : Prop :=
  CVarIn u A.heap.size B a c b d ps ws ∧ Below A.heap.size A u
theorem cell_far {u u' : World} {p o : Nat} {v : Value} (h : u.cell? ⟨p, o, none⟩ = some v) (hk : u'.heap[p]? = u.heap[p]?) : u'.cell? ⟨p, o, none⟩ = some v := by
  simp only [World.cell?] at h ⊢
  rw [hk]; exact h
theorem rd_far {u u' : World} {a : Option Addr} {vs : List Value} (h : Rd u a vs) (hk : ∀ b off, a = some ⟨b, off, none⟩ → b < u.heap.size → u'.heap[b]? = u.heap[b]?) : Rd u' a vs := by
  rcases h with h | ⟨b, off, ha, hc⟩
  · exact .inl h
  · exact .inr ⟨b, off, ha, fun i v hv => cell_far (hc i v hv) (hk b off ha (lt_of_cell (hc i v hv)))⟩
theorem CVarIn.far {u u' : World} {lo B : Nat} {a : Option Addr} {c : Nat} {b : Option Addr} {d : Nat} {ps : List ByteArray} {ws : List Int} (h : CVarIn u lo B a c b d ps ws) (hk : ∀ k, lo ≤ k → k < u.heap.size → u'.heap[k]? = u.heap[k]?) : CVarIn u' lo B a c b d ps ws := by
  obtain ⟨⟨h0, h1⟩, ⟨r0, r1⟩, hB, hb⟩ := h
  have e := hk B hB (lt_of_cell h0)
  exact ⟨⟨cell_far h0 e, cell_far h1 e⟩, ⟨rd_far r0 (fun b0 off h hl => hk b0 (hb b0 off (.inl h)) hl), rd_far r1 (fun b0 off h hl => hk b0 (hb b0 off (.inr h)) hl)⟩, hB, hb⟩
theorem cvar_late {A u : World} {lo : Nat} {a : Option Addr} {c : Nat} {b : Option Addr} {d : Nat} {ps : List ByteArray} {ws : List Int} {t : TypeId} (hr : Rd u a (vsString ps) ∧ Rd u b (vsInt ws) ∧ ∀ b0 off, (a = some ⟨b0, off, none⟩ ∨ b = some ⟨b0, off, none⟩) → lo ≤ b0) (hlo : A.heap.size ≤ lo) (hb : Below A.heap.size A u) :
    CVar A (u.alloc (Obj.cells #[.slice a ps.length c, .slice b ws.length d] t)) u.heap.size a c b d ps ws :=
  ⟨⟨⟨by simp, by simp⟩, ⟨hr.1.below ((Below.refl _ _).alloc (Nat.le_refl _) _), hr.2.1.below ((Below.refl _ _).alloc (Nat.le_refl _) _)⟩, hb.size, fun b0 off h => Nat.le_trans hlo (hr.2.2 b0 off h)⟩, hb.alloc hb.size _⟩
theorem rd_setFar {w : World} {a : Option Addr} {vs : List Value} {B i : Nat} {v : Value} (h : Rd w a vs) (hn : ∀ b off, a = some ⟨b, off, none⟩ → B ≠ b) : Rd (w.setCell ⟨B, i, none⟩ v) a vs := by
  rcases h with h | ⟨b, off, ha, hc⟩
  · exact .inl h
  · refine .inr ⟨b, off, ha, fun j x hx => ?_⟩
    exact cell_other (hc j x hx) (hn b off ha)
theorem cvar_aux {A w1 : World} (hb : Below (A.alloc (Obj.cells #[.slice none 0 0, .slice none 0 0] 32)).drew.heap.size (A.alloc (Obj.cells #[.slice none 0 0, .slice none 0 0] 32)).drew w1) :
    Hid (Below A.heap.size A.drew w1) ∧ (w1.cell? ⟨A.heap.size, 0, none⟩ = some (.slice none 0 0) ∧ w1.cell? ⟨A.heap.size, 1, none⟩ = some (.slice none 0 0)) ∧ ∀ j, w1.frozen? ⟨A.heap.size, j, none⟩ = false := by
  have hsz : (A.alloc (Obj.cells #[.slice none 0 0, .slice none 0 0] 32)).drew.heap.size = A.heap.size + 1 := by simp
  refine ⟨(show Below A.heap.size A.drew (A.alloc (Obj.cells #[.slice none 0 0, .slice none 0 0] 32)).drew from ?_).trans (hb.mono (by omega)), ⟨?_, ?_⟩, fun j => ?_⟩
  · have : Below A.heap.size A (A.alloc (Obj.cells #[.slice none 0 0, .slice none 0 0] 32)) := (Below.refl _ A).alloc (Nat.le_refl _) _
    exact ⟨this.os, this.tape, this.output, this.size, this.block⟩
  · exact (hb.cell (p := ⟨A.heap.size, 0, none⟩) (by show A.heap.size < _; omega)).trans (by simp)
  · exact (hb.cell (p := ⟨A.heap.size, 1, none⟩) (by show A.heap.size < _; omega)).trans (by simp)
  · exact (hb.frozen (p := ⟨A.heap.size, j, none⟩) (by show A.heap.size < _; omega)).trans (by simp)
theorem cvar_early {A u : World} {a : Option Addr} {c : Nat} {b : Option Addr} {d : Nat} {ps : List ByteArray} {ws : List Int} {x y : Value} (hr : Rd u a (vsString ps) ∧ Rd u b (vsInt ws) ∧ ∀ b0 off, (a = some ⟨b0, off, none⟩ ∨ b = some ⟨b0, off, none⟩) → A.heap.size + 1 ≤ b0) (hb : Below A.heap.size A u) (h0 : u.cell? ⟨A.heap.size, 0, none⟩ = some x) (h1 : u.cell? ⟨A.heap.size, 1, none⟩ = some y) :
    CVar A ((u.setCell ⟨A.heap.size, 0, none⟩ (.slice a ps.length c)).setCell ⟨A.heap.size, 1, none⟩ (.slice b ws.length d)) A.heap.size a c b d ps ws := by
  have ha : ∀ b0 off, a = some ⟨b0, off, none⟩ → A.heap.size ≠ b0 := fun b0 off h => by have := hr.2.2 b0 off (.inl h); omega
  have hb' : ∀ b0 off, b = some ⟨b0, off, none⟩ → A.heap.size ≠ b0 := fun b0 off h => by have := hr.2.2 b0 off (.inr h); omega
  refine ⟨⟨⟨?_, ?_⟩, ⟨rd_setFar (rd_setFar hr.1 ha) ha, rd_setFar (rd_setFar hr.2.1 hb') hb'⟩, Nat.le_refl _, fun b0 off h => by have := hr.2.2 b0 off h; omega⟩, (hb.setCell (Nat.le_refl _) _).setCell (Nat.le_refl _) _⟩
  · simp [go_sem, World.cell?_setCell_same _ _ _ h0]
  · have : (u.setCell ⟨A.heap.size, 0, none⟩ (.slice a ps.length c)).cell? ⟨A.heap.size, 1, none⟩ = some y := by simpa [go_sem] using h1
    exact World.cell?_setCell_same _ _ _ this

set_option maxRecDepth 100000 in
set_option maxHeartbeats 12800000 in
theorem add_any (P base : Nat) (ps : List ByteArray) (ws ms : List Int) (q : Int) (cs : List (Int × Int × ByteArray)) (kind at_ : Int) (text : ByteArray) (w : World) (hW : PW w P base ps ws ms q cs) (hok : chipOkP ps ws) (ht : text.size ≤ 1048576) (hcs : cs.length ≤ 60000) :
    Calls Tryz.prog 116 #[.pointer (some ⟨P, 0, none⟩), .agg #[.int .i64 kind, .int .i64 at_, .string text]] w fun e w' => e = .returned (.bool (applyF ps ws kind at_ text)) ∧ Below base w w' ∧ Fr P P P w w' ∧
      (applyF ps ws kind at_ text = true → PW w' P base (applyP ps ws kind at_ text) (applyW ps ws kind at_) (mMap (applyP ps ws kind at_ text)) (mSeq (applyP ps ws kind at_ text)) (cs ++ [(kind, at_, text)])) ∧
      (applyF ps ws kind at_ text = false → PW w' P base ps ws ms q cs) := by
  obtain ⟨i2, hi2, hz0, hz1, hz2⟩ := info_parts infoAct
  obtain ⟨v4, k4, a, c, b, d, e0, f, hW⟩ := hW
  obtain ⟨A, hA⟩ : ∃ A, A = w.alloc (Obj.cells #[.int .i64 kind, .int .i64 at_, .string text] 71) := ⟨_, rfl⟩
  have hbA : Below w.heap.size w A := by rw [hA]; exact (Below.refl _ _).alloc (Nat.le_refl _) _
  have n0 : A.cell? ⟨w.heap.size, 0, none⟩ = some (.int .i64 kind) := by rw [hA]; simp [go_sem]
  have n1 : A.cell? ⟨w.heap.size, 1, none⟩ = some (.int .i64 at_) := by rw [hA]; simp [go_sem]
  have n2 : A.cell? ⟨w.heap.size, 2, none⟩ = some (.string text) := by rw [hA]; simp [go_sem]
  have hWA := hW.below hbA
  have hltB := lt_of_cell n0
  obtain ⟨⟨c0, c1, c2, c3, c4⟩, -⟩ := hWA.cells
  have hltP := lt_of_cell c0
  obtain ⟨F, hF⟩ : ∃ F, F = applyF ps ws kind at_ text := ⟨_, rfl⟩
  obtain ⟨PS, hPS⟩ : ∃ PS, PS = applyP ps ws kind at_ text := ⟨_, rfl⟩
  obtain ⟨WS, hWS⟩ : ∃ WS, WS = applyW ps ws kind at_ := ⟨_, rfl⟩
  have HRT : Hid (chipOkP PS WS) := by show chipOkP _ _; rw [hPS, hWS]; exact apply_right hok
  have HCL : Hid (∀ u, Below A.heap.size A.drew u → Calls Tryz.prog 134 #[.agg #[.slice a ps.length c, .slice b ws.length d], .agg #[.int .i64 kind, .int .i64 at_, .string text]] u fun e w' => ∃ a' c' b' d', e = .returned (.tuple #[.agg #[.slice a' PS.length c', .slice b' WS.length d'], .bool F]) ∧ (Rd w' a' (vsString PS) ∧ Rd w' b' (vsInt WS) ∧ ∀ b0 off, (a' = some ⟨b0, off, none⟩ ∨ b' = some ⟨b0, off, none⟩) → u.heap.size ≤ b0) ∧ Below u.heap.size u w') := by
    intro u hu
    have hu' : Below A.heap.size A u := (after_drew (Below.refl _ _) 1).trans hu
    have hWu := hWA.below hu'
    refine (implApply_fn a b ps ws c d kind at_ text u hWu.rd.1 hWu.rd.2.1 (by rw [hok.1]; decide) (by rw [hok.2.1]; decide) (fun s h => by have := hok.2.2.1 s h; omega) ht).mono ?_
    rintro e w' ⟨v, rfl, hown, hb⟩
    rw [← hF]
    rw [← hPS, ← hWS] at hown
    obtain ⟨a', c', b', d', rfl, o1, o2, -⟩ := own_open hown
    refine ⟨a', c', b', d', rfl, ⟨rd_of_own o1, rd_of_own o2, ?_⟩, hb⟩
    rintro b0 off (rfl | rfl)
    · exact (o1.lt b0 rfl).1
    · exact (o2.lt b0 rfl).1
  have HK : Hid (∀ u, Below A.heap.size A.drew u → (u.cell? ⟨P, 1, none⟩ = some (.slice a ps.length c) ∧ u.cell? ⟨P, 2, none⟩ = some (.slice b ws.length d) ∧ u.cell? ⟨w.heap.size, 0, none⟩ = some (.int .i64 kind) ∧ u.cell? ⟨w.heap.size, 1, none⟩ = some (.int .i64 at_) ∧ u.cell? ⟨w.heap.size, 2, none⟩ = some (.string text))) := fun u hu =>
    ⟨(hu.cell (p := ⟨P, 1, none⟩) hltP).trans (by simpa using c1), (hu.cell (p := ⟨P, 2, none⟩) hltP).trans (by simpa using c2), (hu.cell (p := ⟨w.heap.size, 0, none⟩) hltB).trans (by simpa using n0), (hu.cell (p := ⟨w.heap.size, 1, none⟩) hltB).trans (by simpa using n1), (hu.cell (p := ⟨w.heap.size, 2, none⟩) hltB).trans (by simpa using n2)⟩
  have HWA := hide hWA
  have HBA := hide hbA
  have HW := hide hW
  have HN : Hid (A.cell? ⟨w.heap.size, 0, none⟩ = some (.int .i64 kind) ∧ A.cell? ⟨w.heap.size, 1, none⟩ = some (.int .i64 at_) ∧ A.cell? ⟨w.heap.size, 2, none⟩ = some (.string text)) := ⟨n0, n1, n2⟩
  have HAL : Hid (Below A.heap.size A.drew (A.alloc (Obj.cells #[.slice none 0 0, .slice none 0 0] 32)).drew) := by
    have : Below A.heap.size A (A.alloc (Obj.cells #[.slice none 0 0, .slice none 0 0] 32)) := (Below.refl _ A).alloc (Nat.le_refl _) _
    exact ⟨this.os, this.tape, this.output, this.size, this.block⟩
  have m1 : A.heap.size ≠ P := by omega
  have m2 : A.heap.size ≠ w.heap.size := by omega
  rw [← hF, ← hPS, ← hWS]
  clear hW hWA hbA hok ht hF hPS hWS
  go_enter Tryz.func116, Tryz.ntmps116
  go_wp2_with fail
  rw [← hA]
  clear hA
  go_cut [5, 6] (fun x y wx => ∃ B a' c' b' d', x = .pointer (some ⟨B, 0, none⟩) ∧ y = .bool F ∧ Hid (CVar A wx B a' c' b' d' PS WS))
  case first =>
    go_region_held (fun w' => w'.cell? ⟨P, 1, none⟩ = some (.slice a ps.length c) ∧ w'.cell? ⟨P, 2, none⟩ = some (.slice b ws.length d) ∧ w'.cell? ⟨w.heap.size, 0, none⟩ = some (.int .i64 kind) ∧ w'.cell? ⟨w.heap.size, 1, none⟩ = some (.int .i64 at_) ∧ w'.cell? ⟨w.heap.size, 2, none⟩ = some (.string text))
      (first | assumption | go_keep | exact ⟨cell_other (cell_other hK1.1 m1) m1, cell_other (cell_other hK1.2.1 m1) m1, cell_other (cell_other hK1.2.2.1 m2) m2, cell_other (cell_other hK1.2.2.2.1 m2) m2, cell_other (cell_other hK1.2.2.2.2 m2) m2⟩)
      ((first
        | (go_at_call 134; refine (HCL.out (A.alloc (Obj.cells #[.slice none 0 0, .slice none 0 0] 32)).drew HAL.out).mono ?_; rintro e w2 ⟨a', c', b', d', rfl, hr, hb2⟩; obtain ⟨HBX, ⟨z0, z1⟩, zf⟩ := cvar_aux hb2; have hK1 := HK.out w2 HBX.out; have zf0 := zf 0; have zf1 := zf 1; have HRD := hide hr; clear hr hb2 zf)
        | (go_at_call 134; refine (HCL.out A.drew (Below.refl _ _)).mono ?_; rintro e w2 ⟨a', c', b', d', rfl, hr, hb2⟩; have hK1 := HK.out w2 hb2; have HBX : Hid (Below A.heap.size A.drew w2) := hb2; have HRD := hide hr; clear hr hb2)))
    · have HBX2 := hide (cvar_late (c := c') (d := d') (t := 32) HRD.out (show A.heap.size ≤ A.drew.heap.size from Nat.le_refl _) (show Below A.heap.size A w2 from (after_drew (Below.refl _ _) 1).trans HBX.out))
      clear HBX hK1 HK HCL
      go_wp2_with fail
      go_meet
      exact ⟨_, _, _, _, _, rfl, rfl, HBX2⟩
    · have HBX2 := hide (cvar_early (c := c') (d := d') ⟨HRD.out.1, HRD.out.2.1, fun b0 off h => by have := HRD.out.2.2 b0 off h; simpa using this⟩ (show Below A.heap.size A w2 from (after_drew (Below.refl _ _) 1).trans HBX.out) z0 z1)
      clear HBX hK1 HK HCL z0 z1
      go_wp2_with fail
      go_meet
      exact ⟨_, _, _, _, _, rfl, rfl, HBX2⟩
  case rest =>
  obtain ⟨B, a', c', b', d', rfl, rfl, HCB⟩ := hcut
  have HWC := hide (HWA.out.below HCB.out.2)
  have HBC := hide (after HBA.out HCB.out.2)
  have k0 := (HCB.out.2.cell (p := ⟨w.heap.size, 0, none⟩) hltB).trans n0
  have k1 := (HCB.out.2.cell (p := ⟨w.heap.size, 1, none⟩) hltB).trans n1
  have k2 := (HCB.out.2.cell (p := ⟨w.heap.size, 2, none⟩) hltB).trans n2
  clear HCL HK n0 n1 n2 c0 c1 c2 c3 c4
  cases F with
  | false =>
    go_wp2
    go_ret
    exact ⟨rfl, HBC.out.mono HW.out.lt.2.2, Fr.of_below HBC.out, HWC.out.pw⟩
  | true =>
    obtain ⟨⟨c0, c1, c2, c3, c4⟩, fz⟩ := HWC.out.cells
    have fz0 := fz 0
    have HOA := hide HWC.out.2.2.1
    have hbase : base ≤ wc.heap.size := HWC.out.lt.2.2
    have HE : Hid ((Value.slice v4 cs.length k4).ownBlock ≠ some P ∧ (Value.slice v4 cs.length k4).ownBlock ≠ some w.heap.size ∧ ∀ k, (Value.slice v4 cs.length k4).ownBlock = some k → k < A.heap.size) :=
      ⟨kind_ne HWC.out.2.2.1 HWC.out.1 (by decide), fun e => by have := (HW.out.2.2.1.lt _ e).2; omega, fun k hk => by have := (HW.out.2.2.1.lt _ hk).2; omega⟩
    have m4 : ¬ wc.heap.size = P := by have := HWC.out.lt.1; omega
    have m5 : P < wc.heap.size := HWC.out.lt.1
    have m6 : ¬ wc.heap.size = w.heap.size := by have := lt_of_cell k0; omega
    clear c1 c2 c3 c4 fz
    go_wp2_with fail
    go_cut [28] (fun x wx => ∃ a9 q9, Hid (PActs wx P base a9 q9 (cs ++ [(kind, at_, text)]) ∧ Below base wc wx ∧ Fr P P P wc wx ∧ CVarIn wx A.heap.size B a' c' b' d' PS WS))
    case first =>
      go_region_law ((refine step_append_act (w0 := wc.drew) rfl (.tmp 23) (.tmp 25) 31 rfl base 71 i2 (.agg #[.int .i64 0, .int .i64 0, .string ⟨#[]⟩]) 32 Tryz.underlying31 hi2 hz0 hz1 hz2 rfl _ _ _ (.int .i64 kind) (.int .i64 at_) (.string text) (by rfl) HOA.out ⟨rfl, rfl, rfl⟩ (by rfl) (by omega) (by omega) hbase rfl ?_; intro v' u hown hg; have c0' := hg.cell c0 (fun e => HE.out.1 e.symm); have bf0 := (frozen_far hg ⟨P, 0, none⟩ HWC.out.lt.1 (fun e => HE.out.1 e.symm)).trans fz0; have hgr : wc.grownBy u (Value.slice v4 cs.length k4).ownBlock := ⟨hg.os, hg.tape, hg.output, hg.size, hg.block⟩; obtain ⟨a9, q9, rfl, hpa, hbb, hfr⟩ := HWC.out.acts.act (kind, at_, text) hgr hown; have HF := hide (And.intro hpa (And.intro hbb (And.intro hfr (HCB.out.1.far (u' := u.setCell ⟨P, 0, none⟩ (.slice a9 (cs ++ [(kind, at_, text)]).length q9)) (fun k hk hl => (Below.heap_setCell u ⟨P, 0, none⟩ _ k (show k ≠ P by omega)).trans (hgr.block k hl (fun e => by have := HE.out.2.2 k e.symm; omega))))))); clear hpa hbb hfr hgr hown hg))
      all_goals
        rw [List.length_append, List.length_singleton] at HF
        clear bf0 c0' k0 k1 k2 HOA
        go_wp2_with fail
        go_meet
        exact ⟨_, _, HF⟩
    case rest =>
    obtain ⟨a9, q9, HF⟩ := hcut
    obtain ⟨⟨y0, y1⟩, ⟨r0, r1⟩, -, -⟩ := HF.out.2.2.2
    have hMO := implMount_ok a' b' PS WS c' d' _ r0 r1 HRT.out
    have HMO := hide hMO
    clear hMO r0 r1 k0 k1 k2 HOA c0 fz0
    go_wp2_with fail
    refine HMO.out.mono ?_
    rintro e w6 ⟨v6, rfl, hf6, hb6⟩
    obtain ⟨a6, c6, b6, d6, e6, f6, rfl⟩ := hf6.shape
    have HPA := hide (HF.out.1.below hb6)
    obtain ⟨x0, ⟨z1, z2, z3, z4, x1, x2, x3, x4⟩, yf, hPl, -⟩ := HPA.out.cells
    have yf1 := yf 1
    have yf2 := yf 2
    have yf3 := yf 3
    have yf4 := yf 4
    have hb1 := Nat.le_trans hbase HF.out.2.1.size
    have HFI := hide (HPA.out.mount hf6 hb1)
    have HFR := hide ((((Fr.of_below (P := P) (g1 := P) (g3 := P) HBC.out).trans HF.out.2.2.1).trans (Fr.of_below hb6)).trans HFI.out.2.2)
    have HBB := hide ((((HBC.out.mono HW.out.lt.2.2).trans HF.out.2.1).trans (hb6.mono hb1)).trans HFI.out.2.1)
    clear hf6 hb6 HMO yf y0 y1 HF x0
    go_wp2
    go_ret
    exact ⟨rfl, HBB.out, HFR.out, HFI.out.1.pw⟩
end Go.Proofs.YtdicjbabnknjhaaGreat
