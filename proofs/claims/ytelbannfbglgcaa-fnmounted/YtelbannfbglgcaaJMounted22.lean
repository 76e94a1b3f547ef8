/-
  Contract of the specification's l5Burn.
  Contract of the specification's l5Clean.
  Contracts of the specification's l4Copy, and of FreeBlocks of a chip that is not right.
-/
import Derived.Test.YtelbannfbglgcaaJMounted21
import Derived.Test.YtelbannfbglgcaaJMounted11
import Derived.Test.YtelbannfbglgcaaJMounted5
import Derived.Test.YtelbannfbglgcaaJMounted12
import Derived.Test.YtelbannfbglgcaaJMounted8
import Derived.Test.YtelbannfbglgcaaJMounted9
import Derived.Deep.RegionHeldLaw
import Derived.Deep.RegionLawGrows
namespace Go.Proofs.Ytelbannfbglgcaa
open Go.RowKit

set_option maxRecDepth 100000 in
set_option maxHeartbeats 3200000 in
theorem burn5_any (P base g1 k1 g2 k2 g3 k3 : Nat) (v4 : Option Addr) (k4 : Nat) (ps : List ByteArray) (ws : List Int) (cs : List (Int × Int × ByteArray)) (s : Int) (d : ByteArray) (w : World) (hW : WorkAt w P base g1 k1 g2 k2 g3 k3 v4 k4 ps ws (mMap ps) (mSeq ps) cs true) (hok : chipOkP ps ws) (hd : d.size ≤ maxLen) (hs0 : -9223372036854775808 ≤ s) (hs1 : s ≤ 9223372036854775807) (ha : cs.length ≤ 100000) :
    Calls Try.prog 136 #[.pointer (some ⟨P, 0, none⟩), .int .i64 s, .string d] w fun e w' => e = .returned (.tuple #[]) ∧ Below base w w' ∧ Fr P g1 g3 w w' ∧
      (∀ r, pBurn ps ws s d = some r → ∃ v4 k4, WorkAt w' P base g1 k1 g2 k2 g3 k3 v4 k4 r.1 ws (mMap r.1) (mSeq r.1) (cs ++ [r.2]) true) ∧ (pBurn ps ws s d = none → WorkAt w' P base g1 k1 g2 k2 g3 k3 v4 k4 ps ws (mMap ps) (mSeq ps) cs false) := by
  obtain ⟨i2, hi2, hz0, hz1, hz2⟩ := info_parts infoAct
  obtain ⟨⟨c0, c1, c2, c3, c4, c5⟩, fz⟩ := hW.cells
  have HN := hide (next_any (some ⟨g1, 0, none⟩) (some ⟨g2, 0, none⟩) ps ws k1 k2 w hW.rd.1 hW.rd.2.1 hok.1 hok.2.1)
  have HM := hide (mSeq_bd ps)
  have HNB := hide (nextP_bd ps ws)
  have HW := hide hW
  have HC := hide hok
  clear hW hok fz
  go_enter Try.func136, Try.ntmps136
  go_wp2_with fail
  refine HN.out.mono ?_
  rintro e w1 ⟨rfl, hb1⟩
  have HW1 := hide (HW.out.below hb1)
  obtain ⟨⟨d0, d1, d2, d3, d4, d5⟩, fz⟩ := HW1.out.cells
  have HT := hide (specRecText_any s (mSeq ps) d w1 hd hs0 hs1 (by have := HM.out; omega) (by have := HM.out; omega))
  clear HN c0 c1 c2 c3 c4 c5 fz
  go_wp2_with fail
  refine HT.out.mono ?_
  rintro e w2 ⟨rfl, hb2⟩
  have HW2 := hide (HW1.out.below hb2)
  have HB2 := hide (after hb1 hb2)
  have HBB := hide (HW.out.lt.2.2)
  clear HT d0 d1 d2 d3 d4 d5 hb1 hb2 HW HW1
  obtain ⟨⟨c0, c1, c2, c3, c4, c5⟩, fz⟩ := HW2.out.cells
  obtain ⟨N, hN⟩ : ∃ N, N = nextP ps ws := ⟨_, rfl⟩
  obtain ⟨T, hT⟩ : ∃ T, T = recT s (mSeq ps) d := ⟨_, rfl⟩
  obtain ⟨Q, hQ⟩ : ∃ Q, Q = mSeq ps := ⟨_, rfl⟩
  have HX := hide (And.intro hN (And.intro hT hQ))
  have HNB' := HNB.out
  rw [← hN] at HNB' ⊢
  rw [← hT]
  rw [← hQ] at c3
  have hQb : 1 ≤ Q ∧ Q ≤ 1000000000 := by rw [hQ]; exact HM.out
  have fz5 := fz 5
  have HFAIL : Hid (pBurn ps ws s d = none → Below base w (w2.setCell ⟨P, 5, none⟩ (.bool false)) ∧ Fr P g1 g3 w (w2.setCell ⟨P, 5, none⟩ (.bool false)) ∧ (∀ r, pBurn ps ws s d = some r → ∃ v4 k4, WorkAt (w2.setCell ⟨P, 5, none⟩ (.bool false)) P base g1 k1 g2 k2 g3 k3 v4 k4 r.1 ws (mMap r.1) (mSeq r.1) (cs ++ [r.2]) true) ∧ (pBurn ps ws s d = none → WorkAt (w2.setCell ⟨P, 5, none⟩ (.bool false)) P base g1 k1 g2 k2 g3 k3 v4 k4 ps ws (mMap ps) (mSeq ps) cs false)) := by
    intro hn
    have h5 := HW2.out.flag false
    refine ⟨(HB2.out.mono HBB.out).trans h5.2, (Fr.of_below HB2.out).set (.inl rfl) _ _, ?_, fun _ => h5.1⟩
    intro r hr
    rw [hn] at hr
    cases hr
  clear hN hT hQ HNB
  by_cases h0 : N < 0
  · have HZ := hide (HFAIL.out (pBurn_none (.inl (by rw [← HX.out.1]; exact h0))))
    clear HFAIL
    go_wp2
    exact bodyPost_ret (v := .tuple #[]) (by simp [results, Try.results136]) rfl ⟨rfl, HZ.out⟩
  obtain ⟨p, rfl⟩ : ∃ p : Nat, N = p := ⟨N.toNat, by omega⟩
  cases hrk : recOkB s (mSeq ps) d with
  | false =>
    have HZ := hide (HFAIL.out (pBurn_none (.inr (.inl hrk))))
    have hTe : T = ByteArray.empty := by rw [HX.out.2.1]; exact recT_none hrk
    subst hTe
    clear HFAIL hrk
    go_wp2
    exact bodyPost_ret (v := .tuple #[]) (by simp [results, Try.results136]) rfl ⟨rfl, HZ.out⟩
  | true =>
    have hTi : T.toList.isEmpty = false := isEmpty_str (by rw [HX.out.2.1]; exact recT_some hrk)
    by_cases hQm : Q = 1000000000
    · have HZ := hide (HFAIL.out (pBurn_none (.inr (.inr (by rw [← HX.out.2.2]; exact hQm)))))
      subst hQm
      clear HFAIL hrk
      go_wp2
      exact bodyPost_ret (v := .tuple #[]) (by simp [results, Try.results136]) rfl ⟨rfl, HZ.out⟩
    have hQt : (Q == 1000000000) = false := by simpa using hQm
    have hsec := (recOkB_iff.1 hrk).1
    obtain ⟨S, rfl⟩ : ∃ S : Nat, s = S := ⟨s.toNat, by omega⟩
    have HR := hide (pBurn_some (p := p) HX.out.1.symm hrk (by rw [← HX.out.2.2]; exact hQm))
    have HMT := hide (pBurn_mount (p := p) HC.out.1 HX.out.1.symm hrk (by rw [← HX.out.2.2]; exact hQm))
    rw [← HX.out.2.1] at HR HMT
    rw [← HX.out.2.2] at HMT
    obtain ⟨hn1, hn2, hn3, hn4, hn5, hn6, hn7, hn8, hn9⟩ := HW2.out.ne
    have m1 : ¬ g1 = P := hn1
    have m2 : ¬ P = g1 := fun e => hn1 e.symm
    have m3 : ¬ g3 = P := hn3
    have m4 : ¬ P = g3 := fun e => hn3 e.symm
    have m5 : ¬ g1 = g3 := hn6
    have m6 : ¬ g3 = g1 := fun e => hn6 e.symm
    have hoA := HW2.out.2.2.2.2.2.1
    have hbase : base ≤ w2.heap.size := HW2.out.lt.2.2
    have hl : 60 ≤ ps.length ∧ ps.length ≤ 60 := by have := HC.out.1; omega
    have hml : 26 ≤ (mMap ps).length ∧ (mMap ps).length ≤ 26 := by have := mMap_len ps; omega
    have hpg : w2.cell? ⟨g1, p, none⟩ = some (.string ByteArray.empty) := by
      have h1 := HW2.out.2.2.1.cellAt p (by omega)
      rw [h1, List.getElem?_map, (next_clear HC.out.1 HX.out.1.symm).2]
      rfl
    have hfg := HW2.out.2.2.1.frozenAt p
    obtain ⟨z, hzc⟩ : ∃ z, w2.cell? ⟨g3, S, none⟩ = some z := by
      have h1 := HW2.out.2.2.2.2.1.cellAt S (by omega)
      rw [h1]
      exact ⟨_, List.getElem?_eq_getElem (by rw [List.length_map]; omega)⟩
    have hfm := HW2.out.2.2.2.2.1.frozenAt S
    have fz4 := fz 4
    have fz3 := fz 3
    have HE := hide (And.intro hn4 (And.intro hn7 hn9))
    clear hQm hrk hn1 hn2 hn3 hn4 hn5 hn6 hn7 hn8 hn9 HFAIL h0
    go_wp2_with (at_builtin; go_must (refine wpList_append_act rfl _ _ 63 rfl base 68 i2 (.agg #[.int .i64 0, .int .i64 0, .string ⟨#[]⟩]) 32 Try.underlying63 hi2 hz0 hz1 hz2 rfl _ _ _ (.int .i64 1) (.int .i64 p) (.string T) rfl hoA ⟨rfl, rfl, rfl⟩ rfl (by omega) (by omega) hbase rfl ?_); intro v' u hown hg; obtain ⟨a4, q4, rfl, hA, hbA⟩ := HW2.out.act (1, (p : Int), T) hg hown; have HA := hide (And.intro hA hbA); have HFR := hide (Fr.trans (P := P) (g1 := g1) (g3 := g3) (Fr.of_below HB2.out) (Fr.grown hg HW2.out.2.2.2.2.2.1)); clear hA hbA hown; have b0 := hg.cell c0 (fun e => HE.out.1 e.symm); have b2 := hg.cell c2 (fun e => HE.out.1 e.symm); have b3 := hg.cell c3 (fun e => HE.out.1 e.symm); have b4 := hg.cell c4 (fun e => HE.out.1 e.symm); have bp := hg.cell hpg (fun e => HE.out.2.1 e.symm); have bm := hg.cell hzc (fun e => HE.out.2.2 e.symm); have bf4 := (frozen_far hg ⟨P, 4, none⟩ HW2.out.lt.1 (fun e => HE.out.1 e.symm)).trans fz4; have bf3 := (frozen_far hg ⟨P, 3, none⟩ HW2.out.lt.1 (fun e => HE.out.1 e.symm)).trans fz3; have bfp := (frozen_far hg ⟨g1, p, none⟩ (lt_of_cell hpg) (fun e => HE.out.2.1 e.symm)).trans hfg; have bfm := (frozen_far hg ⟨g3, S, none⟩ (lt_of_cell hzc) (fun e => HE.out.2.2 e.symm)).trans hfm; clear c0 c1 c2 c3 c4 c5 hpg hzc fz4 fz3 hfg hfm hg hoA fz fz5)
    rw [List.length_append, List.length_singleton] at HA
    have h1 := HA.out.1.page p T
    have h2 := h1.1.map S (p : Int)
    have h3 := h2.1.seq (Q + 1)
    have hbF := (((HB2.out.mono HBB.out).trans HA.out.2).trans h1.2).trans (h2.2.trans h3.2)
    refine bodyPost_end (v := .tuple #[]) ?_ rfl ?_
    · exact results_none Try.results136 _ _ _
    · refine ⟨rfl, hbF, (((HFR.out.set (.inl rfl) _ _).set (.inr (.inl rfl)) _ _).set (.inr (.inr rfl)) _ _).set (.inl rfl) _ _, ?_, fun hn => by rw [HR.out] at hn; cases hn⟩
      intro r hr
      rw [HR.out] at hr
      injection hr with hr
      subst hr
      have hm := HMT.out
      rw [Int.toNat_natCast] at hm
      rw [hm.1, hm.2]
      exact ⟨_, _, h3.1⟩
end Go.Proofs.Ytelbannfbglgcaa

namespace Go.Proofs.Ytelbannfbglgcaa
open Go.RowKit

/-- Work that failed. -/
def Failed (w : World) (P base : Nat) : Prop := ∃ v4 k4 cs, ActsAt w P base v4 k4 cs false
/-- A record in a variable of its own. -/
def RecBox (W u : World) (p : Nat) (s q : Int) (d : ByteArray) : Prop :=
  (u.cell? ⟨p, 0, none⟩ = some (.int .i64 s) ∧ u.cell? ⟨p, 1, none⟩ = some (.int .i64 q) ∧ u.cell? ⟨p, 2, none⟩ = some (.string d)) ∧ W.heap.size ≤ p ∧ Below W.heap.size W u
theorem recBox_late {W w1 : World} {s q : Int} {d : ByteArray} {t : TypeId} (hb : Below W.heap.size W w1) : RecBox W (w1.alloc (Obj.cells #[.int .i64 s, .int .i64 q, .string d] t)) w1.heap.size s q d :=
  ⟨⟨by simp, by simp, by simp⟩, hb.size, hb.alloc hb.size _⟩
theorem recBox_early {W w1 : World} {p : Nat} {s q : Int} {d : ByteArray} {x y z : Value} (hb : Below W.heap.size W w1) (hp : W.heap.size ≤ p) (h : w1.cell? ⟨p, 0, none⟩ = some x ∧ w1.cell? ⟨p, 1, none⟩ = some y ∧ w1.cell? ⟨p, 2, none⟩ = some z) :
    RecBox W (((w1.setCell ⟨p, 0, none⟩ (.int .i64 s)).setCell ⟨p, 1, none⟩ (.int .i64 q)).setCell ⟨p, 2, none⟩ (.string d)) p s q d := by
  refine ⟨⟨?_, ?_, ?_⟩, hp, ((hb.setCell hp _).setCell hp _).setCell hp _⟩
  · simp [go_sem, World.cell?_setCell_same _ _ _ h.1]
  · have : (w1.setCell ⟨p, 0, none⟩ (.int .i64 s)).cell? ⟨p, 1, none⟩ = some y := by simpa [go_sem] using h.2.1
    simp [go_sem, World.cell?_setCell_same _ _ _ this]
  · have : ((w1.setCell ⟨p, 0, none⟩ (.int .i64 s)).setCell ⟨p, 1, none⟩ (.int .i64 q)).cell? ⟨p, 2, none⟩ = some z := by simpa [go_sem] using h.2.2
    exact World.cell?_setCell_same _ _ _ this
theorem no_some {α : Type} {x : Option α} {p : α → Prop} (h : x = none) : ∀ r, x = some r → p r := fun r hr => by rw [h] at hr; cases hr
theorem yes_some {α : Type} {x : Option α} {p : α → Prop} {r0 : α} (h : x = some r0) (hp : p r0) : ∀ r, x = some r → p r := fun r hr => by rw [h] at hr; injection hr with hr; subst hr; exact hp
theorem not_none {α : Type} {x : Option α} {p : Prop} {r0 : α} (h : x = some r0) : x = none → p := fun hr => by rw [h] at hr; cases hr
/-- The state of the loop over what lives in a block. -/
def CLs (wr : World) (P base g1 k1 g2 k2 g3 k3 B : Nat) (ws : List Int) (L : List Int) (M : Option (List ByteArray × List (Int × Int × ByteArray))) (n k : Nat) : Prop :=
  (∃ v4 k4 ps cs, WorkAt wr P base g1 k1 g2 k2 g3 k3 v4 k4 ps ws (mMap ps) (mSeq ps) cs true ∧ chipOkP ps ws ∧ pMove B ws (L.drop k) ps cs = M ∧ cs.length = n + k) ∨
  (M = none ∧ ∃ v4 k4 ps cs, WorkAt wr P base g1 k1 g2 k2 g3 k3 v4 k4 ps ws (mMap ps) (mSeq ps) cs false)
theorem rec_size {t : ByteArray} {s q : Int} {d : ByteArray} (h : recR t = some (s, q, d)) : d.size ≤ 400 := (recOkB_iff.1 (recR_some h).1).2.2
theorem recC_size (ps : List ByteArray) (p : Nat) : (recC ps p).2.2.size ≤ 400 ∧ 0 ≤ (recC ps p).1 ∧ (recC ps p).1 ≤ 25 := by
  cases h : recR (ps[p]?.getD ByteArray.empty) with
  | none => rw [recC_none h]; exact ⟨by decide, by decide, by decide⟩
  | some r => obtain ⟨s, q, d⟩ := r; rw [recC_some h]; have := recR_sector h; exact ⟨rec_size h, this.1, this.2.1⟩

set_option maxRecDepth 100000 in
set_option maxHeartbeats 25600000 in
theorem clean5_any (P base B : Nat) (ps : List ByteArray) (ws : List Int) (cs : List (Int × Int × ByteArray)) (w : World) (hW : Work w P base ps ws (mMap ps) (mSeq ps) cs true) (hok : chipOkP ps ws) (hB : B < 10) (ha : cs.length ≤ 50000) :
    Calls Try.prog 140 #[.pointer (some ⟨P, 0, none⟩), .int .i64 B] w fun e w' => e = .returned (.tuple #[]) ∧ Below base w w' ∧
      (∀ r, pClean B ps ws cs = some r → Work w' P base r.1 r.2.1 (mMap r.1) (mSeq r.1) r.2.2 true) ∧ (pClean B ps ws cs = none → Failed w' P base) := by
  obtain ⟨i2, hi2, hz0, hz1, hz2⟩ := info_parts infoAct
  obtain ⟨g1, k1, g2, k2, g3, k3, v4, k4, hW⟩ := hW
  obtain ⟨⟨c0, c1, c2, c3, c4, c5⟩, -⟩ := hW.cells
  have HL := hide (lives_any (.slice (some ⟨g1, 0, none⟩) ps.length k1) (.slice (some ⟨g2, 0, none⟩) ws.length k2) (some ⟨g3, 0, none⟩) (mMap ps) k3 B (mSeq ps) w hW.rd.2.2 (by rw [mMap_len]; decide) hB)
  obtain ⟨L, hL⟩ : ∃ L, L = livesU (mMap ps) B 6 := ⟨_, rfl⟩
  have hLl : L.length ≤ 156 := by have := livesU_len (mMap ps) B 6; rw [mMap_len, ← hL] at this; omega
  have HLB : Hid (∀ x ∈ L, 0 ≤ x ∧ x < 60) := by
    show ∀ x ∈ L, _
    rw [hL]
    intro x hx
    have := lives_bd 6 x hx
    omega
  rw [← hL] at HL
  obtain ⟨M, hM⟩ : ∃ M, M = pMove B ws L ps cs := ⟨_, rfl⟩
  have HPC : Hid (pClean B ps ws cs = pCleanOf B ws M) := by show _ = _; rw [hM, hL]; exact pClean_of B ps ws cs
  have HW := hide hW
  have HM := hide hM
  have HOK := hide hok
  have hPn := hW.ne
  have hPlt := hW.lt
  have hg1 := (owns_lt hW.2.2.1).2
  have hg3 := (owns_lt hW.2.2.2.2.1).2
  have HG := hide (And.intro hPn (And.intro hPlt (And.intro hg1 hg3)))
  clear hW hok hL hM hPn hPlt hg1 hg3
  go_enter Try.func140, Try.ntmps140
  go_wp2_with fail
  refine HL.out.mono ?_
  rintro e w1 ⟨v, rfl, hown, hb1⟩
  obtain ⟨aL, cL, rfl⟩ := owns_shape hown
  have HW1 := hide (HW.out.below hb1)
  have HO1 := hide hown
  have HB1 := hide ((hb1.mono HG.out.2.1.2.2))
  clear HL c0 c1 c2 c3 c4 c5 hown hb1
  go_wp2_with fail
  go_loopw [5] (fun i wr => ∃ k : Nat, k ≤ L.length ∧ i = .int .i64 k ∧ Hid (CLs wr P base g1 k1 g2 k2 g3 k3 B ws L M cs.length k) ∧ Hid (Below base w wr) ∧ Hid (wr.ownsRow w.heap.size 3 1 (.slice aL L.length cL) L.length (vsInt L))) (fun i _ => L.length - (intOf i).toNat)
  case atStart => exact ⟨0, Nat.zero_le _, rfl, .inl ⟨_, _, ps, cs, HW1.out, HOK.out, HM.out.symm, rfl⟩, HB1.out, HO1.out⟩
  case round =>
    obtain ⟨k, hk, rfl, hst, hbr, hor⟩ := hrel
    clear HW1 HO1 HB1
    rcases hst.out with ⟨v5, k5, pk, ck, hw, hok, hmv, hck⟩ | ⟨hMn, v5, k5, pk, ck, hw⟩
    · obtain ⟨⟨c0, c1, c2, c3, c4, c5⟩, fz⟩ := hw.cells
      have HWK := hide hw
      have HOKk := hide hok
      have HMV := hide hmv
      have HCK := hide hck
      clear hst hw hok hmv hck
      by_cases hlt : k < L.length
      · have t1 : decide ((k : Int) < (L.length : Int)) = true := by simpa using hlt
        obtain ⟨bL, oL, x, rfl, hcx, HX⟩ := rdInt_at (rd_of_own hor.out) hlt
        obtain ⟨hx0, hx1⟩ := HLB.out x (List.mem_of_getElem? HX.out)
        obtain ⟨X, rfl⟩ : ∃ X : Nat, x = X := ⟨x.toNat, by omega⟩
        have hXl : X < pk.length := by have := HOKk.out.1; omega
        obtain ⟨bp, op, t, hbp, hct, HT⟩ := rdString_at HWK.out.rd.1 hXl
        simp at hbp
        obtain ⟨rfl, rfl⟩ := hbp
        rw [Nat.zero_add] at hct
        have ht : Hid (t.size ≤ 1048576) := by have := HOKk.out.2.2.1 t (List.mem_of_getElem? HT.out); show _ ≤ _; omega
        have he : pk[X]?.getD ByteArray.empty = t := by rw [HT.out]; rfl
        obtain ⟨s, q', d, Bo, he2, hcall⟩ : ∃ (s q : Int) (d : ByteArray) (B : Bool), Hid (recC pk X = (s, q, d)) ∧ Hid (∀ u, Calls Try.prog 75 #[.string t] u fun e w' => e = .returned (.tuple #[.agg #[.int .i64 s, .int .i64 q, .string d], .bool B]) ∧ Below u.heap.size u w') := by
          cases hr : recR t with
          | none => exact ⟨0, 0, ByteArray.empty, false, recC_none (by rw [he]; exact hr), fun u => (specRecRead_any t u ht.out).mono fun e w' h => ⟨h.2.1 hr, h.2.2⟩⟩
          | some r => obtain ⟨s, q, d⟩ := r; exact ⟨s, q, d, true, recC_some (by rw [he]; exact hr), fun u => (specRecRead_any t u ht.out).mono fun e w' h => ⟨h.1 s q d hr, h.2.2⟩⟩
        have hltP := lt_of_cell c0
        have hltx := lt_of_cell hcx
        have hltt := lt_of_cell hct
        have HK : Hid (∀ u, Below wr.heap.size wr.drew u → u.cell? ⟨P, 0, none⟩ = some (.slice (some ⟨g1, 0, none⟩) pk.length k1) ∧ u.cell? ⟨bL, oL + k, none⟩ = some (.int .i64 X) ∧ u.cell? ⟨g1, X, none⟩ = some (.string t)) := fun u hu =>
          ⟨(hu.cell (p := ⟨P, 0, none⟩) hltP).trans (by simpa using c0), (hu.cell (p := ⟨bL, oL + k, none⟩) hltx).trans (by simpa using hcx), (hu.cell (p := ⟨g1, X, none⟩) hltt).trans (by simpa using hct)⟩
        have m1 : wr.heap.size ≠ P := by omega
        have m2 : wr.heap.size ≠ bL := by omega
        have m3 : wr.heap.size ≠ g1 := by omega
        have hXI : (X : Int) < (pk.length : Int) := by omega
        have hkI : (k : Int) < (L.length : Int) := by omega
        have HN : Hid (∀ u, Below wr.heap.size wr u → Calls Try.prog 87 #[.agg #[.slice (some ⟨g1, 0, none⟩) pk.length k1, .slice (some ⟨g2, 0, none⟩) ws.length k2]] u fun e w' => e = .returned (.int .i64 (nextP pk ws)) ∧ Below u.heap.size u w') := fun u hu =>
          next_any _ _ pk ws k1 k2 u (HWK.out.below hu).rd.1 (HWK.out.below hu).rd.2.1 HOKk.out.1 HOKk.out.2.1
        have HSD : Hid (d.size ≤ 400 ∧ 0 ≤ s ∧ s ≤ 25) := by have := recC_size pk X; rw [he2.out] at this; exact this
        have HDR : Hid (L.drop k = (X : Int) :: L.drop (k + 1)) := by
          have h := HX.out
          rw [List.getElem?_eq_getElem hlt] at h
          injection h with h
          show _ = _
          rw [List.drop_eq_getElem_cons hlt, h]
        have hNb := nextP_bd pk ws
        have HML := hide (HCK.out)
        have hckl : ck.length ≤ 60000 := by have := HCK.out; omega
        have HTL := hide (And.intro ht.out (And.intro HT.out he))
        clear hx0 hx1 ht HT he hltP hltx hltt
        go_wp2_with fail
        go_region_held (fun w' => w'.cell? ⟨P, 0, none⟩ = some (.slice (some ⟨g1, 0, none⟩) pk.length k1) ∧ w'.cell? ⟨bL, oL + k, none⟩ = some (.int .i64 X) ∧ w'.cell? ⟨g1, X, none⟩ = some (.string t)) (first | assumption | go_keep | exact ⟨set3_keep hK1.1 m1, set3_keep hK1.2.1 m2, set3_keep hK1.2.2 m3⟩)
          ((first
            | (go_at_call 75; refine (hcall.out (wr.alloc (Obj.cells #[.int .i64 0, .int .i64 0, .string ⟨#[]⟩] 50)).drew).mono ?_; rintro e w2 ⟨rfl, hb2⟩; obtain ⟨HBA, ⟨n0, n1, n2⟩, nf⟩ := sec_aux hb2; have hK1 := HK.out w2 HBA.out; clear hb2)
            | (go_at_call 75; refine (hcall.out wr.drew).mono ?_; rintro e w2 ⟨rfl, hb2⟩; have hK1 := HK.out w2 hb2; have HBA : Hid (Below wr.heap.size wr.drew w2) := hb2; clear hb2)))
        · have HBX := hide (recBox_late (s := s) (q := q') (d := d) (t := 50) (show Below wr.heap.size wr w2 from (after_drew (Below.refl _ _) 1).trans HBA.out))
          clear HBA hK1 HK hcall
          generalize w2.alloc (Obj.cells #[.int .i64 s, .int .i64 q', .string d] 50) = U at HBX ⊢
          generalize w2.heap.size = pr at HBX ⊢
          obtain ⟨⟨r0, r1, r2⟩, hpr, hbU⟩ := HBX.out
          have HBU := hide hbU
          have HWU := hide (HWK.out.below hbU)
          clear HBX hbU
          obtain ⟨⟨d0, d1, d2, d3, d4, d5⟩, -⟩ := HWU.out.cells
          clear c0 c1 c2 c3 c4 c5 fz hcx hct
          have hprU := lt_of_cell r0
          go_wp2_with fail
          refine (HN.out U HBU.out).mono ?_
          rintro e w3 ⟨rfl, hb3⟩
          have q0 := (hb3.cell (p := ⟨pr, 0, none⟩) hprU).trans r0
          have q2 := (hb3.cell (p := ⟨pr, 2, none⟩) hprU).trans r2
          have HW3 := hide (HWU.out.below hb3)
          have HB3 := hide (after HBU.out hb3)
          obtain ⟨⟨e0, e1, e2, e3, e4, e5⟩, fz⟩ := HW3.out.cells
          have fz5 := fz 5
          have HO3 := hide (owns_below hor.out HB3.out)
          clear HN d0 d1 d2 d3 d4 d5 r0 r1 r2 hb3 HWU HBU fz hprU
          obtain ⟨N, hN⟩ : ∃ N, N = nextP pk ws := ⟨_, rfl⟩
          rw [← hN] at hNb ⊢
          have HNN := hide hN
          clear hN
          have HFZ : Hid (pClean B ps ws cs = none → Below base w (w3.setCell ⟨P, 5, none⟩ (.bool false)) ∧ Failed (w3.setCell ⟨P, 5, none⟩ (.bool false)) P base) := fun _ =>
            ⟨(hbr.out.trans (HB3.out.mono HWK.out.lt.2.2)).trans (HW3.out.flag false).2, _, _, _, (HW3.out.flag false).1.acts⟩
          by_cases hno : N < 0 ∨ N / 6 = (B : Int)
          · have HPN : Hid (pClean B ps ws cs = none) := by
              show _ = _
              rw [HPC.out, ← HMV.out, HDR.out]
              simp only [pMove]
              rw [if_pos (by rw [← HNN.out]; exact hno)]
              rfl
            by_cases h0 : N < 0
            · clear hno
              have t3 : decide (N < 0) = true := by simpa using h0
              go_wp2
              exact bodyPost_ret (v := .tuple #[]) (results_none Try.results140 _ _ _) rfl ⟨rfl, (HFZ.out HPN.out).1, no_some HPN.out, fun _ => (HFZ.out HPN.out).2⟩
            · have h6 : N / 6 = (B : Int) := by omega
              obtain ⟨n, rfl⟩ : ∃ n : Nat, N = n := ⟨N.toNat, by omega⟩
              have t3 : decide ((n : Int) < 0) = false := by simp
              have hq6 : Int.tdiv (n : Int) 6 = (B : Int) := by rw [Int.tdiv_eq_ediv_of_nonneg (by omega)]; exact h6
              clear hno
              go_wp2
              exact bodyPost_ret (v := .tuple #[]) (results_none Try.results140 _ _ _) rfl ⟨rfl, (HFZ.out HPN.out).1, no_some HPN.out, fun _ => (HFZ.out HPN.out).2⟩
          · obtain ⟨n, rfl⟩ : ∃ n : Nat, N = n := ⟨N.toNat, by omega⟩
            have t3 : decide ((n : Int) < 0) = false := by simp
            have h6 : ¬ (n : Int) / 6 = (B : Int) := by omega
            have t4 : ((n : Int) / 6 == (B : Int)) = false := by simpa using h6
            have t5 : (Int.tdiv (n : Int) 6 == (B : Int)) = false := by rw [Int.tdiv_eq_ediv_of_nonneg (by omega)]; exact t4
            have HM2 : Hid (M = match pBurn pk ws s d with | none => none | some r => pMove B ws (L.drop (k + 1)) r.1 (ck ++ [r.2])) := by
              show _ = _
              have h := HMV.out
              rw [HDR.out] at h
              simp only [pMove] at h
              rw [if_neg (by rw [← HNN.out]; exact hno), Int.toNat_natCast, he2.out] at h
              exact h.symm
            have HBN := hide (burn5_any P base g1 k1 g2 k2 g3 k3 v5 k5 pk ws ck s d w3 HW3.out HOKk.out (by have := HSD.out.1; unfold maxLen; omega) (by have := HSD.out.2.1; omega) (by have := HSD.out.2.2; omega) (by omega))
            clear hno h6
            go_wp2_with fail
            refine HBN.out.mono ?_
            rintro e w4 ⟨rfl, hb4, hfr, hy, hn⟩
            have HB4 : Hid (Below base w w4) := (hbr.out.trans (HB3.out.mono HWK.out.lt.2.2)).trans hb4
            have HO4 := hide (hfr.row HO3.out (by decide) (fun j hj => by
              have h1 := (HO3.out.lt j hj).1
              have := HG.out.2.1.1
              have := HG.out.2.2.1
              have := HG.out.2.2.2
              omega))
            have HS4 : Hid (CLs w4 P base g1 k1 g2 k2 g3 k3 B ws L M cs.length (k + 1)) := by
              cases hb : pBurn pk ws s d with
              | none =>
                rw [hb] at HM2
                exact .inr ⟨HM2.out, _, _, _, _, hn hb⟩
              | some r =>
                rw [hb] at HM2
                obtain ⟨v6, k6, h6⟩ := hy r hb
                exact .inl ⟨_, _, _, _, h6, pBurn_right HOKk.out hb, HM2.out.symm, by rw [List.length_append, HCK.out]; rfl⟩
            clear hb4 hfr hy hn HBN HM2 e0 e1 e2 e3 e4 e5 fz5 q0 q2
            go_wp2
            exact ⟨⟨k + 1, by omega, by go_num, HS4, HB4, HO4⟩, by simp [intOf]; omega⟩
        · have HBX := hide (recBox_early (s := s) (q := q') (d := d) (show Below wr.heap.size wr w2 from (after_drew (Below.refl _ _) 1).trans HBA.out) (Nat.le_refl _) ⟨n0, n1, n2⟩)
          clear HBA hK1 HK hcall n0 n1 n2 nf
          generalize ((w2.setCell ⟨wr.heap.size, 0, none⟩ (.int .i64 s)).setCell ⟨wr.heap.size, 1, none⟩ (.int .i64 q')).setCell ⟨wr.heap.size, 2, none⟩ (.string d) = U at HBX ⊢
          obtain ⟨pr, hpr⟩ : ∃ pr, pr = wr.heap.size := ⟨_, rfl⟩
          have HBX : Hid (RecBox wr U pr s q' d) := by rw [hpr]; exact HBX.out
          rw [← hpr]
          clear hpr
          obtain ⟨⟨r0, r1, r2⟩, hpr, hbU⟩ := HBX.out
          have HBU := hide hbU
          have HWU := hide (HWK.out.below hbU)
          clear HBX hbU
          obtain ⟨⟨d0, d1, d2, d3, d4, d5⟩, -⟩ := HWU.out.cells
          clear c0 c1 c2 c3 c4 c5 fz hcx hct
          have hprU := lt_of_cell r0
          go_wp2_with fail
          refine (HN.out U HBU.out).mono ?_
          rintro e w3 ⟨rfl, hb3⟩
          have q0 := (hb3.cell (p := ⟨pr, 0, none⟩) hprU).trans r0
          have q2 := (hb3.cell (p := ⟨pr, 2, none⟩) hprU).trans r2
          have HW3 := hide (HWU.out.below hb3)
          have HB3 := hide (after HBU.out hb3)
          obtain ⟨⟨e0, e1, e2, e3, e4, e5⟩, fz⟩ := HW3.out.cells
          have fz5 := fz 5
          have HO3 := hide (owns_below hor.out HB3.out)
          clear HN d0 d1 d2 d3 d4 d5 r0 r1 r2 hb3 HWU HBU fz hprU
          obtain ⟨N, hN⟩ : ∃ N, N = nextP pk ws := ⟨_, rfl⟩
          rw [← hN] at hNb ⊢
          have HNN := hide hN
          clear hN
          have HFZ : Hid (pClean B ps ws cs = none → Below base w (w3.setCell ⟨P, 5, none⟩ (.bool false)) ∧ Failed (w3.setCell ⟨P, 5, none⟩ (.bool false)) P base) := fun _ =>
            ⟨(hbr.out.trans (HB3.out.mono HWK.out.lt.2.2)).trans (HW3.out.flag false).2, _, _, _, (HW3.out.flag false).1.acts⟩
          by_cases hno : N < 0 ∨ N / 6 = (B : Int)
          · have HPN : Hid (pClean B ps ws cs = none) := by
              show _ = _
              rw [HPC.out, ← HMV.out, HDR.out]
              simp only [pMove]
              rw [if_pos (by rw [← HNN.out]; exact hno)]
              rfl
            by_cases h0 : N < 0
            · clear hno
              have t3 : decide (N < 0) = true := by simpa using h0
              go_wp2
              exact bodyPost_ret (v := .tuple #[]) (results_none Try.results140 _ _ _) rfl ⟨rfl, (HFZ.out HPN.out).1, no_some HPN.out, fun _ => (HFZ.out HPN.out).2⟩
            · have h6 : N / 6 = (B : Int) := by omega
              obtain ⟨n, rfl⟩ : ∃ n : Nat, N = n := ⟨N.toNat, by omega⟩
              have t3 : decide ((n : Int) < 0) = false := by simp
              have hq6 : Int.tdiv (n : Int) 6 = (B : Int) := by rw [Int.tdiv_eq_ediv_of_nonneg (by omega)]; exact h6
              clear hno
              go_wp2
              exact bodyPost_ret (v := .tuple #[]) (results_none Try.results140 _ _ _) rfl ⟨rfl, (HFZ.out HPN.out).1, no_some HPN.out, fun _ => (HFZ.out HPN.out).2⟩
          · obtain ⟨n, rfl⟩ : ∃ n : Nat, N = n := ⟨N.toNat, by omega⟩
            have t3 : decide ((n : Int) < 0) = false := by simp
            have h6 : ¬ (n : Int) / 6 = (B : Int) := by omega
            have t4 : ((n : Int) / 6 == (B : Int)) = false := by simpa using h6
            have t5 : (Int.tdiv (n : Int) 6 == (B : Int)) = false := by rw [Int.tdiv_eq_ediv_of_nonneg (by omega)]; exact t4
            have HM2 : Hid (M = match pBurn pk ws s d with | none => none | some r => pMove B ws (L.drop (k + 1)) r.1 (ck ++ [r.2])) := by
              show _ = _
              have h := HMV.out
              rw [HDR.out] at h
              simp only [pMove] at h
              rw [if_neg (by rw [← HNN.out]; exact hno), Int.toNat_natCast, he2.out] at h
              exact h.symm
            have HBN := hide (burn5_any P base g1 k1 g2 k2 g3 k3 v5 k5 pk ws ck s d w3 HW3.out HOKk.out (by have := HSD.out.1; unfold maxLen; omega) (by have := HSD.out.2.1; omega) (by have := HSD.out.2.2; omega) (by omega))
            clear hno h6
            go_wp2_with fail
            refine HBN.out.mono ?_
            rintro e w4 ⟨rfl, hb4, hfr, hy, hn⟩
            have HB4 : Hid (Below base w w4) := (hbr.out.trans (HB3.out.mono HWK.out.lt.2.2)).trans hb4
            have HO4 := hide (hfr.row HO3.out (by decide) (fun j hj => by
              have h1 := (HO3.out.lt j hj).1
              have := HG.out.2.1.1
              have := HG.out.2.2.1
              have := HG.out.2.2.2
              omega))
            have HS4 : Hid (CLs w4 P base g1 k1 g2 k2 g3 k3 B ws L M cs.length (k + 1)) := by
              cases hb : pBurn pk ws s d with
              | none =>
                rw [hb] at HM2
                exact .inr ⟨HM2.out, _, _, _, _, hn hb⟩
              | some r =>
                rw [hb] at HM2
                obtain ⟨v6, k6, h6⟩ := hy r hb
                exact .inl ⟨_, _, _, _, h6, pBurn_right HOKk.out hb, HM2.out.symm, by rw [List.length_append, HCK.out]; rfl⟩
            clear hb4 hfr hy hn HBN HM2 e0 e1 e2 e3 e4 e5 fz5 q0 q2
            go_wp2
            exact ⟨⟨k + 1, by omega, by go_num, HS4, HB4, HO4⟩, by simp [intOf]; omega⟩
      · have hkL : k = L.length := by omega
        subst hkL
        have t1 : decide ((L.length : Int) < (L.length : Int)) = false := by simp
        have hMs : M = some (pk, ck) := by rw [← HMV.out, List.drop_length]; rfl
        rw [hMs] at HPC
        have hlen : ws.length = 10 := HOKk.out.2.1
        have hBl : B < ws.length := by omega
        obtain ⟨bw, ow, x, hbw, hcw, HXW⟩ := rdInt_at HWK.out.rd.2.1 hBl
        simp at hbw
        obtain ⟨rfl, rfl⟩ := hbw
        rw [Nat.zero_add] at hcw
        have hgx : ws[B]?.getD 0 = x := by rw [HXW.out]; rfl
        have fz5 := fz 5
        have hBI : (B : Int) < (ws.length : Int) := by omega
        have HPC2 : Hid (pClean B ps ws cs = if x = 1000000000 then none else some (wipeP pk B 6, ws.set B (x + 1), ck ++ [(2, (B : Int), ByteArray.empty)])) := by
          show _ = _
          rw [HPC.out, ← hgx]
          rfl
        clear hMs HMV HPC hgx
        by_cases hx : x = 1000000000
        · rw [if_pos hx] at HPC2
          subst hx
          have h5 := HWK.out.flag false
          have HZ : Hid (Below base w (wr.setCell ⟨P, 5, none⟩ (.bool false)) ∧ Failed (wr.setCell ⟨P, 5, none⟩ (.bool false)) P base) := ⟨hbr.out.trans h5.2, _, _, _, h5.1.acts⟩
          clear h5 hlen
          go_wp2
          exact bodyPost_ret (v := .tuple #[]) (results_none Try.results140 _ _ _) rfl ⟨rfl, HZ.out.1, no_some HPC2.out, fun _ => HZ.out.2⟩
        · rw [if_neg hx] at HPC2
          have hxe : (x == 1000000000) = false := by simpa using hx
          have hxb := HOKk.out.2.2.2 x (List.mem_of_getElem? HXW.out)
          have hoA := HWK.out.2.2.2.2.2.1
          have hbase : base ≤ wr.heap.size := HWK.out.lt.2.2
          have hckl : ck.length ≤ 60000 := by have := HCK.out; omega
          obtain ⟨hn1, hn2, hn3, hn4, hn5, hn6, hn7, hn8, hn9⟩ := HWK.out.ne
          have HE := hide (And.intro hn4 (And.intro hn7 (And.intro hn8 (And.intro hn1 (And.intro hn2 hn5)))))
          have fz4 := fz 4
          have HX2 := hide (And.intro hxb hx)
          clear hn1 hn2 hn3 hn4 hn5 hn6 hn7 hn8 hn9 hxb hx hlen fz
          go_wp2_with (at_builtin; go_must (refine wpList_append_act rfl _ _ 63 rfl base 68 i2 (.agg #[.int .i64 0, .int .i64 0, .string ⟨#[]⟩]) 32 Try.underlying63 hi2 hz0 hz1 hz2 rfl _ _ _ (.int .i64 2) (.int .i64 B) (.string ⟨#[]⟩) rfl hoA ⟨rfl, rfl, rfl⟩ rfl (by omega) (by omega) hbase rfl ?_); intro v' u hown hg; obtain ⟨a4, q4, rfl, hA, hbA⟩ := HWK.out.act (2, (B : Int), ⟨#[]⟩) hg hown; have HA := hide (And.intro hA hbA); clear hA hbA hown; have b0 := hg.cell c0 (fun e => HE.out.1 e.symm); have b1 := hg.cell c1 (fun e => HE.out.1 e.symm); have b4 := hg.cell c4 (fun e => HE.out.1 e.symm); have bf4 := (frozen_far hg ⟨P, 4, none⟩ HWK.out.lt.1 (fun e => HE.out.1 e.symm)).trans fz4; clear c0 c1 c2 c3 c4 c5 fz4 hg hoA fz5 hcw)
          rw [List.length_append, List.length_singleton] at HA
          clear b0 b1 b4 bf4
          generalize u.setCell ⟨P, 4, none⟩ (.slice a4 (ck.length + 1) q4) = V at HA ⊢
          have HWI := hide (wipe_any g1 k1 g2 k2 base B 6 6 x pk ws V HOKk.out.1 HOKk.out.2.1 HA.out.1.2.2.1 HA.out.1.2.2.2.1 HE.out.2.2.2.2.2 hB HXW.out HX2.out.1.1 HX2.out.1.2 (by decide) (by decide))
          refine HWI.out.mono ?_
          rintro e w5 ⟨rfl, o1, o2, hO⟩
          have hgx : ws[B]?.getD 0 = x := by rw [HXW.out]; rfl
          have hok5 : chipOkP (wipeP pk B 6) (ws.set B (x + 1)) := by
            have := wipe_right (B := B) HOKk.out (by rw [hgx]; exact HX2.out.2)
            rw [hgx] at this
            exact this
          have hMO := specMount_ok (some ⟨g1, 0, none⟩) (some ⟨g2, 0, none⟩) (wipeP pk B 6) (ws.set B (x + 1)) k1 k2 w5 (rd_of_own o1) (rd_of_own o2) hok5
          rw [wipeP_len, List.length_set] at hMO
          have HMO := hide hMO
          have HAC := hide (HA.out.1.acts.only hO (by simp; have := HE.out; omega) (fun k hk => by
            have hk1 : k ≠ g1 := fun e => by rw [e] at hk; exact kind_ne2 HA.out.1.2.2.2.2.2.1 HA.out.1.2.2.1 (by decide) g1 hk rfl
            have hk2 : k ≠ g2 := fun e => by rw [e] at hk; exact kind_ne2 HA.out.1.2.2.2.2.2.1 HA.out.1.2.2.2.1 (by decide) g2 hk rfl
            simp; omega))
          have HB5 := hide (((hbr.out.trans HA.out.2).trans (hO.from HA.out.1.lt.2.2 (fun k hk => by
            simp at hk
            rcases hk with rfl | rfl
            · exact (owns_lt HA.out.1.2.2.1).1
            · exact (owns_lt HA.out.1.2.2.2.1).1))))
          have HOK5 := hide hok5
          clear hMO hok5 o1 o2 hO HWI hgx
          go_wp2_with fail
          refine HMO.out.mono ?_
          rintro e w6 ⟨v6, rfl, hf6, hb6⟩
          obtain ⟨a6, c6, b6, d6, e6, f6, rfl⟩ := hf6.shape
          have HAC6 := hide (HAC.out.below hb6)
          obtain ⟨⟨x0, x1, x2, x3, y0, y1, y2, y3⟩, -, -, yf, -⟩ := HAC6.out.cells
          have yf0 := yf 0
          have yf1 := yf 1
          have yf2 := yf 2
          have yf3 := yf 3
          have HFI := hide (HAC6.out.mount hf6 (show base ≤ w5.heap.size by have := HB5.out.size; have := HG.out.2.1.2.2; omega) HOK5.out.1 HOK5.out.2.1 (mMap_len _))
          have HB6 := hide (HB5.out.trans (hb6.mono (show base ≤ w5.heap.size by have := HB5.out.size; have := HG.out.2.1.2.2; omega)))
          rw [List.length_set] at HFI
          clear hf6 hb6 HMO HAC HAC6 yf
          go_wp2
          exact bodyPost_end (v := .tuple #[]) (results_none Try.results140 _ _ _) rfl ⟨rfl, HB6.out.trans HFI.out.2, yes_some HPC2.out HFI.out.1, not_none HPC2.out⟩
    · obtain ⟨⟨c0, c1, c2, c3, c4, c5⟩, fz⟩ := hw.cells
      have fz5 := fz 5
      rw [hMn] at HPC
      have HPN : Hid (pClean B ps ws cs = none) := by show _ = _; rw [HPC.out]; rfl
      have h5 := hw.flag false
      have HZ : Hid (Below base w (wr.setCell ⟨P, 5, none⟩ (.bool false)) ∧ Failed (wr.setCell ⟨P, 5, none⟩ (.bool false)) P base) := ⟨hbr.out.trans h5.2, _, _, _, h5.1.acts⟩
      clear h5 hst hw fz hMn HPC
      by_cases hlt : k < L.length
      · have t1 : decide ((k : Int) < (L.length : Int)) = true := by simpa using hlt
        go_wp2
        exact bodyPost_ret (v := .tuple #[]) (results_none Try.results140 _ _ _) rfl ⟨rfl, HZ.out.1, no_some HPN.out, fun _ => HZ.out.2⟩
      · have t1 : decide ((k : Int) < (L.length : Int)) = false := by simpa using hlt
        go_wp2
        exact bodyPost_ret (v := .tuple #[]) (results_none Try.results140 _ _ _) rfl ⟨rfl, HZ.out.1, no_some HPN.out, fun _ => HZ.out.2⟩
end Go.Proofs.Ytelbannfbglgcaa

namespace Go.Proofs.Ytelbannfbglgcaa
open Go.RowKit

set_option maxRecDepth 100000 in
set_option maxHeartbeats 1600000 in
theorem specFree_bad (a b : Option Addr) (ps : List ByteArray) (ws : List Int) (c d : Nat) (w : World) (hp : Rd w a (vsString ps)) (hw : Rd w b (vsInt ws)) (hl : ps.length ≤ 1048576) (hm : ws.length ≤ 1048576) (hs : ∀ s ∈ ps, s.size ≤ 1048576) (hok : ¬ chipOkP ps ws) :
    Calls Try.prog 39 #[.agg #[.slice a ps.length c, .slice b ws.length d]] w fun e w' => ∃ v, e = .returned v ∧ w'.ownsRow w.heap.size 3 1 v 0 [] ∧ Below w.heap.size w w' := by
  obtain ⟨A, hA⟩ : ∃ A, A = w.alloc (Obj.cells #[.slice a ps.length c, .slice b ws.length d] 27) := ⟨_, rfl⟩
  have hbA : Below w.heap.size w A := by rw [hA]; exact (Below.refl _ _).alloc (Nat.le_refl _) _
  have hsA : w.heap.size < A.heap.size := by rw [hA]; simp
  have hsA1 : A.heap.size = w.heap.size + 1 := by rw [hA]; simp
  obtain ⟨W, hW⟩ : ∃ W, W = A.alloc (Obj.cells #[] 3) := ⟨_, rfl⟩
  have hbW : Below A.heap.size A W := by rw [hW]; exact (Below.refl _ _).alloc (Nat.le_refl _) _
  have hW0 : W.ownsRow w.heap.size 3 1 (.slice (some ⟨w.heap.size + 1, 0, none⟩) 0 0) 0 [] := by rw [hW, ← hsA1]; exact World.ownsRow_made A #[] 0 (Nat.le_of_lt hsA) (Nat.zero_le _) rfl
  have x0 : A.cell? ⟨w.heap.size, 0, none⟩ = some (.slice a ps.length c) := by rw [hA]; simp
  have x1 : A.cell? ⟨w.heap.size, 1, none⟩ = some (.slice b ws.length d) := by rw [hA]; simp
  have hB := chipOkB_false hok
  have hbAW := after hbA hbW
  have c0 := (hbW.cell (p := ⟨w.heap.size, 0, none⟩) hsA).trans x0
  have c1 := (hbW.cell (p := ⟨w.heap.size, 1, none⟩) hsA).trans x1
  have HP := hide (hp.below hbAW)
  have HW := hide (hw.below hbAW)
  clear hp hw hok hsA1 x0 x1
  go_enter Try.func39, Try.ntmps39
  go_wp2
  rw [← hA]
  rw [← hW]
  clear hA hW
  go_loopw [3, 4] (fun v i wr => i = .int .i64 0 ∧ v = .slice (some ⟨w.heap.size + 1, 0, none⟩) 0 0 ∧ wr = W) (fun _ _ _ => 0)
  case atStart => exact ⟨rfl, rfl, rfl⟩
  case round =>
    obtain ⟨rfl, rfl, rfl⟩ := hrel
    go_wp2_with fail
    refine (specChipOk_any a b ps ws c d _ HP.out HW.out hl hm hs).mono ?_
    rw [hB]
    rintro e u1 ⟨rfl, hb1⟩
    have hbw1 := after hbAW hb1
    have hown := owns_below hW0 hb1
    clear hb1
    go_wp2
    go_ret
    exact ⟨_, rfl, hown, hbw1⟩

end Go.Proofs.Ytelbannfbglgcaa
