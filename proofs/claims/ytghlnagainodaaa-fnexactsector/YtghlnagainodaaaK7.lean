/-
  Contracts of the specification's l1Min and l1Max.
  Contract of the specification's Mount, of a chip that is right.
  Contracts of the specification's l4Ints, FtlOk, l4Clear.
  Contracts of the laws' helpers over what is mounted: toFtl, szFtl, eqFtl.
-/
import Derived.Test.YtghlnagainodaaaChecked
import Derived.Test.YtghlnagainodaaaK0
import Derived.Test.YtghlnagainodaaaK6
import Derived.Laws.MakeOwn
import Derived.Test.YtghlnagainodaaaK1
namespace Go.Proofs.Ytghlnagainodaaa
open Go.RowKit

theorem min_any (x y : Int) (w : World) : Calls Try.prog 32 #[.int .i64 x, .int .i64 y] w fun e w' => e = .returned (.int .i64 (min x y)) ∧ w' = w := by
  by_cases h : x < y
  · go_enter Try.func32, Try.ntmps32
    go_wp2
    go_ret
    exact ⟨ret_int (by omega), rfl⟩
  · go_enter Try.func32, Try.ntmps32
    go_wp2
    go_ret
    exact ⟨ret_int (by omega), rfl⟩
theorem max_any (x y : Int) (w : World) : Calls Try.prog 33 #[.int .i64 x, .int .i64 y] w fun e w' => e = .returned (.int .i64 (max x y)) ∧ w' = w := by
  by_cases h : y < x
  · go_enter Try.func33, Try.ntmps33
    go_wp2
    go_ret
    exact ⟨ret_int (by omega), rfl⟩
  · go_enter Try.func33, Try.ntmps33
    go_wp2
    go_ret
    exact ⟨ret_int (by omega), rfl⟩

end Go.Proofs.Ytghlnagainodaaa

namespace Go.Proofs.Ytghlnagainodaaa
open Go.RowKit

theorem made_ints (n : Nat) : madeCells (Value.int .i64 0).cells n = (vsInt (List.replicate n 0)).toArray := by
  have e : vsInt (List.replicate n 0) = List.replicate n (Value.int .i64 0) := List.map_replicate
  rw [e]
  exact Array.ext (by simp [madeCells]) (fun i h1 h2 => by simp [madeCells, Value.cells, Nat.mod_one])

set_option maxRecDepth 100000 in
set_option maxHeartbeats 6400000 in
theorem specMount_ok (a b : Option Addr) (ps : List ByteArray) (ws : List Int) (c d : Nat) (w : World) (hp : Rd w a (vsString ps)) (hw : Rd w b (vsInt ws)) (hok : chipOkP ps ws) :
    Calls Try.prog 38 #[.agg #[.slice a ps.length c, .slice b ws.length d]] w fun e w' => ∃ v, e = .returned v ∧ FtlOwn w' w.heap.size v ps ws (mMap ps) (mSeq ps) ∧ Below w.heap.size w w' := by
  obtain ⟨i2, hi2, hz0, hz1, hz2⟩ := info_parts infoInt
  have k26 : ∀ w, (Instr.makeSlice 23 (.int .i64 26) (.int .i64 26)).run Try.prog w = .ok (.slice (some ⟨w.heap.size, 0, none⟩) 26 26) (w.alloc (.cells (vsInt (List.replicate 26 0)).toArray 3)) := by
    intro w
    have := run_make (P := Try.prog) w 23 3 i2 _ Try.underlying23 hi2 hz0 .i64 .i64 26 26 (by decide) (by decide) (by rw [hz2]; decide) (by decide)
    rw [hz1, show Int.toNat 26 * 1 = 26 from rfl, made_ints] at this
    exact this
  obtain ⟨Z, hZ⟩ : ∃ Z, Z = (vsInt (List.replicate 26 0)).toArray := ⟨_, rfl⟩
  rw [← hZ] at k26
  have HZ := hide hZ
  clear hZ
  obtain ⟨W, hW⟩ : ∃ W, W = (w.alloc (Obj.cells #[.slice a ps.length c, .slice b ws.length d] 30)).alloc (Obj.cells #[.slice none 0 0, .slice none 0 0, .slice none 0 0, .int .i64 0] 32) := ⟨_, rfl⟩
  have hbW : Below w.heap.size w W := by subst hW; exact ((Below.refl _ _).alloc (Nat.le_refl _) _).alloc (by simp) _
  have cW : W.cell? ⟨w.heap.size, 0, none⟩ = some (.slice a ps.length c) ∧ W.cell? ⟨w.heap.size, 1, none⟩ = some (.slice b ws.length d) ∧ W.cell? ⟨w.heap.size + 1, 0, none⟩ = some (.slice none 0 0) ∧ W.cell? ⟨w.heap.size + 1, 1, none⟩ = some (.slice none 0 0) ∧ W.cell? ⟨w.heap.size + 1, 2, none⟩ = some (.slice none 0 0) ∧ W.cell? ⟨w.heap.size + 1, 3, none⟩ = some (.int .i64 0) ∧ (∀ j, W.frozen? ⟨w.heap.size + 1, j, none⟩ = false) ∧ w.heap.size + 1 < W.heap.size := by
    subst hW; refine ⟨?_, ?_, ?_, ?_, ?_, ?_, fun j => ?_, ?_⟩ <;> simp [go_sem]
  obtain ⟨y0, y1, x0, x1, x2, x3, xf, hsz⟩ := cW
  have hB := chipOkB_true hok
  have HOK := hide hok
  obtain ⟨hl, hm, hs8, hx⟩ := hok
  have HL : Hid (ps.length = 60 ∧ ws.length = 10) := ⟨hl, hm⟩
  have hl1 : 60 ≤ ps.length ∧ ps.length ≤ 60 := by omega
  have hm1 : 10 ≤ ws.length ∧ ws.length ≤ 10 := by omega
  clear hl hm
  go_enter Try.func38, Try.ntmps38
  go_wp2_with fail
  rw [← hW]
  clear hW
  refine (specChipOk_any a b ps ws c d _ (hp.below hbW) (hw.below hbW) (by omega) (by omega) (fun s h => by have := hs8 s h; omega)).mono ?_
  rw [hB]
  rintro e w1 ⟨rfl, hb1⟩
  have hbw1 := after hbW hb1
  have hsz1 : w.heap.size + 1 < w1.heap.size := Nat.lt_of_lt_of_le hsz hb1.size
  have k0 := (hb1.cell (p := ⟨w.heap.size, 0, none⟩) (show w.heap.size < W.heap.size by omega)).trans y0
  have k1 := (hb1.cell (p := ⟨w.heap.size, 1, none⟩) (show w.heap.size < W.heap.size by omega)).trans y1
  clear hs8 hx hB
  go_wp2_with fail
  refine (copy_any a b ps ws c d _ (hp.below hbw1) (hw.below hbw1) HL.out.1 HL.out.2).mono ?_
  rintro e w2 ⟨v, rfl, hown, hb2⟩
  obtain ⟨g, kg, g', kg', rfl, ho1, ho2, hne, hg1, hg2, hg3, hg4⟩ := own_form hown (by omega) (by omega)
  have hbW2 := after hb1 hb2
  have hbw2 := after hbw1 hb2
  have hs2 := hb2.size
  obtain ⟨fb, hfb⟩ : ∃ fb, fb = w2.heap.size := ⟨_, rfl⟩
  obtain ⟨V2, hV2⟩ : ∃ V, V = w2.alloc (Obj.cells #[.slice (some ⟨g, 0, none⟩) ps.length kg, .slice (some ⟨g', 0, none⟩) ws.length kg', .slice none 0 0, .int .i64 1] 32) := ⟨_, rfl⟩
  obtain ⟨V3, hV3⟩ : ∃ V, V = V2.alloc (Obj.cells Z 3) := ⟨_, rfl⟩
  have hsV2 : V2.heap.size = fb + 1 := by rw [hV2, hfb]; simp
  have hsV3 : V3.heap.size = fb + 2 := by rw [hV3]; simp [hsV2]
  have hbV2 : Below w2.heap.size w2 V2 := by rw [hV2]; exact (Below.refl _ _).alloc (Nat.le_refl _) _
  have hb23 : Below V2.heap.size V2 V3 := by rw [hV3]; exact (Below.refl _ _).alloc (Nat.le_refl _) _
  have hbV3 : Below w2.heap.size w2 V3 := after hbV2 hb23
  have cF : V3.cell? ⟨fb, 0, none⟩ = some (.slice (some ⟨g, 0, none⟩) ps.length kg) ∧ V3.cell? ⟨fb, 1, none⟩ = some (.slice (some ⟨g', 0, none⟩) ws.length kg') ∧ V3.cell? ⟨fb, 2, none⟩ = some (.slice none 0 0) ∧ V3.cell? ⟨fb, 3, none⟩ = some (.int .i64 1) ∧ ∀ j, V3.frozen? ⟨fb, j, none⟩ = false := by
    have hlt : fb < V2.heap.size := by omega
    refine ⟨(hb23.cell (p := ⟨fb, 0, none⟩) hlt).trans ?_, (hb23.cell (p := ⟨fb, 1, none⟩) hlt).trans ?_, (hb23.cell (p := ⟨fb, 2, none⟩) hlt).trans ?_, (hb23.cell (p := ⟨fb, 3, none⟩) hlt).trans ?_, fun j => (hb23.frozen (p := ⟨fb, j, none⟩) hlt).trans ?_⟩ <;> (rw [hV2, hfb]; simp)
  have oB : V3.ownsRow (fb + 1) 3 1 (.slice (some ⟨fb + 1, 0, none⟩) 26 26) 26 (vsInt (List.replicate 26 0)) := by
    refine ⟨by simp, .inr ⟨fb + 1, 26, Z, rfl, Nat.le_refl _, ?_, Nat.le_refl _, by unfold maxLen; omega, by rw [HZ.out]; simp, by rw [HZ.out]; simp⟩⟩
    rw [hV3, ← hsV2]; exact heap_alloc_new _ _
  have HP := hide (hp)
  have HW2 := hide (And.intro ho1 ho2)
  have HBW2 := hide hbW2
  have HY := hide (And.intro y0 (And.intro x0 (And.intro x1 (And.intro x2 (And.intro x3 xf)))))
  have HSZ := hide (And.intro hfb (And.intro hsV2 hsV3))
  clear hown ho1 ho2 hp hw hb1 hb2 hbW k0 k1 y0 y1 x0 x1 x2 x3 xf hbw1 hbW2 hfb hsV2 hsV3
  go_wp2_with fail
  rw [← hV2]
  rw [← hV3]
  rw [← HSZ.out.1]
  clear hV2 hV3 k26
  go_loopw [5] (fun i wr => ∃ (k : Nat) (v : Value), k ≤ 26 ∧ i = .int .i64 k ∧ wr.cell? ⟨fb, 2, none⟩ = some v ∧ wr.ownsRow (fb + 2) 3 1 v k (vsInt (List.replicate k (-1))) ∧ (wr.cell? ⟨fb, 0, none⟩ = some (.slice (some ⟨g, 0, none⟩) ps.length kg) ∧ wr.cell? ⟨fb, 1, none⟩ = some (.slice (some ⟨g', 0, none⟩) ws.length kg') ∧ wr.cell? ⟨fb, 3, none⟩ = some (.int .i64 1)) ∧ (∀ j, wr.frozen? ⟨fb, j, none⟩ = false) ∧ OnlyIn V3 wr [some fb]) (fun i _ => 26 - (intOf i).toNat)
  case atStart => exact ⟨0, _, Nat.zero_le _, rfl, cF.2.2.1, World.ownsRow_nil _ _ _ _, ⟨cF.1, cF.2.1, cF.2.2.2.1⟩, cF.2.2.2.2, OnlyIn.of_below (Below.refl _ _) _⟩
  case round =>
    obtain ⟨k, v, hk, rfl, hv, hown, hcs, hfz, hO⟩ := hrel
    have hszr : fb + 2 ≤ wr.heap.size := by have := hO.size; have := HSZ.out.2.2; omega
    by_cases hlt : k < 26
    · have q1 : (k : Int) < 26 := by omega
      have f2 := hfz 2
      have HCS := hide hcs
      have HFZ := hide hfz
      have HO := hide hO
      have HCF := hide cF
      clear hcs hfz hO cF oB
      go_wp2_with (at_builtin; go_must (refine wpList_append_one rfl _ _ 23 rfl (fb + 2) 3 i2 (.int .i64 0) 8 Try.underlying23 hi2 hz0 hz1 hz2 rfl _ _ _ (.int .i64 (-1)) rfl hown rfl rfl (by omega) (by omega) hszr rfl ?_); intro v' u1 hown' hb'; rw [repl_step] at hown'; obtain ⟨gm, km, hv', hgm, hgl⟩ := owns_form hown' (by omega); subst hv'; have r2 := (hb'.cell (p := ⟨fb, 2, none⟩) (show fb < fb + 2 by omega)).trans hv; have rf := (hb'.frozen (p := ⟨fb, 2, none⟩) (show fb < fb + 2 by omega)).trans f2; have HOWN := hide hown'; have HB := hide hb'; clear hown' hb')
      go_roundw
      case rel =>
        have hbb := HB.out
        refine ⟨k + 1, _, by omega, by go_num, World.cell?_setCell_same _ _ _ r2, ownsRow_setCell_below HOWN.out (show fb < fb + 2 by omega) _, ⟨?_, ?_, ?_⟩, fun j => ?_, ?_⟩
        · have := (hbb.cell (p := ⟨fb, 0, none⟩) (show fb < fb + 2 by omega)).trans HCS.out.1
          simpa [go_sem] using this
        · have := (hbb.cell (p := ⟨fb, 1, none⟩) (show fb < fb + 2 by omega)).trans HCS.out.2.1
          simpa [go_sem] using this
        · have := (hbb.cell (p := ⟨fb, 3, none⟩) (show fb < fb + 2 by omega)).trans HCS.out.2.2
          simpa [go_sem] using this
        · have := (hbb.frozen (p := ⟨fb, j, none⟩) (show fb < fb + 2 by omega)).trans (HFZ.out j)
          simpa using this
        · exact (HO.out.keep (by rw [HSZ.out.2.2]; exact hbb)).set (by simp) _ _
      case measure => simp [intOf]; omega
    · obtain ⟨gm, km, rfl, hgm, hgl⟩ := owns_form hown (by omega)
      obtain rfl : k = 26 := by omega
      have q1 : ¬ ((26 : Nat) : Int) < 26 := by omega
      have hI0 : MInv fb gm km (.slice (some ⟨g, 0, none⟩) ps.length kg) (.slice (some ⟨g', 0, none⟩) ws.length kg') wr (mUpto ps 0) :=
        ⟨⟨hcs.1, hcs.2.1, hv, hcs.2.2⟩, hfz, hown, hO.owns oB (fun q hq hc => by simp [Value.ownBlock] at hq hc; omega)⟩
      have hB4 : Below w2.heap.size w2 wr := hbV3.trans (hO.below hbV3.size (by intro q hq; simp at hq; have := HSZ.out.1; omega))
      clear hcs hfz hown hv cF oB hbV3 hbV2 hb23 hO
      generalize wr = V4 at hI0 hB4 hszr hgl ⊢
      clear wr
      go_wp2
      go_loopw [6] (fun i wx => ∃ k : Nat, k ≤ 60 ∧ i = .int .i64 k ∧ MInv fb gm km (.slice (some ⟨g, 0, none⟩) ps.length kg) (.slice (some ⟨g', 0, none⟩) ws.length kg') wx (mUpto ps k) ∧ OnlyIn V4 wx [some fb, some gm, some (fb + 1)]) (fun i _ => 60 - (intOf i).toNat)
      case atStart => exact ⟨0, Nat.zero_le _, rfl, hI0, OnlyIn.of_below (Below.refl _ _) _⟩
      case round =>
        obtain ⟨k, hk, rfl, hI, hO2⟩ := hrel
        have hfbw : fb = w2.heap.size := HSZ.out.1
        have hb2u : Below w2.heap.size w2 wr := hB4.trans (hO2.below hB4.size (by intro q hq; simp at hq; omega))
        have hbu : Below w.heap.size w wr := hbw2.trans (hb2u.mono hbw2.size)
        have hszw : w.heap.size + 1 < w2.heap.size := by omega
        have hbWu : Below W.heap.size W wr := HBW2.out.trans (hb2u.mono HBW2.out.size)
        have c0 := (hbWu.cell (p := ⟨w.heap.size, 0, none⟩) (show w.heap.size < W.heap.size by omega)).trans HY.out.1
        have hr := HP.out.below hbu
        have HFB := hide hfbw
        clear hfbw
        by_cases hlt : k < ps.length
        · obtain ⟨bA, oA, t, rfl, hct, HT⟩ := rdString_at hr hlt
          have ht8 : t.size ≤ 800 := HOK.out.2.2.1 t (List.mem_of_getElem? HT.out)
          have HST : Hid (mUpto ps (k + 1) = mStep (mUpto ps k) k t) := by show _ = _; rw [mUpto, HT.out]; rfl
          have HI := hide hI
          have HO2 := hide hO2
          clear hr hI hO2 hI0
          go_wp2_with fail
          refine (specRecRead_any t wr (by omega)).mono ?_
          rintro e u1 ⟨hyes, hno, hb⟩
          have HI1 := hide (HI.out.below hb)
          have HO21 := hide (HO2.out.keep (hb.mono HO2.out.size))
          cases hrt : recR t with
          | none =>
            obtain rfl := hno hrt
            have HE : Hid (mUpto ps (k + 1) = mUpto ps k) := by show _ = _; rw [HST.out, mStep_no hrt]
            clear hyes hno hrt hb
            go_wp2
            go_roundw
            case rel => exact ⟨k + 1, by omega, by go_num, by rw [HE.out]; exact HI1.out.below ((Below.refl _ _).alloc (Nat.le_refl _) _), HO21.out.keep ((Below.refl _ _).alloc HO21.out.size _)⟩
            case measure => simp [intOf]; omega
          | some r =>
            obtain ⟨s, q, dd⟩ := r
            obtain rfl := hyes s q dd hrt
            obtain ⟨⟨s0, s1⟩, ⟨q0, q1'⟩, -⟩ := recOkB_iff.1 (recR_some hrt).1
            obtain ⟨S, rfl⟩ : ∃ S : Nat, s = S := ⟨s.toNat, by omega⟩
            have hS26 : (S : Int) < 26 := by omega
            have hS0 : (0 : Int) ≤ (S : Int) := by omega
            obtain ⟨st, hst⟩ : ∃ st, st = mUpto ps k := ⟨_, rfl⟩
            have hln := mUpto_len ps k
            rw [← hst] at hln HI1 HST
            clear hst
            obtain ⟨x, hx⟩ : ∃ x, st.1[S]? = some x := ⟨_, List.getElem?_eq_getElem (by omega)⟩
            obtain ⟨y, hy⟩ : ∃ y, st.2.1[S]? = some y := ⟨_, List.getElem?_eq_getElem (by omega)⟩
            obtain ⟨z, hz⟩ : ∃ z, z = min (max st.2.2 (q + 1)) 1000000000 := ⟨_, rfl⟩
            have HZQ := hide hz
            obtain ⟨U, hU⟩ : ∃ U, U = u1.alloc (Obj.cells #[.int .i64 S, .int .i64 q, .string dd] 58) := ⟨_, rfl⟩
            have hbU : Below u1.heap.size u1 U := by rw [hU]; exact (Below.refl _ _).alloc (Nat.le_refl _) _
            have r0 : U.cell? ⟨u1.heap.size, 0, none⟩ = some (.int .i64 S) := by rw [hU]; simp
            have r1 : U.cell? ⟨u1.heap.size, 1, none⟩ = some (.int .i64 q) := by rw [hU]; simp
            have hIU := HI1.out.below hbU
            have xb : U.cell? ⟨fb + 1, S, none⟩ = some (.int .i64 x) := by rw [hIU.2.2.2.cellAt S (by omega), List.getElem?_map, hx]; rfl
            have HOU := hide (HO21.out.keep (hbU.mono HO21.out.size))
            have hfu : fb + 1 < u1.heap.size := (owns_lt HI1.out.2.2.2).2
            have hgu : gm < u1.heap.size := (owns_lt HI1.out.2.2.1).2
            have hgb : fb + 2 ≤ gm := (owns_lt HI1.out.2.2.1).1
            have HIU := hide hIU
            have HXY := hide (And.intro hx hy)
            have HRT := hide hrt
            clear hyes hno hb hIU HI1 HO21 hx hy hz hrt hbU
            go_wp2_with fail
            rw [← hU]
            clear hU
            by_cases hxq : x < q
            · have t5 : decide (x < q) = true := by simpa using hxq
              have HE : Hid (mUpto ps (k + 1) = (st.1.set S q, st.2.1.set S (k : Int), z)) := by
                show _ = _
                rw [HST.out, mStep_great HRT.out (by rw [Int.toNat_natCast, HXY.out.1]; exact hxq), Int.toNat_natCast, HZQ.out]
              clear hxq
              go_quiet (fail)
              obtain ⟨U2, hU2⟩ : ∃ U2, U2 = U.drewN nq := ⟨_, rfl⟩
              have hI2 : MInv fb gm km (.slice (some ⟨g, 0, none⟩) ps.length kg) (.slice (some ⟨g', 0, none⟩) ws.length kg') U2 st := by rw [hU2]; exact HIU.out.below (after_drew (Below.refl _ _) nq)
              have hO3 : OnlyIn V4 U2 [some fb, some gm, some (fb + 1)] := by rw [hU2]; exact ⟨HOU.out.os, HOU.out.tape, HOU.out.output, HOU.out.size, HOU.out.block⟩
              have p0 : U2.cell? ⟨u1.heap.size, 0, none⟩ = some (.int .i64 S) := by rw [hU2]; exact r0
              have p1 : U2.cell? ⟨u1.heap.size, 1, none⟩ = some (.int .i64 q) := by rw [hU2]; exact r1
              have pb : U2.cell? ⟨fb + 1, S, none⟩ = some (.int .i64 x) := by rw [hU2]; exact xb
              have pf := hI2.2.2.2.frozenAt S
              have pm : U2.cell? ⟨gm, S, none⟩ = some (.int .i64 y) := by rw [hI2.2.2.1.cellAt S (by omega), List.getElem?_map, HXY.out.2]; rfl
              have pg := hI2.2.2.1.frozenAt S
              have p2 := hI2.1.2.2.1
              have p3 := hI2.1.2.2.2
              have pz := hI2.2.1 3
              have n1 : ¬ fb + 1 = u1.heap.size := by omega
              have n2 : ¬ gm = u1.heap.size := by omega
              have n3 : ¬ gm = fb := by omega
              have n4 : ¬ fb + 1 = fb := by omega
              have n5 : ¬ gm = fb + 1 := by omega
              have n6 : ¬ fb + 1 = gm := by omega
              have HFIN := hide (And.intro ((hI2.best S q).map S (k : Int) |>.seq z) (((hO3.set (p := fb + 1) (by simp) S (.int .i64 q)).set (p := gm) (by simp) S (.int .i64 k)).set (p := fb) (by simp) 3 (.int .i64 z)))
              rw [← hU2]
              clear hU2 hI2 hO3 r0 r1 xb HIU HOU
              go_wp2_with fail
              refine (max_any _ _ _).mono ?_
              rintro e u ⟨rfl, hu⟩
              have hu' := hu.symm
              subst hu'
              go_wp2_with fail
              refine (min_any _ _ _).mono ?_
              rintro e u ⟨rfl, hu⟩
              have hu' := hu.symm
              subst hu'
              rw [← HZQ.out]
              go_wp2
              go_roundw
              case rel => exact ⟨k + 1, by omega, by go_num, by rw [HE.out]; exact HFIN.out.1, HFIN.out.2⟩
              case measure => simp [intOf]; omega
            · have t5 : decide (x < q) = false := by simpa using hxq
              have HE : Hid (mUpto ps (k + 1) = (st.1, st.2.1, z)) := by
                show _ = _
                rw [HST.out, mStep_small HRT.out (by rw [Int.toNat_natCast, HXY.out.1]; exact hxq), HZQ.out]
              clear hxq
              go_quiet (fail)
              obtain ⟨U2, hU2⟩ : ∃ U2, U2 = U.drewN nq := ⟨_, rfl⟩
              have hI2 : MInv fb gm km (.slice (some ⟨g, 0, none⟩) ps.length kg) (.slice (some ⟨g', 0, none⟩) ws.length kg') U2 st := by rw [hU2]; exact HIU.out.below (after_drew (Below.refl _ _) nq)
              have hO3 : OnlyIn V4 U2 [some fb, some gm, some (fb + 1)] := by rw [hU2]; exact ⟨HOU.out.os, HOU.out.tape, HOU.out.output, HOU.out.size, HOU.out.block⟩
              have p1 : U2.cell? ⟨u1.heap.size, 1, none⟩ = some (.int .i64 q) := by rw [hU2]; exact r1
              have p3 := hI2.1.2.2.2
              have pz := hI2.2.1 3
              have HFIN := hide (And.intro (hI2.seq z) (hO3.set (p := fb) (by simp) 3 (.int .i64 z)))
              rw [← hU2]
              clear hU2 hI2 hO3 r0 r1 xb HIU HOU
              go_wp2_with fail
              refine (max_any _ _ _).mono ?_
              rintro e u ⟨rfl, hu⟩
              have hu' := hu.symm
              subst hu'
              go_wp2_with fail
              refine (min_any _ _ _).mono ?_
              rintro e u ⟨rfl, hu⟩
              have hu' := hu.symm
              subst hu'
              rw [← HZQ.out]
              go_wp2
              go_roundw
              case rel => exact ⟨k + 1, by omega, by go_num, by rw [HE.out]; exact HFIN.out.1, HFIN.out.2⟩
              case measure => simp [intOf]; omega
        · obtain rfl : k = 60 := by omega
          obtain ⟨⟨p0, p1, p2, p3⟩, hfz, hmr, -⟩ := hI
          have hgl2 := (owns_lt hmr).1
          have m0 := (hbWu.cell (p := ⟨w.heap.size + 1, 0, none⟩) hsz).trans HY.out.2.1
          have m1 := (hbWu.cell (p := ⟨w.heap.size + 1, 1, none⟩) hsz).trans HY.out.2.2.1
          have m2 := (hbWu.cell (p := ⟨w.heap.size + 1, 2, none⟩) hsz).trans HY.out.2.2.2.1
          have m3 := (hbWu.cell (p := ⟨w.heap.size + 1, 3, none⟩) hsz).trans HY.out.2.2.2.2.1
          have f0 := (hbWu.frozen (p := ⟨w.heap.size + 1, 0, none⟩) hsz).trans (HY.out.2.2.2.2.2 0)
          have f1 := (hbWu.frozen (p := ⟨w.heap.size + 1, 1, none⟩) hsz).trans (HY.out.2.2.2.2.2 1)
          have f2 := (hbWu.frozen (p := ⟨w.heap.size + 1, 2, none⟩) hsz).trans (HY.out.2.2.2.2.2 2)
          have f3 := (hbWu.frozen (p := ⟨w.heap.size + 1, 3, none⟩) hsz).trans (HY.out.2.2.2.2.2 3)
          have q1 : ¬ ((60 : Nat) : Int) < (ps.length : Int) := by omega
          have HO1 := hide (owns_below HW2.out.1 hb2u)
          have HO2' := hide (owns_below HW2.out.2 hb2u)
          have HMR := hide hmr
          have HBU := hide hbu
          clear hr hO2 hI0 hmr hb2u hbWu hbu hB4
          go_wp2
          refine bodyPost_ret (v := .agg #[.slice (some ⟨g, 0, none⟩) ps.length kg, .slice (some ⟨g', 0, none⟩) ws.length kg', .slice (some ⟨gm, 0, none⟩) 26 km, .int .i64 (mUpto ps 60).2.2]) (by simp [results, Try.results38, go_sem, m0, m1, m2, m3]) rfl ⟨_, rfl, ⟨_, _, _, rfl, ?_, ?_, ?_, ?_, ?_, ?_⟩, (((HBU.out.setCell (by show _ ≤ _; simp) _).setCell (by show _ ≤ _; simp) _).setCell (by show _ ≤ _; simp) _).setCell (by show _ ≤ _; simp) _⟩
          · exact owns_mono (ownsRow_setCell_below (ownsRow_setCell_below (ownsRow_setCell_below (ownsRow_setCell_below HO1.out hsz1 _) hsz1 _) hsz1 _) hsz1 _) (by omega)
          · exact owns_mono (ownsRow_setCell_below (ownsRow_setCell_below (ownsRow_setCell_below (ownsRow_setCell_below HO2'.out hsz1 _) hsz1 _) hsz1 _) hsz1 _) (by omega)
          · have hlm : w.heap.size + 1 < fb + 2 := by have := HFB.out; omega
            rw [mMap_len]
            exact owns_mono (ownsRow_setCell_below (ownsRow_setCell_below (ownsRow_setCell_below (ownsRow_setCell_below HMR.out hlm _) hlm _) hlm _) hlm _) (by omega)
          · intro q hq; simp [Value.ownBlock] at hq ⊢; omega
          · intro q hq; have := HFB.out; simp [Value.ownBlock] at hq ⊢; omega
          · intro q hq; have := HFB.out; simp [Value.ownBlock] at hq ⊢; omega

end Go.Proofs.Ytghlnagainodaaa

namespace Go.Proofs.Ytghlnagainodaaa
open Go.RowKit

set_option maxHeartbeats 1600000 in
theorem ints_any (a b : Option Addr) (xs ys : List Int) (c d : Nat) (w : World) (hr : Rd w a (vsInt xs)) (hs : Rd w b (vsInt ys)) (hm : xs.length ≤ 1048576) (_hn : ys.length ≤ 1048576) :
    Calls Try.prog 40 #[.slice a xs.length c, .slice b ys.length d] w fun e w' => e = .returned (.bool (decide (xs = ys))) ∧ ∃ n, w' = w.drewN n := by
  obtain ⟨B, hB⟩ : ∃ B : Bool, B = decide (xs = ys) := ⟨_, rfl⟩
  rw [← hB]
  have HB := hide hB
  clear hB
  go_enter Try.func40, Try.ntmps40
  go_wp2
  go_loopw [5] (fun i wr => ∃ k : Nat, k ≤ xs.length ∧ k ≤ ys.length ∧ i = .int .i64 k ∧ Hid (xs.take k = ys.take k) ∧ ∃ n, wr = w.drewN n) (fun i _ => xs.length - (intOf i).toNat)
  case atStart => exact ⟨0, Nat.zero_le _, Nat.zero_le _, rfl, (show _ = _ by simp), 0, rfl⟩
  case round =>
    obtain ⟨k, hk, hk', rfl, HT, n, rfl⟩ := hrel
    by_cases hlt : k < xs.length
    · by_cases hlt' : k < ys.length
      · obtain ⟨ba, oa, z, rfl, hck, HZ⟩ := rdInt_at hr hlt
        obtain ⟨bb, ob, y, rfl, hcy, HY⟩ := rdInt_at hs hlt'
        clear hr hs
        by_cases hzy : z = y
        · subst hzy
          have HE : Hid (xs.take (k + 1) = ys.take (k + 1)) := takeInt_step HT.out HZ.out HY.out
          go_wp2
          go_quiet (fail)
          go_wp2
          go_roundw
          case rel => exact ⟨k + 1, by omega, by omega, by go_num, HE, _, rfl⟩
          case measure => simp [intOf]; omega
        · have HE : Hid (B = false) := by show _ = _; rw [HB.out]; simpa using neInt_at HZ.out HY.out hzy
          have ht : (z != y) = true := by simpa using hzy
          clear hzy
          go_wp2
          go_quiet (fail)
          go_wp2
          go_ret
          exact ⟨ret_bool HE.out.symm, _, World.drewN_drewN _ _ _⟩
      · have HE : Hid (B = false) := by
          show _ = _; rw [HB.out]; simp; intro e; rw [e] at hlt; omega
        have ht : ((xs.length : Int) == (ys.length : Int)) = false := by simp; omega
        clear hr hs
        go_wp2
        go_ret
        exact ⟨ret_bool HE.out.symm, _, rfl⟩
    · by_cases hl : ys.length = xs.length
      · have HE : Hid (B = true) := by
          show _ = _; rw [HB.out]
          have := HT.out
          rw [List.take_of_length_le (by omega), List.take_of_length_le (by omega)] at this
          simpa using this
        have ht : ((xs.length : Int) == (ys.length : Int)) = true := by simp; omega
        clear hr hs hl
        go_wp2
        go_ret
        exact ⟨ret_bool HE.out.symm, _, rfl⟩
      · have HE : Hid (B = false) := by
          show _ = _; rw [HB.out]; simp; intro e; rw [e] at hl; omega
        have ht : ((xs.length : Int) == (ys.length : Int)) = false := by simp; omega
        clear hr hs hl
        go_wp2
        go_ret
        exact ⟨ret_bool HE.out.symm, _, rfl⟩

/-- What is mounted, its value written out. -/
theorem ftl_open {w : World} {base : Nat} {v : Value} {ps : List ByteArray} {ws ms : List Int} {q : Int} (h : FtlOwn w base v ps ws ms q) :
    ∃ a c b d e f, v = .agg #[.slice a ps.length c, .slice b ws.length d, .slice e ms.length f, .int .i64 q] ∧ w.ownsRow base 9 1 (.slice a ps.length c) ps.length (vsString ps) ∧ w.ownsRow base 3 1 (.slice b ws.length d) ws.length (vsInt ws) ∧ w.ownsRow base 3 1 (.slice e ms.length f) ms.length (vsInt ms) := by
  obtain ⟨v1, v2, v3, rfl, h1, h2, h3, -⟩ := h
  have f : ∀ {e : TypeId} {v : Value} {n : Nat} {xs : List Value}, w.ownsRow base e 1 v n xs → ∃ a c, v = .slice a n c := by
    intro e v n xs h
    rcases h with ⟨_, ⟨rfl, rfl⟩ | ⟨g, cap, cur, rfl, -⟩⟩
    · exact ⟨_, _, rfl⟩
    · exact ⟨_, _, rfl⟩
  obtain ⟨a, c, rfl⟩ := f h1
  obtain ⟨b, d, rfl⟩ := f h2
  obtain ⟨e, g, rfl⟩ := f h3
  exact ⟨a, c, b, d, e, g, rfl, h1, h2, h3⟩

/-- It is right. -/
def ftlOkB (ps : List ByteArray) (ws ms : List Int) (q : Int) : Bool := chipOkB ps ws && decide (mMap ps = ms) && decide (mSeq ps = q)

set_option maxHeartbeats 3200000 in
theorem specFtlOk_any (a b e0 : Option Addr) (ps : List ByteArray) (ws ms : List Int) (c d f : Nat) (q : Int) (w : World) (hp : Rd w a (vsString ps)) (hw : Rd w b (vsInt ws)) (hms : Rd w e0 (vsInt ms)) (hl : ps.length ≤ 1048576) (hm : ws.length ≤ 1048576) (hn : ms.length ≤ 1048576) (hs : ∀ s ∈ ps, s.size ≤ 1048576) :
    Calls Try.prog 21 #[.agg #[.slice a ps.length c, .slice b ws.length d, .slice e0 ms.length f, .int .i64 q]] w fun e w' => e = .returned (.bool (ftlOkB ps ws ms q)) ∧ Below w.heap.size w w' := by
  obtain ⟨W, hW⟩ : ∃ W, W = w.alloc (Obj.cells #[.slice a ps.length c, .slice b ws.length d, .slice e0 ms.length f, .int .i64 q] 32) := ⟨_, rfl⟩
  have hbW : Below w.heap.size w W := by subst hW; exact (Below.refl _ _).alloc (Nat.le_refl _) _
  have cW : W.cell? ⟨w.heap.size, 0, none⟩ = some (.slice a ps.length c) ∧ W.cell? ⟨w.heap.size, 1, none⟩ = some (.slice b ws.length d) ∧ W.cell? ⟨w.heap.size, 2, none⟩ = some (.slice e0 ms.length f) ∧ W.cell? ⟨w.heap.size, 3, none⟩ = some (.int .i64 q) ∧ w.heap.size < W.heap.size := by
    subst hW; refine ⟨?_, ?_, ?_, ?_, ?_⟩ <;> simp
  obtain ⟨x0, x1, x2, x3, hsz⟩ := cW
  by_cases hok : chipOkP ps ws
  · have hB := chipOkB_true hok
    obtain ⟨R, hR⟩ : ∃ R, R = ftlOkB ps ws ms q := ⟨_, rfl⟩
    have HR : Hid (R = (decide (mMap ps = ms) && decide (mSeq ps = q))) := by show _ = _; rw [hR, ftlOkB, hB]; simp
    rw [← hR]
    clear hR
    go_enter Try.func21, Try.ntmps21
    go_wp2_with fail
    rw [← hW]
    clear hW
    refine (specMount_ok a b ps ws c d W (hp.below hbW) (hw.below hbW) hok).mono ?_
    rintro e w1 ⟨v, rfl, hown, hb1⟩
    obtain ⟨a1, c1, b1, d1, e1, g1, rfl, -, -, ho3⟩ := ftl_open hown
    obtain ⟨V, hV⟩ : ∃ V, V = w1.alloc (Obj.cells #[.slice a1 ps.length c1, .slice b1 ws.length d1, .slice e1 (mMap ps).length g1, .int .i64 (mSeq ps)] 32) := ⟨_, rfl⟩
    have hbV : Below w1.heap.size w1 V := by rw [hV]; exact (Below.refl _ _).alloc (Nat.le_refl _) _
    have hWV := after hb1 hbV
    have k0 := (hb1.cell (p := ⟨w.heap.size, 0, none⟩) hsz).trans x0
    have k1 := (hb1.cell (p := ⟨w.heap.size, 1, none⟩) hsz).trans x1
    have hlt1 : w.heap.size < w1.heap.size := Nat.lt_of_lt_of_le hsz hb1.size
    have hsV : w1.heap.size < V.heap.size := by rw [hV]; simp
    have z2 : V.cell? ⟨w1.heap.size, 2, none⟩ = some (.slice e1 (mMap ps).length g1) := by rw [hV]; simp
    have z3 : V.cell? ⟨w1.heap.size, 3, none⟩ = some (.int .i64 (mSeq ps)) := by rw [hV]; simp
    have HM := hide ((rd_of_own ho3).below hbV)
    have HF := hide ((hms.below hbW).below hWV)
    have HP := hide ((hp.below hbW).below hWV)
    have HW := hide ((hw.below hbW).below hWV)
    have hbwV := after hbW hWV
    have y2 := (hWV.cell (p := ⟨w.heap.size, 2, none⟩) hsz).trans x2
    have y3 := (hWV.cell (p := ⟨w.heap.size, 3, none⟩) hsz).trans x3
    clear hown ho3 hb1 hbV x0 x1 x2 x3 hp hw hms hbW hWV hok
    go_wp2_with fail
    rw [← hV]
    clear hV k0 k1
    refine (specChipOk_any a b ps ws c d V HP.out HW.out hl hm hs).mono ?_
    rw [hB]
    rintro e w2 ⟨rfl, hb2⟩
    have s2 := (hb2.cell (p := ⟨w1.heap.size, 2, none⟩) hsV).trans z2
    have s3 := (hb2.cell (p := ⟨w1.heap.size, 3, none⟩) hsV).trans z3
    have t2 := (hb2.cell (p := ⟨w.heap.size, 2, none⟩) (show w.heap.size < V.heap.size by omega)).trans y2
    have t3 := (hb2.cell (p := ⟨w.heap.size, 3, none⟩) (show w.heap.size < V.heap.size by omega)).trans y3
    have HM2 := hide (HM.out.below hb2)
    have HF2 := hide (HF.out.below hb2)
    have hbw2 := after hbwV hb2
    clear z2 z3 y2 y3 HM HF HP HW hb2 hbwV hB hs
    go_wp2_with fail
    refine (ints_any e1 e0 (mMap ps) ms g1 f w2 HM2.out HF2.out (by rw [mMap_len]; decide) hn).mono ?_
    obtain ⟨D, hD⟩ : ∃ D, D = decide (mMap ps = ms) := ⟨_, rfl⟩
    rw [← hD]
    rintro e u ⟨rfl, n, hu⟩
    have u2 : u.cell? ⟨w1.heap.size, 3, none⟩ = some (.int .i64 (mSeq ps)) := by rw [hu]; exact s3
    have u3 : u.cell? ⟨w.heap.size, 3, none⟩ = some (.int .i64 q) := by rw [hu]; exact t3
    have hbwu : Below w.heap.size w u := by rw [hu]; exact after_drew hbw2 n
    clear hu s2 s3 t2 t3 HM2 HF2 hbw2
    cases D with
    | false =>
      have HRF : Hid (R = false) := by show _ = _; rw [HR.out, ← hD]; rfl
      clear hD HR
      go_wp2
      go_ret
      exact ⟨ret_bool HRF.out.symm, hbwu⟩
    | true =>
      have HRF : Hid (R = (mSeq ps == q)) := by show _ = _; rw [HR.out, ← hD, Bool.true_and]; rfl
      clear hD HR
      go_wp2
      go_ret
      exact ⟨ret_bool HRF.out.symm, hbwu⟩
  · have hB := chipOkB_false hok
    have HR : Hid (ftlOkB ps ws ms q = false) := by show _ = _; rw [ftlOkB, hB]; rfl
    go_enter Try.func21, Try.ntmps21
    go_wp2_with fail
    rw [← hW]
    clear hW
    refine (specMount_bad a b ps ws c d W (hp.below hbW) (hw.below hbW) hl hm hs hok).mono ?_
    rintro e w1 ⟨v, rfl, hown, hb1⟩
    obtain ⟨a1, c1, b1, d1, e1, g1, rfl, -⟩ := ftl_open hown
    obtain ⟨V, hV⟩ : ∃ V, V = w1.alloc (Obj.cells #[.slice a1 ([] : List ByteArray).length c1, .slice b1 ([] : List Int).length d1, .slice e1 ([] : List Int).length g1, .int .i64 0] 32) := ⟨_, rfl⟩
    have hbV : Below w1.heap.size w1 V := by rw [hV]; exact (Below.refl _ _).alloc (Nat.le_refl _) _
    have hWV := after hb1 hbV
    have k0 := (hb1.cell (p := ⟨w.heap.size, 0, none⟩) hsz).trans x0
    have k1 := (hb1.cell (p := ⟨w.heap.size, 1, none⟩) hsz).trans x1
    have hlt1 : w.heap.size < w1.heap.size := Nat.lt_of_lt_of_le hsz hb1.size
    have HP := hide ((hp.below hbW).below hWV)
    have HW := hide ((hw.below hbW).below hWV)
    have hbwV := after hbW hWV
    clear hown hb1 hbV x0 x1 x2 x3 hp hw hms hbW hWV hok
    simp only [List.length_nil] at hV
    go_wp2_with fail
    rw [← hV]
    clear hV k0 k1
    refine (specChipOk_any a b ps ws c d V HP.out HW.out hl hm hs).mono ?_
    rw [hB]
    rintro e w2 ⟨rfl, hb2⟩
    have hbw2 := after hbwV hb2
    clear HP HW hb2 hB hs
    go_wp2
    go_ret
    exact ⟨ret_bool HR.out.symm, hbw2⟩

end Go.Proofs.Ytghlnagainodaaa

namespace Go.Proofs.Ytghlnagainodaaa
open Go.RowKit

/-- Four cells of a variable. -/
def C4 (u : World) (p : Nat) (x0 x1 x2 x3 : Value) : Prop :=
  (u.cell? ⟨p, 0, none⟩ = some x0 ∧ u.cell? ⟨p, 1, none⟩ = some x1 ∧ u.cell? ⟨p, 2, none⟩ = some x2 ∧ u.cell? ⟨p, 3, none⟩ = some x3) ∧ ∀ j, u.frozen? ⟨p, j, none⟩ = false
theorem C4.lt {u : World} {p : Nat} {x0 x1 x2 x3 : Value} (h : C4 u p x0 x1 x2 x3) : p < u.heap.size := lt_of_cell h.1.1
theorem C4.below {u u' : World} {p : Nat} {x0 x1 x2 x3 : Value} (h : C4 u p x0 x1 x2 x3) (hb : Below u.heap.size u u') : C4 u' p x0 x1 x2 x3 :=
  ⟨⟨(hb.cell (p := ⟨p, 0, none⟩) h.lt).trans h.1.1, (hb.cell (p := ⟨p, 1, none⟩) h.lt).trans h.1.2.1, (hb.cell (p := ⟨p, 2, none⟩) h.lt).trans h.1.2.2.1, (hb.cell (p := ⟨p, 3, none⟩) h.lt).trans h.1.2.2.2⟩, fun j => (hb.frozen (p := ⟨p, j, none⟩) h.lt).trans (h.2 j)⟩
theorem C4.other {u : World} {p q k : Nat} {x0 x1 x2 x3 : Value} (h : C4 u p x0 x1 x2 x3) (hne : q ≠ p) (v : Value) : C4 (u.setCell ⟨q, k, none⟩ v) p x0 x1 x2 x3 :=
  ⟨⟨cell_other h.1.1 hne, cell_other h.1.2.1 hne, cell_other h.1.2.2.1 hne, cell_other h.1.2.2.2 hne⟩, fun j => by simpa using h.2 j⟩
theorem C4.set0 {u : World} {p : Nat} {x0 x1 x2 x3 : Value} (h : C4 u p x0 x1 x2 x3) (v : Value) : C4 (u.setCell ⟨p, 0, none⟩ v) p v x1 x2 x3 :=
  ⟨⟨World.cell?_setCell_same _ _ _ h.1.1, by simpa [go_sem] using h.1.2.1, by simpa [go_sem] using h.1.2.2.1, by simpa [go_sem] using h.1.2.2.2⟩, fun j => by simpa using h.2 j⟩
theorem C4.set1 {u : World} {p : Nat} {x0 x1 x2 x3 : Value} (h : C4 u p x0 x1 x2 x3) (v : Value) : C4 (u.setCell ⟨p, 1, none⟩ v) p x0 v x2 x3 :=
  ⟨⟨by simpa [go_sem] using h.1.1, World.cell?_setCell_same _ _ _ h.1.2.1, by simpa [go_sem] using h.1.2.2.1, by simpa [go_sem] using h.1.2.2.2⟩, fun j => by simpa using h.2 j⟩
theorem C4.set2 {u : World} {p : Nat} {x0 x1 x2 x3 : Value} (h : C4 u p x0 x1 x2 x3) (v : Value) : C4 (u.setCell ⟨p, 2, none⟩ v) p x0 x1 v x3 :=
  ⟨⟨by simpa [go_sem] using h.1.1, by simpa [go_sem] using h.1.2.1, World.cell?_setCell_same _ _ _ h.1.2.2.1, by simpa [go_sem] using h.1.2.2.2⟩, fun j => by simpa using h.2 j⟩
theorem C4.set3 {u : World} {p : Nat} {x0 x1 x2 x3 : Value} (h : C4 u p x0 x1 x2 x3) (v : Value) : C4 (u.setCell ⟨p, 3, none⟩ v) p x0 x1 x2 v :=
  ⟨⟨by simpa [go_sem] using h.1.1, by simpa [go_sem] using h.1.2.1, by simpa [go_sem] using h.1.2.2.1, World.cell?_setCell_same _ _ _ h.1.2.2.2⟩, fun j => by simpa using h.2 j⟩
theorem c4_new (u : World) (x0 x1 x2 x3 : Value) (t : TypeId) : C4 (u.alloc (.cells #[x0, x1, x2, x3] t)) u.heap.size x0 x1 x2 x3 := ⟨⟨by simp, by simp, by simp, by simp⟩, fun j => by simp⟩

/-- What came in may be read. -/
theorem ftlRows_set {w : World} {base p k : Nat} {v : Value} {e : TypeId} {n : Nat} {xs : List Value} (h : w.ownsRow base e 1 v n xs) (hp : p < base) (u : Value) : (w.setCell ⟨p, k, none⟩ u).ownsRow base e 1 v n xs := ownsRow_setCell_below h hp u

set_option maxRecDepth 100000 in
set_option maxHeartbeats 3200000 in
theorem toFtl_any (a b e0 : Option Addr) (ps : List ByteArray) (ws ms : List Int) (c d f : Nat) (q : Int) (w : World) (hp : Rd w a (vsString ps)) (hw : Rd w b (vsInt ws)) (hms : Rd w e0 (vsInt ms)) (hl : ps.length ≤ 1048576) (hm : ws.length ≤ 1048576) (hn : ms.length ≤ 1048576) :
    Calls Try.prog 8 #[.agg #[.slice a ps.length c, .slice b ws.length d, .slice e0 ms.length f, .int .i64 q]] w fun e w' => ∃ v, e = .returned v ∧ FtlOwn w' w.heap.size v ps ws ms q ∧ Below w.heap.size w w' := by
  obtain ⟨A, hA⟩ : ∃ A, A = w.alloc (Obj.cells #[.slice a ps.length c, .slice b ws.length d, .slice e0 ms.length f, .int .i64 q] 27) := ⟨_, rfl⟩
  obtain ⟨A2, hA2⟩ : ∃ A2, A2 = A.alloc (Obj.cells #[.slice none 0 0, .slice none 0 0, .slice none 0 0, .int .i64 0] 32) := ⟨_, rfl⟩
  obtain ⟨W, hW⟩ : ∃ W, W = A2.alloc (Obj.cells #[.slice none 0 0, .slice none 0 0, .slice none 0 0, .int .i64 0] 32) := ⟨_, rfl⟩
  have hsA : A.heap.size = w.heap.size + 1 := by rw [hA]; simp
  have hsA2 : A2.heap.size = w.heap.size + 1 + 1 := by rw [hA2]; simp [hsA]
  have hb0 : Below w.heap.size w A := by rw [hA]; exact (Below.refl _ _).alloc (Nat.le_refl _) _
  have hb1 : Below A.heap.size A A2 := by rw [hA2]; exact (Below.refl _ _).alloc (Nat.le_refl _) _
  have hb2 : Below A2.heap.size A2 W := by rw [hW]; exact (Below.refl _ _).alloc (Nat.le_refl _) _
  have k0 : C4 W w.heap.size (.slice a ps.length c) (.slice b ws.length d) (.slice e0 ms.length f) (.int .i64 q) := by
    have : C4 A w.heap.size (.slice a ps.length c) (.slice b ws.length d) (.slice e0 ms.length f) (.int .i64 q) := by rw [hA]; exact c4_new _ _ _ _ _ _
    exact (this.below hb1).below hb2
  have k1 : C4 W (w.heap.size + 1) (.slice none 0 0) (.slice none 0 0) (.slice none 0 0) (.int .i64 0) := by
    have : C4 A2 A.heap.size (.slice none 0 0) (.slice none 0 0) (.slice none 0 0) (.int .i64 0) := by rw [hA2]; exact c4_new _ _ _ _ _ _
    rw [hsA] at this
    exact this.below hb2
  have k2 : C4 W (w.heap.size + 1 + 1) (.slice none 0 0) (.slice none 0 0) (.slice none 0 0) (.int .i64 0) := by
    have : C4 W A2.heap.size (.slice none 0 0) (.slice none 0 0) (.slice none 0 0) (.int .i64 0) := by rw [hW]; exact c4_new _ _ _ _ _ _
    rw [hsA2] at this
    exact this
  have hbW : Below w.heap.size w W := after (after hb0 hb1) hb2
  have hsW : w.heap.size + 1 + 1 < W.heap.size := k2.lt
  have hp1 := hp.below hbW
  have hw1 := hw.below hbW
  have hms1 := hms.below hbW
  have HMS := hide hms
  clear hp hw hms hb0 hb1 hb2 hsA hsA2 hms1
  obtain ⟨⟨c00, c01, c02, c03⟩, -⟩ := id k0
  go_enter Try.func8, Try.ntmps8
  go_wp2_with fail
  rw [← hA]
  rw [← hA2]
  rw [← hW]
  clear hA hA2 hW
  refine (toChip_any a b ps ws c d W hp1 hw1 hl hm).mono ?_
  rintro e w1 ⟨v, rfl, hown, hb1⟩
  obtain ⟨a1, c1, b1, d1, rfl, ho1, ho2, hne⟩ := own_open hown
  have hWw1 := hb1.size
  have K0 := k0.below hb1
  have K1 := k1.below hb1
  have K2 := k2.below hb1
  have hbw1 := after hbW hb1
  obtain ⟨U, hU⟩ : ∃ U, U = (w1.setCell ⟨w.heap.size + 1 + 1, 0, none⟩ (.slice a1 ps.length c1)).setCell ⟨w.heap.size + 1 + 1, 1, none⟩ (.slice b1 ws.length d1) := ⟨_, rfl⟩
  have hsU : U.heap.size = w1.heap.size := by rw [hU]; simp [World.setCell]
  have L0 : C4 U w.heap.size (.slice a ps.length c) (.slice b ws.length d) (.slice e0 ms.length f) (.int .i64 q) := by rw [hU]; exact (K0.other (by omega) _).other (by omega) _
  have L1 : C4 U (w.heap.size + 1) (.slice none 0 0) (.slice none 0 0) (.slice none 0 0) (.int .i64 0) := by rw [hU]; exact (K1.other (by omega) _).other (by omega) _
  have L2 : C4 U (w.heap.size + 1 + 1) (.slice a1 ps.length c1) (.slice b1 ws.length d1) (.slice none 0 0) (.int .i64 0) := by rw [hU]; exact (K2.set0 _).set1 _
  have hbU : Below w.heap.size w U := by rw [hU]; exact (hbw1.setCell (by show _ ≤ _; simp; omega) _).setCell (by show _ ≤ _; simp; omega) _
  have hbmU : Below w.heap.size w1 U := by rw [hU]; exact ((Below.refl _ _).setCell (by show _ ≤ _; simp; omega) _).setCell (by show _ ≤ _; simp; omega) _
  have P1 : U.ownsRow W.heap.size 9 1 (.slice a1 ps.length c1) ps.length (vsString ps) := by rw [hU]; exact ftlRows_set (ftlRows_set ho1 hsW _) hsW _
  have P2 : U.ownsRow W.heap.size 3 1 (.slice b1 ws.length d1) ws.length (vsInt ws) := by rw [hU]; exact ftlRows_set (ftlRows_set ho2 hsW _) hsW _
  obtain ⟨⟨u0, u1, -⟩, uf⟩ := id K2
  have uf0 := uf 0
  have uf1 := uf 1
  obtain ⟨⟨-, -, v2, -⟩, -⟩ := id K0
  clear hown ho1 ho2 k0 k1 k2 c00 c01 c02 c03 hb1 hp1 hw1 hbW uf
  have HU := hide hsU
  clear hsU
  go_wp2_with fail
  rw [← hU]
  clear hU u0 u1 uf0 uf1 v2 K0 K1 K2 hbmU hbw1
  refine (toIntS_any e0 ms f U (HMS.out.below hbU) (by omega)).mono ?_
  rintro e w2 ⟨rfl, ho3, hb2⟩
  obtain ⟨g, hg⟩ : ∃ g, g = U.heap.size := ⟨_, rfl⟩
  rw [← hg] at ho3 ⊢
  have N0 := L0.below hb2
  have N1 := L1.below hb2
  have N2 := L2.below hb2
  have Q1 := owns_below P1 hb2
  have Q2 := owns_below P2 hb2
  have hbw2 := after hbU hb2
  have hgW : W.heap.size ≤ g := by have := HU.out; omega
  have r1 : ∀ k, (Value.slice a1 ps.length c1).ownBlock = some k → k < g := fun k hk => by have := (P1.lt k hk).2; omega
  have r2 : ∀ k, (Value.slice b1 ws.length d1).ownBlock = some k → k < g := fun k hk => by have := (P2.lt k hk).2; omega
  have HR := hide (And.intro r1 (And.intro r2 hne))
  clear r1 r2 hne
  obtain ⟨⟨-, -, -, n03⟩, -⟩ := id N0
  obtain ⟨⟨n10, n11, n12, n13⟩, nf1⟩ := id N1
  obtain ⟨⟨n20, n21, n22, n23⟩, nf2⟩ := id N2
  have f10 := nf1 0
  have f11 := nf1 1
  have f12 := nf1 2
  have f13 := nf1 3
  have f22 := nf2 2
  have f23 := nf2 3
  clear L0 L1 L2 P1 P2 hb2 hbU N0 N1 N2 nf1 nf2 hg
  have HQ := hide (And.intro Q1 (And.intro Q2 ho3))
  clear Q1 Q2 ho3
  go_wp2
  have hW1 : w.heap.size + 1 < W.heap.size := by omega
  have hg1 : w.heap.size + 1 < g := by omega
  have hg2 : w.heap.size + 1 + 1 < g := by omega
  refine bodyPost_ret (v := .agg #[.slice a1 ps.length c1, .slice b1 ws.length d1, .slice (some ⟨g, 0, none⟩) ms.length ms.length, .int .i64 q]) (by simp [results, Try.results8, go_sem, n10, n11, n12, n13]) rfl ⟨_, rfl, ⟨_, _, _, rfl, ?_, ?_, ?_, HR.out.2.2, ?_, ?_⟩, (((((hbw2.setCell (by show _ ≤ _; simp; omega) _).setCell (by show _ ≤ _; simp; omega) _).setCell (by show _ ≤ _; simp) _).setCell (by show _ ≤ _; simp) _).setCell (by show _ ≤ _; simp) _).setCell (by show _ ≤ _; simp) _⟩
  · exact owns_mono (ftlRows_set (ftlRows_set (ftlRows_set (ftlRows_set (ftlRows_set (ftlRows_set HQ.out.1 hsW _) hsW _) hW1 _) hW1 _) hW1 _) hW1 _) (by omega)
  · exact owns_mono (ftlRows_set (ftlRows_set (ftlRows_set (ftlRows_set (ftlRows_set (ftlRows_set HQ.out.2.1 hsW _) hsW _) hW1 _) hW1 _) hW1 _) hW1 _) (by omega)
  · exact owns_mono (ftlRows_set (ftlRows_set (ftlRows_set (ftlRows_set (ftlRows_set (ftlRows_set HQ.out.2.2 hg2 _) hg2 _) hg1 _) hg1 _) hg1 _) hg1 _) (by omega)
  · intro k hk; have := HR.out.1 k hk; simp [Value.ownBlock]; omega
  · intro k hk; have := HR.out.2.1 k hk; simp [Value.ownBlock]; omega

set_option maxHeartbeats 1600000 in
theorem szFtl_any (a b e0 : Option Addr) (ps : List ByteArray) (n m c d f : Nat) (q : Int) (l : Nat) (w : World) (hp : Rd w a (vsString ps)) (hn : ps.length ≤ maxLen) (hs : ∀ s ∈ ps, s.size ≤ maxLen) (hm : n ≤ maxLen) (hk : m ≤ maxLen) (hl : l ≤ 1048576) :
    Calls Try.prog 6 #[.agg #[.slice a ps.length c, .slice b n d, .slice e0 m f, .int .i64 q], .int .i64 l] w fun e w' => (∃ r : Int, e = .returned (.int .i64 r) ∧ -1 ≤ r ∧ r ≤ l ∧ (0 ≤ r → ps.length ≤ l ∧ (∀ s ∈ ps, s.size ≤ l) ∧ n ≤ l ∧ m ≤ l)) ∧ Below w.heap.size w w' := by
  obtain ⟨W, hW⟩ : ∃ W, W = w.alloc (Obj.cells #[.slice a ps.length c, .slice b n d, .slice e0 m f, .int .i64 q] 27) := ⟨_, rfl⟩
  have hbW : Below w.heap.size w W := by subst hW; exact (Below.refl _ _).alloc (Nat.le_refl _) _
  have x2 : W.cell? ⟨w.heap.size, 2, none⟩ = some (.slice e0 m f) := by subst hW; simp
  have hsz : w.heap.size < W.heap.size := by subst hW; simp
  go_enter Try.func6, Try.ntmps6
  go_wp2_with fail
  rw [← hW]
  clear hW
  refine (szChip_any a b ps n c d l W (hp.below hbW) hn hs hm hl).mono ?_
  rintro e w1 ⟨⟨r, rfl, hr0, hr1, hr2⟩, hb1⟩
  have hbw1 := after hbW hb1
  have y2 := (hb1.cell (p := ⟨w.heap.size, 2, none⟩) hsz).trans x2
  clear hb1 hbW x2 hp hs
  by_cases hneg : r < 0
  · clear hr2
    go_wp2
    go_ret
    exact ⟨⟨-1, rfl, by omega, by omega, fun h => by omega⟩, hbw1⟩
  · obtain ⟨R, rfl⟩ : ∃ R : Nat, r = R := ⟨r.toNat, by omega⟩
    have HR := hide (hr2 (by omega))
    clear hr2
    go_wp2_with fail
    refine (szIntS_any e0 m f R w1 hk (by omega)).mono ?_
    rintro e u ⟨⟨r2, rfl, hs0, hs1, hs2⟩, hu⟩
    have hu' := hu.symm
    subst hu'
    have HS := hide hs2
    clear hs2
    by_cases hneg2 : r2 < 0
    · go_wp2
      go_ret
      exact ⟨⟨-1, rfl, by omega, by omega, fun h => by omega⟩, hbw1⟩
    · go_wp2
      go_ret
      exact ⟨⟨r2, rfl, by omega, by omega, fun h => ⟨HR.out.1, HR.out.2.1, HR.out.2.2, by have := HS.out h; omega⟩⟩, hbw1⟩

set_option maxHeartbeats 1600000 in
theorem eqFtl_same (a b e0 a' b' e1 : Option Addr) (ps : List ByteArray) (ws ms : List Int) (c d f c' d' f' : Nat) (q : Int) (w : World) (hp : Rd w a (vsString ps)) (hw : Rd w b (vsInt ws)) (hms : Rd w e0 (vsInt ms)) (hp' : Rd w a' (vsString ps)) (hw' : Rd w b' (vsInt ws)) (hms' : Rd w e1 (vsInt ms)) (hl : ps.length ≤ 1048576) (hm : ws.length ≤ 1048576) (hn : ms.length ≤ 1048576) :
    Calls Try.prog 11 #[.agg #[.slice a ps.length c, .slice b ws.length d, .slice e0 ms.length f, .int .i64 q], .agg #[.slice a' ps.length c', .slice b' ws.length d', .slice e1 ms.length f', .int .i64 q]] w fun e w' => e = .returned (.bool true) ∧ Below w.heap.size w w' := by
  obtain ⟨A, hA⟩ : ∃ A, A = w.alloc (Obj.cells #[.slice a ps.length c, .slice b ws.length d, .slice e0 ms.length f, .int .i64 q] 32) := ⟨_, rfl⟩
  obtain ⟨W, hW⟩ : ∃ W, W = A.alloc (Obj.cells #[.slice a' ps.length c', .slice b' ws.length d', .slice e1 ms.length f', .int .i64 q] 32) := ⟨_, rfl⟩
  have hsA : A.heap.size = w.heap.size + 1 := by rw [hA]; simp
  have hb0 : Below w.heap.size w A := by rw [hA]; exact (Below.refl _ _).alloc (Nat.le_refl _) _
  have hb1 : Below A.heap.size A W := by rw [hW]; exact (Below.refl _ _).alloc (Nat.le_refl _) _
  have hbW := after hb0 hb1
  have k0 : C4 W w.heap.size (.slice a ps.length c) (.slice b ws.length d) (.slice e0 ms.length f) (.int .i64 q) := by
    have : C4 A w.heap.size (.slice a ps.length c) (.slice b ws.length d) (.slice e0 ms.length f) (.int .i64 q) := by rw [hA]; exact c4_new _ _ _ _ _ _
    exact this.below hb1
  have k1 : C4 W (w.heap.size + 1) (.slice a' ps.length c') (.slice b' ws.length d') (.slice e1 ms.length f') (.int .i64 q) := by
    have : C4 W A.heap.size (.slice a' ps.length c') (.slice b' ws.length d') (.slice e1 ms.length f') (.int .i64 q) := by rw [hW]; exact c4_new _ _ _ _ _ _
    rw [hsA] at this
    exact this
  have HR := hide (And.intro (hp.below hbW) (And.intro (hw.below hbW) (And.intro (hms.below hbW) (And.intro (hp'.below hbW) (And.intro (hw'.below hbW) (hms'.below hbW))))))
  clear hp hw hms hp' hw' hms' hsA hb0 hb1
  go_enter Try.func11, Try.ntmps11
  go_wp2_with fail
  rw [← hA]
  rw [← hW]
  clear hA hW
  refine (eqChip_same a b a' b' ps ws c d c' d' W HR.out.1 HR.out.2.1 HR.out.2.2.2.1 HR.out.2.2.2.2.1 hl hm).mono ?_
  rintro e w1 ⟨rfl, hb1⟩
  obtain ⟨⟨-, -, x2, x3⟩, -⟩ := id (k0.below hb1)
  obtain ⟨⟨-, -, y2, y3⟩, -⟩ := id (k1.below hb1)
  have hbw1 := after hbW hb1
  have HM := hide (And.intro (HR.out.2.2.1.below hb1) (HR.out.2.2.2.2.2.below hb1))
  clear k0 k1 hb1 hbW HR
  go_wp2_with fail
  refine (eqIntS_any e0 e1 ms ms f f' w1 HM.out.1 HM.out.2 (by omega) (by omega)).mono ?_
  rw [show decide (ms = ms) = true by simp]
  rintro e u ⟨rfl, n, hu⟩
  have z3 : u.cell? ⟨w.heap.size, 3, none⟩ = some (.int .i64 q) := by rw [hu]; exact x3
  have z4 : u.cell? ⟨w.heap.size + 1, 3, none⟩ = some (.int .i64 q) := by rw [hu]; exact y3
  have hbu : Below w.heap.size w u := by rw [hu]; exact after_drew hbw1 n
  clear hu x2 x3 y2 y3 hbw1 HM
  go_wp2
  go_ret
  exact ⟨rfl, hbu⟩

/-- Two values that lie in no one block. -/
abbrev Apart (v u : Value) : Prop := ∀ k, v.ownBlock = some k → u.ownBlock ≠ some k

set_option maxHeartbeats 1600000 in
theorem markFtl_any (a b e0 : Option Addr) (n m l c d f base q : Nat) (z : Int) (xs ys zs : List Value) (w : World) (h1 : w.ownsRow base 9 1 (.slice a n c) n xs) (h2 : w.ownsRow base 3 1 (.slice b m d) m ys) (h3 : w.ownsRow base 3 1 (.slice e0 l f) l zs)
    (a12 : Apart (.slice a n c) (.slice b m d)) (a13 : Apart (.slice a n c) (.slice e0 l f)) (a23 : Apart (.slice b m d) (.slice e0 l f)) (hn : n ≤ 1048576) (hm : m ≤ 1048576) (hl : l ≤ 1048576) (hq0 : 0 < q) (hq : q ≤ 1000000) :
    Calls Try.prog 12 #[.agg #[.slice a n c, .slice b m d, .slice e0 l f, .int .i64 z], .int .i64 q] w fun e w' => e = .returned (.int .i64 ((q + n + m + l : Nat) : Int)) ∧ w'.ownsRow base 9 1 (.slice a n c) n (marksT q n) ∧ w'.ownsRow base 3 1 (.slice b m d) m (marksI (q + n) m) ∧ w'.ownsRow base 3 1 (.slice e0 l f) l (marksI (q + n + m) l) ∧
      OnlyIn w w' [(Value.slice a n c).ownBlock, (Value.slice b m d).ownBlock, (Value.slice e0 l f).ownBlock] := by
  obtain ⟨W, hW⟩ : ∃ W, W = w.alloc (Obj.cells #[.slice a n c, .slice b m d, .slice e0 l f, .int .i64 z] 32) := ⟨_, rfl⟩
  have hbW : Below w.heap.size w W := by rw [hW]; exact (Below.refl _ _).alloc (Nat.le_refl _) _
  have k0 : C4 W w.heap.size (.slice a n c) (.slice b m d) (.slice e0 l f) (.int .i64 z) := by rw [hW]; exact c4_new _ _ _ _ _ _
  have na : ∀ k, (Value.slice a n c).ownBlock = some k → k < w.heap.size := fun k hk => (h1.lt k hk).2
  have nb : ∀ k, (Value.slice b m d).ownBlock = some k → k < w.heap.size := fun k hk => (h2.lt k hk).2
  have HH := hide (And.intro (owns_below h1 hbW) (And.intro (owns_below h2 hbW) (owns_below h3 hbW)))
  have HAP := hide (And.intro a12 (And.intro a13 a23))
  have HN := hide (And.intro na nb)
  have HBW := hide hbW
  clear h1 h2 h3 a12 a13 a23 na nb hbW
  obtain ⟨⟨x0, x1, x2, -⟩, -⟩ := id k0
  go_enter Try.func12, Try.ntmps12
  go_wp2_with fail
  rw [← hW]
  clear hW
  refine (markChip_any a b n m c d base q xs ys W HH.out.1 HH.out.2.1 HAP.out.1 hn hm hq0 hq).mono ?_
  rintro e w1 ⟨rfl, o1, o2, on1⟩
  have y2 : w1.cell? ⟨w.heap.size, 2, none⟩ = some (.slice e0 l f) := by
    have hb := on1.block w.heap.size k0.lt (by
      intro hk
      simp only [List.mem_cons, List.not_mem_nil, or_false] at hk
      rcases hk with hk | hk
      · have := HN.out.1 _ hk.symm; omega
      · have := HN.out.2 _ hk.symm; omega)
    simp only [World.cell?] at x2 ⊢
    rw [hb]; exact x2
  have o3 : w1.ownsRow base 3 1 (.slice e0 l f) l zs := on1.owns HH.out.2.2 (fun k hk hc => by
    simp only [List.mem_cons, List.not_mem_nil, or_false] at hc
    rcases hc with hc | hc
    · exact HAP.out.2.1 k hc.symm hk
    · exact HAP.out.2.2 k hc.symm hk)
  have HO := hide (And.intro o1 (And.intro o2 on1))
  clear k0 x0 x1 x2 o1 o2 on1
  go_wp2_with fail
  refine (markIntS_any (.slice e0 l f) l zs base (q + n + m) w1 o3 hl (by omega)).mono ?_
  rintro e w2 ⟨rfl, o3', hg2⟩
  have p1 : w2.ownsRow base 9 1 (.slice a n c) n (marksT q n) := HO.out.1.kept hg2 (by
    cases hv : (Value.slice a n c).ownBlock with
    | none => exact .inl rfl
    | some k => right; intro e; exact HAP.out.2.1 k hv e.symm)
  have p2 : w2.ownsRow base 3 1 (.slice b m d) m (marksI (q + n) m) := HO.out.2.1.kept hg2 (by
    cases hv : (Value.slice b m d).ownBlock with
    | none => exact .inl rfl
    | some k => right; intro e; exact HAP.out.2.2 k hv e.symm)
  have on2 : OnlyIn w w2 [(Value.slice a n c).ownBlock, (Value.slice b m d).ownBlock, (Value.slice e0 l f).ownBlock] := by
    have := ((OnlyIn.of_below HBW.out []).trans HO.out.2.2).trans (OnlyIn.of_grown hg2)
    simpa using this
  clear hg2 o3 y2 HO
  go_wp2
  go_ret
  exact ⟨rfl, p1, p2, o3', on2⟩

end Go.Proofs.Ytghlnagainodaaa
