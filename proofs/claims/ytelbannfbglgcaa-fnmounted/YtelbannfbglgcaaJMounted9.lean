/-
  What holds while Mount goes through the pages.
  Contracts of the specification's l1Min and l1Max.
  Contract of the specification's Mount, of a chip that is right.
-/
import Derived.Test.YtelbannfbglgcaaJMounted8
import Derived.Test.YtelbannfbglgcaaChecked
import Derived.Test.YtelbannfbglgcaaJMounted0
import Derived.Laws.MakeOwn
namespace Go.Proofs.Ytelbannfbglgcaa
open Go.RowKit

/-- The variable f at block fb, the map's row at gm, the row of the greatest numbers at fb + 1. -/
def MInv (fb gm km : Nat) (p0 p1 : Value) (wr : World) (st : List Int × List Int × Int) : Prop :=
  (wr.cell? ⟨fb, 0, none⟩ = some p0 ∧ wr.cell? ⟨fb, 1, none⟩ = some p1 ∧ wr.cell? ⟨fb, 2, none⟩ = some (.slice (some ⟨gm, 0, none⟩) 26 km) ∧ wr.cell? ⟨fb, 3, none⟩ = some (.int .i64 st.2.2)) ∧ (∀ j, wr.frozen? ⟨fb, j, none⟩ = false) ∧
    wr.ownsRow (fb + 2) 3 1 (.slice (some ⟨gm, 0, none⟩) 26 km) 26 (vsInt st.2.1) ∧ wr.ownsRow (fb + 1) 3 1 (.slice (some ⟨fb + 1, 0, none⟩) 26 26) 26 (vsInt st.1)

theorem MInv.below {fb gm km : Nat} {p0 p1 : Value} {wr w' : World} {st : List Int × List Int × Int} (h : MInv fb gm km p0 p1 wr st) (hb : Below wr.heap.size wr w') : MInv fb gm km p0 p1 w' st := by
  obtain ⟨⟨h0, h1, h2, h3⟩, hf, hm, hbst⟩ := h
  have hl := lt_of_cell h0
  refine ⟨⟨(hb.cell (p := ⟨fb, 0, none⟩) hl).trans h0, (hb.cell (p := ⟨fb, 1, none⟩) hl).trans h1, (hb.cell (p := ⟨fb, 2, none⟩) hl).trans h2, (hb.cell (p := ⟨fb, 3, none⟩) hl).trans h3⟩, fun j => (hb.frozen (p := ⟨fb, j, none⟩) hl).trans (hf j), owns_below hm hb, owns_below hbst hb⟩
theorem cell_other {w : World} {p o q k : Nat} {v u : Value} (h : w.cell? ⟨p, o, none⟩ = some v) (hne : q ≠ p) : (w.setCell ⟨q, k, none⟩ u).cell? ⟨p, o, none⟩ = some v := by
  rw [World.cell?_setCell_other _ _ _ _ (by intro e; injection e with e1; exact hne e1)]
  exact h
theorem MInv.best {fb gm km : Nat} {p0 p1 : Value} {wr : World} {st : List Int × List Int × Int} (h : MInv fb gm km p0 p1 wr st) (S : Nat) (q : Int) : MInv fb gm km p0 p1 (wr.setCell ⟨fb + 1, S, none⟩ (.int .i64 q)) (st.1.set S q, st.2.1, st.2.2) := by
  obtain ⟨⟨h0, h1, h2, h3⟩, hf, hm, hbst⟩ := h
  have hg := (owns_lt hm).1
  have hs := hbst.stored S (.int .i64 q)
  refine ⟨⟨cell_other h0 (by omega), cell_other h1 (by omega), cell_other h2 (by omega), cell_other h3 (by omega)⟩, fun j => by simpa using hf j, hm.kept hs.2 (.inr (by simp [Value.ownBlock]; omega)), ?_⟩
  have e : (vsInt st.1).set S (.int .i64 q) = vsInt (st.1.set S q) := by simp [List.map_set]
  have := hs.1
  rw [e] at this
  exact this
theorem MInv.map {fb gm km : Nat} {p0 p1 : Value} {wr : World} {st : List Int × List Int × Int} (h : MInv fb gm km p0 p1 wr st) (S : Nat) (k : Int) : MInv fb gm km p0 p1 (wr.setCell ⟨gm, S, none⟩ (.int .i64 k)) (st.1, st.2.1.set S k, st.2.2) := by
  obtain ⟨⟨h0, h1, h2, h3⟩, hf, hm, hbst⟩ := h
  have hg := (owns_lt hm).1
  have hs := hm.stored S (.int .i64 k)
  refine ⟨⟨cell_other h0 (by omega), cell_other h1 (by omega), cell_other h2 (by omega), cell_other h3 (by omega)⟩, fun j => by simpa using hf j, ?_, hbst.kept hs.2 (.inr (by simp [Value.ownBlock]; omega))⟩
  have e : (vsInt st.2.1).set S (.int .i64 k) = vsInt (st.2.1.set S k) := by simp [List.map_set]
  have := hs.1
  rw [e] at this
  exact this
theorem MInv.seq {fb gm km : Nat} {p0 p1 : Value} {wr : World} {st : List Int × List Int × Int} (h : MInv fb gm km p0 p1 wr st) (z : Int) : MInv fb gm km p0 p1 (wr.setCell ⟨fb, 3, none⟩ (.int .i64 z)) (st.1, st.2.1, z) := by
  obtain ⟨⟨h0, h1, h2, h3⟩, hf, hm, hbst⟩ := h
  refine ⟨⟨by simpa [go_sem] using h0, by simpa [go_sem] using h1, by simpa [go_sem] using h2, World.cell?_setCell_same _ _ _ h3⟩, fun j => by simpa using hf j, ownsRow_setCell_below hm (show fb < fb + 2 by omega) _, ownsRow_setCell_below hbst (show fb < fb + 1 by omega) _⟩

theorem OnlyIn.keep {w wr w' : World} {L : List (Option Nat)} (h : OnlyIn w wr L) (hb : Below w.heap.size wr w') : OnlyIn w w' L :=
  ⟨hb.os.trans h.os, hb.tape.trans h.tape, hb.output.trans h.output, Nat.le_trans h.size hb.size, fun i hi hn => (hb.block i hi).trans (h.block i hi hn)⟩
theorem OnlyIn.set {w wr : World} {L : List (Option Nat)} (h : OnlyIn w wr L) {p : Nat} (hp : some p ∈ L) (j : Nat) (v : Value) : OnlyIn w (wr.setCell ⟨p, j, none⟩ v) L :=
  ⟨h.os, h.tape, h.output, by simpa [World.setCell] using h.size, fun i hi hn => by
    rw [heap_setCell_other wr ⟨p, j, none⟩ i v (fun e => hn (by rw [e]; exact hp))]; exact h.block i hi hn⟩

/-- The first map: no sector anywhere. -/
theorem repl_step (k : Nat) : vsInt (List.replicate k (-1)) ++ [Value.int .i64 (-1)] = vsInt (List.replicate (k + 1) (-1)) := by
  simp [List.replicate_succ']

end Go.Proofs.Ytelbannfbglgcaa

namespace Go.Proofs.Ytelbannfbglgcaa
open Go.RowKit

theorem min_any (x y : Int) (w : World) : Calls Try.prog 70 #[.int .i64 x, .int .i64 y] w fun e w' => e = .returned (.int .i64 (min x y)) ∧ w' = w := by
  by_cases h : x < y
  · go_enter Try.func70, Try.ntmps70
    go_wp2
    go_ret
    exact ⟨ret_int (by omega), rfl⟩
  · go_enter Try.func70, Try.ntmps70
    go_wp2
    go_ret
    exact ⟨ret_int (by omega), rfl⟩
theorem max_any (x y : Int) (w : World) : Calls Try.prog 69 #[.int .i64 x, .int .i64 y] w fun e w' => e = .returned (.int .i64 (max x y)) ∧ w' = w := by
  by_cases h : y < x
  · go_enter Try.func69, Try.ntmps69
    go_wp2
    go_ret
    exact ⟨ret_int (by omega), rfl⟩
  · go_enter Try.func69, Try.ntmps69
    go_wp2
    go_ret
    exact ⟨ret_int (by omega), rfl⟩

end Go.Proofs.Ytelbannfbglgcaa

namespace Go.Proofs.Ytelbannfbglgcaa
open Go.RowKit

theorem made_ints (n : Nat) : madeCells (Value.int .i64 0).cells n = (vsInt (List.replicate n 0)).toArray := by
  have e : vsInt (List.replicate n 0) = List.replicate n (Value.int .i64 0) := List.map_replicate
  rw [e]
  exact Array.ext (by simp [madeCells]) (fun i h1 h2 => by simp [madeCells, Value.cells, Nat.mod_one])

set_option maxRecDepth 100000 in
set_option maxHeartbeats 6400000 in
theorem specMount_ok (a b : Option Addr) (ps : List ByteArray) (ws : List Int) (c d : Nat) (w : World) (hp : Rd w a (vsString ps)) (hw : Rd w b (vsInt ws)) (hok : chipOkP ps ws) :
    Calls Try.prog 28 #[.agg #[.slice a ps.length c, .slice b ws.length d]] w fun e w' => ∃ v, e = .returned v ∧ FtlOwn w' w.heap.size v ps ws (mMap ps) (mSeq ps) ∧ Below w.heap.size w w' := by
  obtain ⟨i2, hi2, hz0, hz1, hz2⟩ := info_parts infoInt
  have k26 : ∀ w, (Instr.makeSlice 25 (.int .i64 26) (.int .i64 26)).run Try.prog w = .ok (.slice (some ⟨w.heap.size, 0, none⟩) 26 26) (w.alloc (.cells (vsInt (List.replicate 26 0)).toArray 3)) := by
    intro w
    have := run_make (P := Try.prog) w 25 3 i2 _ Try.underlying25 hi2 hz0 .i64 .i64 26 26 (by decide) (by decide) (by rw [hz2]; decide) (by decide)
    rw [hz1, show Int.toNat 26 * 1 = 26 from rfl, made_ints] at this
    exact this
  obtain ⟨Z, hZ⟩ : ∃ Z, Z = (vsInt (List.replicate 26 0)).toArray := ⟨_, rfl⟩
  rw [← hZ] at k26
  have HZ := hide hZ
  clear hZ
  obtain ⟨W, hW⟩ : ∃ W, W = (w.alloc (Obj.cells #[.slice a ps.length c, .slice b ws.length d] 27)).alloc (Obj.cells #[.slice none 0 0, .slice none 0 0, .slice none 0 0, .int .i64 0] 47) := ⟨_, rfl⟩
  have hbW : Below w.heap.size w W := by subst hW; exact ((Below.refl _ _).alloc (Nat.le_refl _) _).alloc (by simp) _
  have cW : W.cell? ⟨w.heap.size, 0, none⟩ = some (.slice a ps.length c) ∧ W.cell? ⟨w.heap.size, 1, none⟩ = some (.slice b ws.length d) ∧ W.cell? ⟨w.heap.size + 1, 0, none⟩ = some (.slice none 0 0) ∧ W.cell? ⟨w.heap.size + 1, 1, none⟩ = some (.slice none 0 0) ∧ W.cell? ⟨w.heap.size + 1, 2, none⟩ = some (.slice none 0 0) ∧ W.cell? ⟨w.heap.size + 1, 3, none⟩ = some (.int .i64 0) ∧ (∀ j, W.frozen? ⟨w.heap.size + 1, j, none⟩ = false) ∧ w.heap.size + 1 < W.heap.size := by
    subst hW; refine ⟨?_, ?_, ?_, ?_, ?_, ?_, fun j => ?_, ?_⟩ <;> simp [go_sem]
  obtain ⟨y0, y1, x0, x1, x2, x3, xf, hsz⟩ := cW
  have hB := chipOkB_true hok
  have HOK := hide hok
  obtain ⟨hl, hm, hs8, hx⟩ := hok
  have HL : Hid (ps.length = 60 ∧ ws.length = 10) := ⟨hl, hm⟩
  have hl1 : 60 ≤ ps.length ∧ ps.length ≤ 60 := by omega
  have hm1 : 10 ≤ ws.length ∧ ws.length ≤ 10 := by omega
  clear hl hm
  go_enter Try.func28, Try.ntmps28
  go_wp2_with fail
  rw [← hW]
  clear hW
  refine (specChipOk_any a b ps ws c d _ (hp.below hbW) (hw.below hbW) (by omega) (by omega) (fun s h => by have := hs8 s h; omega)).mono ?_
  rw [hB]
  rintro e w1 ⟨rfl, hb1⟩
  have hbw1 := after hbW hb1
  have hsz1 : w.heap.size + 1 < w1.heap.size := Nat.lt_of_lt_of_le hsz hb1.size
  have k0 := (hb1.cell (p := ⟨w.heap.size, 0, none⟩) (show w.heap.size < W.heap.size by omega)).trans y0
  have k1 := (hb1.cell (p := ⟨w.heap.size, 1, none⟩) (show w.heap.size < W.heap.size by omega)).trans y1
  clear hs8 hx hB
  go_wp2_with fail
  refine (copy_any a b ps ws c d _ (hp.below hbw1) (hw.below hbw1) HL.out.1 HL.out.2).mono ?_
  rintro e w2 ⟨v, rfl, hown, hb2⟩
  obtain ⟨g, kg, g', kg', rfl, ho1, ho2, hne, hg1, hg2, hg3, hg4⟩ := own_form hown (by omega) (by omega)
  have hbW2 := after hb1 hb2
  have hbw2 := after hbw1 hb2
  have hs2 := hb2.size
  obtain ⟨fb, hfb⟩ : ∃ fb, fb = w2.heap.size := ⟨_, rfl⟩
  obtain ⟨V2, hV2⟩ : ∃ V, V = w2.alloc (Obj.cells #[.slice (some ⟨g, 0, none⟩) ps.length kg, .slice (some ⟨g', 0, none⟩) ws.length kg', .slice none 0 0, .int .i64 1] 47) := ⟨_, rfl⟩
  obtain ⟨V3, hV3⟩ : ∃ V, V = V2.alloc (Obj.cells Z 3) := ⟨_, rfl⟩
  have hsV2 : V2.heap.size = fb + 1 := by rw [hV2, hfb]; simp
  have hsV3 : V3.heap.size = fb + 2 := by rw [hV3]; simp [hsV2]
  have hbV2 : Below w2.heap.size w2 V2 := by rw [hV2]; exact (Below.refl _ _).alloc (Nat.le_refl _) _
  have hb23 : Below V2.heap.size V2 V3 := by rw [hV3]; exact (Below.refl _ _).alloc (Nat.le_refl _) _
  have hbV3 : Below w2.heap.size w2 V3 := after hbV2 hb23
  have cF : V3.cell? ⟨fb, 0, none⟩ = some (.slice (some ⟨g, 0, none⟩) ps.length kg) ∧ V3.cell? ⟨fb, 1, none⟩ = some (.slice (some ⟨g', 0, none⟩) ws.length kg') ∧ V3.cell? ⟨fb, 2, none⟩ = some (.slice none 0 0) ∧ V3.cell? ⟨fb, 3, none⟩ = some (.int .i64 1) ∧ ∀ j, V3.frozen? ⟨fb, j, none⟩ = false := by
    have hlt : fb < V2.heap.size := by omega
    refine ⟨(hb23.cell (p := ⟨fb, 0, none⟩) hlt).trans ?_, (hb23.cell (p := ⟨fb, 1, none⟩) hlt).trans ?_, (hb23.cell (p := ⟨fb, 2, none⟩) hlt).trans ?_, (hb23.cell (p := ⟨fb, 3, none⟩) hlt).trans ?_, fun j => (hb23.frozen (p := ⟨fb, j, none⟩) hlt).trans ?_⟩ <;> (rw [hV2, hfb]; simp)
  have oB : V3.ownsRow (fb + 1) 3 1 (.slice (some ⟨fb + 1, 0, none⟩) 26 26) 26 (vsInt (List.replicate 26 0)) := by
    refine ⟨by simp, .inr ⟨fb + 1, 26, Z, rfl, Nat.le_refl _, ?_, Nat.le_refl _, by unfold maxLen; omega, by rw [HZ.out]; simp, by rw [HZ.out]; simp⟩⟩
    rw [hV3, ← hsV2]; exact heap_alloc_new _ _
  have HP := hide (hp)
  have HW2 := hide (And.intro ho1 ho2)
  have HBW2 := hide hbW2
  have HY := hide (And.intro y0 (And.intro x0 (And.intro x1 (And.intro x2 (And.intro x3 xf)))))
  have HSZ := hide (And.intro hfb (And.intro hsV2 hsV3))
  clear hown ho1 ho2 hp hw hb1 hb2 hbW k0 k1 y0 y1 x0 x1 x2 x3 xf hbw1 hbW2 hfb hsV2 hsV3
  go_wp2_with fail
  rw [← hV2]
  rw [← hV3]
  rw [← HSZ.out.1]
  clear hV2 hV3 k26
  go_loopw [5] (fun i wr => ∃ (k : Nat) (v : Value), k ≤ 26 ∧ i = .int .i64 k ∧ wr.cell? ⟨fb, 2, none⟩ = some v ∧ wr.ownsRow (fb + 2) 3 1 v k (vsInt (List.replicate k (-1))) ∧ (wr.cell? ⟨fb, 0, none⟩ = some (.slice (some ⟨g, 0, none⟩) ps.length kg) ∧ wr.cell? ⟨fb, 1, none⟩ = some (.slice (some ⟨g', 0, none⟩) ws.length kg') ∧ wr.cell? ⟨fb, 3, none⟩ = some (.int .i64 1)) ∧ (∀ j, wr.frozen? ⟨fb, j, none⟩ = false) ∧ OnlyIn V3 wr [some fb]) (fun i _ => 26 - (intOf i).toNat)
  case atStart => exact ⟨0, _, Nat.zero_le _, rfl, cF.2.2.1, World.ownsRow_nil _ _ _ _, ⟨cF.1, cF.2.1, cF.2.2.2.1⟩, cF.2.2.2.2, OnlyIn.of_below (Below.refl _ _) _⟩
  case round =>
    obtain ⟨k, v, hk, rfl, hv, hown, hcs, hfz, hO⟩ := hrel
    have hszr : fb + 2 ≤ wr.heap.size := by have := hO.size; have := HSZ.out.2.2; omega
    by_cases hlt : k < 26
    · have q1 : (k : Int) < 26 := by omega
      have f2 := hfz 2
      have HCS := hide hcs
      have HFZ := hide hfz
      have HO := hide hO
      have HCF := hide cF
      clear hcs hfz hO cF oB
      go_wp2_with (at_builtin; go_must (refine wpList_append_one rfl _ _ 25 rfl (fb + 2) 3 i2 (.int .i64 0) 8 Try.underlying25 hi2 hz0 hz1 hz2 rfl _ _ _ (.int .i64 (-1)) rfl hown rfl rfl (by omega) (by omega) hszr rfl ?_); intro v' u1 hown' hb'; rw [repl_step] at hown'; obtain ⟨gm, km, hv', hgm, hgl⟩ := owns_form hown' (by omega); subst hv'; have r2 := (hb'.cell (p := ⟨fb, 2, none⟩) (show fb < fb + 2 by omega)).trans hv; have rf := (hb'.frozen (p := ⟨fb, 2, none⟩) (show fb < fb + 2 by omega)).trans f2; have HOWN := hide hown'; have HB := hide hb'; clear hown' hb')
      go_roundw
      case rel =>
        have hbb := HB.out
        refine ⟨k + 1, _, by omega, by go_num, World.cell?_setCell_same _ _ _ r2, ownsRow_setCell_below HOWN.out (show fb < fb + 2 by omega) _, ⟨?_, ?_, ?_⟩, fun j => ?_, ?_⟩
        · have := (hbb.cell (p := ⟨fb, 0, none⟩) (show fb < fb + 2 by omega)).trans HCS.out.1
          simpa [go_sem] using this
        · have := (hbb.cell (p := ⟨fb, 1, none⟩) (show fb < fb + 2 by omega)).trans HCS.out.2.1
          simpa [go_sem] using this
        · have := (hbb.cell (p := ⟨fb, 3, none⟩) (show fb < fb + 2 by omega)).trans HCS.out.2.2
          simpa [go_sem] using this
        · have := (hbb.frozen (p := ⟨fb, j, none⟩) (show fb < fb + 2 by omega)).trans (HFZ.out j)
          simpa using this
        · exact (HO.out.keep (by rw [HSZ.out.2.2]; exact hbb)).set (by simp) _ _
      case measure => simp [intOf]; omega
    · obtain ⟨gm, km, rfl, hgm, hgl⟩ := owns_form hown (by omega)
      obtain rfl : k = 26 := by omega
      have q1 : ¬ ((26 : Nat) : Int) < 26 := by omega
      have hI0 : MInv fb gm km (.slice (some ⟨g, 0, none⟩) ps.length kg) (.slice (some ⟨g', 0, none⟩) ws.length kg') wr (mUpto ps 0) :=
        ⟨⟨hcs.1, hcs.2.1, hv, hcs.2.2⟩, hfz, hown, hO.owns oB (fun q hq hc => by simp [Value.ownBlock] at hq hc; omega)⟩
      have hB4 : Below w2.heap.size w2 wr := hbV3.trans (hO.below hbV3.size (by intro q hq; simp at hq; have := HSZ.out.1; omega))
      clear hcs hfz hown hv cF oB hbV3 hbV2 hb23 hO
      generalize wr = V4 at hI0 hB4 hszr hgl ⊢
      clear wr
      go_wp2
      go_loopw [6] (fun i wx => ∃ k : Nat, k ≤ 60 ∧ i = .int .i64 k ∧ MInv fb gm km (.slice (some ⟨g, 0, none⟩) ps.length kg) (.slice (some ⟨g', 0, none⟩) ws.length kg') wx (mUpto ps k) ∧ OnlyIn V4 wx [some fb, some gm, some (fb + 1)]) (fun i _ => 60 - (intOf i).toNat)
      case atStart => exact ⟨0, Nat.zero_le _, rfl, hI0, OnlyIn.of_below (Below.refl _ _) _⟩
      case round =>
        obtain ⟨k, hk, rfl, hI, hO2⟩ := hrel
        have hfbw : fb = w2.heap.size := HSZ.out.1
        have hb2u : Below w2.heap.size w2 wr := hB4.trans (hO2.below hB4.size (by intro q hq; simp at hq; omega))
        have hbu : Below w.heap.size w wr := hbw2.trans (hb2u.mono hbw2.size)
        have hszw : w.heap.size + 1 < w2.heap.size := by omega
        have hbWu : Below W.heap.size W wr := HBW2.out.trans (hb2u.mono HBW2.out.size)
        have c0 := (hbWu.cell (p := ⟨w.heap.size, 0, none⟩) (show w.heap.size < W.heap.size by omega)).trans HY.out.1
        have hr := HP.out.below hbu
        have HFB := hide hfbw
        clear hfbw
        by_cases hlt : k < ps.length
        · obtain ⟨bA, oA, t, rfl, hct, HT⟩ := rdString_at hr hlt
          have ht8 : t.size ≤ 800 := HOK.out.2.2.1 t (List.mem_of_getElem? HT.out)
          have HST : Hid (mUpto ps (k + 1) = mStep (mUpto ps k) k t) := by show _ = _; rw [mUpto, HT.out]; rfl
          have HI := hide hI
          have HO2 := hide hO2
          clear hr hI hO2 hI0
          go_wp2_with fail
          refine (specRecRead_any t wr (by omega)).mono ?_
          rintro e u1 ⟨hyes, hno, hb⟩
          have HI1 := hide (HI.out.below hb)
          have HO21 := hide (HO2.out.keep (hb.mono HO2.out.size))
          cases hrt : recR t with
          | none =>
            obtain rfl := hno hrt
            have HE : Hid (mUpto ps (k + 1) = mUpto ps k) := by show _ = _; rw [HST.out, mStep_no hrt]
            clear hyes hno hrt hb
            go_wp2
            go_roundw
            case rel => exact ⟨k + 1, by omega, by go_num, by rw [HE.out]; exact HI1.out.below ((Below.refl _ _).alloc (Nat.le_refl _) _), HO21.out.keep ((Below.refl _ _).alloc HO21.out.size _)⟩
            case measure => simp [intOf]; omega
          | some r =>
            obtain ⟨s, q, dd⟩ := r
            obtain rfl := hyes s q dd hrt
            obtain ⟨⟨s0, s1⟩, ⟨q0, q1'⟩, -⟩ := recOkB_iff.1 (recR_some hrt).1
            obtain ⟨S, rfl⟩ : ∃ S : Nat, s = S := ⟨s.toNat, by omega⟩
            have hS26 : (S : Int) < 26 := by omega
            have hS0 : (0 : Int) ≤ (S : Int) := by omega
            obtain ⟨st, hst⟩ : ∃ st, st = mUpto ps k := ⟨_, rfl⟩
            have hln := mUpto_len ps k
            rw [← hst] at hln HI1 HST
            clear hst
            obtain ⟨x, hx⟩ : ∃ x, st.1[S]? = some x := ⟨_, List.getElem?_eq_getElem (by omega)⟩
            obtain ⟨y, hy⟩ : ∃ y, st.2.1[S]? = some y := ⟨_, List.getElem?_eq_getElem (by omega)⟩
            obtain ⟨z, hz⟩ : ∃ z, z = min (max st.2.2 (q + 1)) 1000000000 := ⟨_, rfl⟩
            have HZQ := hide hz
            obtain ⟨U, hU⟩ : ∃ U, U = u1.alloc (Obj.cells #[.int .i64 S, .int .i64 q, .string dd] 50) := ⟨_, rfl⟩
            have hbU : Below u1.heap.size u1 U := by rw [hU]; exact (Below.refl _ _).alloc (Nat.le_refl _) _
            have r0 : U.cell? ⟨u1.heap.size, 0, none⟩ = some (.int .i64 S) := by rw [hU]; simp
            have r1 : U.cell? ⟨u1.heap.size, 1, none⟩ = some (.int .i64 q) := by rw [hU]; simp
            have hIU := HI1.out.below hbU
            have xb : U.cell? ⟨fb + 1, S, none⟩ = some (.int .i64 x) := by rw [hIU.2.2.2.cellAt S (by omega), List.getElem?_map, hx]; rfl
            have HOU := hide (HO21.out.keep (hbU.mono HO21.out.size))
            have hfu : fb + 1 < u1.heap.size := (owns_lt HI1.out.2.2.2).2
            have hgu : gm < u1.heap.size := (owns_lt HI1.out.2.2.1).2
            have hgb : fb + 2 ≤ gm := (owns_lt HI1.out.2.2.1).1
            have HIU := hide hIU
            have HXY := hide (And.intro hx hy)
            have HRT := hide hrt
            clear hyes hno hb hIU HI1 HO21 hx hy hz hrt hbU
            go_wp2_with fail
            rw [← hU]
            clear hU
            by_cases hxq : x < q
            · have t5 : decide (x < q) = true := by simpa using hxq
              have HE : Hid (mUpto ps (k + 1) = (st.1.set S q, st.2.1.set S (k : Int), z)) := by
                show _ = _
                rw [HST.out, mStep_great HRT.out (by rw [Int.toNat_natCast, HXY.out.1]; exact hxq), Int.toNat_natCast, HZQ.out]
              clear hxq
              go_quiet (fail)
              obtain ⟨U2, hU2⟩ : ∃ U2, U2 = U.drewN nq := ⟨_, rfl⟩
              have hI2 : MInv fb gm km (.slice (some ⟨g, 0, none⟩) ps.length kg) (.slice (some ⟨g', 0, none⟩) ws.length kg') U2 st := by rw [hU2]; exact HIU.out.below (after_drew (Below.refl _ _) nq)
              have hO3 : OnlyIn V4 U2 [some fb, some gm, some (fb + 1)] := by rw [hU2]; exact ⟨HOU.out.os, HOU.out.tape, HOU.out.output, HOU.out.size, HOU.out.block⟩
              have p0 : U2.cell? ⟨u1.heap.size, 0, none⟩ = some (.int .i64 S) := by rw [hU2]; exact r0
              have p1 : U2.cell? ⟨u1.heap.size, 1, none⟩ = some (.int .i64 q) := by rw [hU2]; exact r1
              have pb : U2.cell? ⟨fb + 1, S, none⟩ = some (.int .i64 x) := by rw [hU2]; exact xb
              have pf := hI2.2.2.2.frozenAt S
              have pm : U2.cell? ⟨gm, S, none⟩ = some (.int .i64 y) := by rw [hI2.2.2.1.cellAt S (by omega), List.getElem?_map, HXY.out.2]; rfl
              have pg := hI2.2.2.1.frozenAt S
              have p2 := hI2.1.2.2.1
              have p3 := hI2.1.2.2.2
              have pz := hI2.2.1 3
              have n1 : ¬ fb + 1 = u1.heap.size := by omega
              have n2 : ¬ gm = u1.heap.size := by omega
              have n3 : ¬ gm = fb := by omega
              have n4 : ¬ fb + 1 = fb := by omega
              have n5 : ¬ gm = fb + 1 := by omega
              have n6 : ¬ fb + 1 = gm := by omega
              have HFIN := hide (And.intro ((hI2.best S q).map S (k : Int) |>.seq z) (((hO3.set (p := fb + 1) (by simp) S (.int .i64 q)).set (p := gm) (by simp) S (.int .i64 k)).set (p := fb) (by simp) 3 (.int .i64 z)))
              rw [← hU2]
              clear hU2 hI2 hO3 r0 r1 xb HIU HOU
              go_wp2_with fail
              refine (max_any _ _ _).mono ?_
              rintro e u ⟨rfl, hu⟩
              have hu' := hu.symm
              subst hu'
              go_wp2_with fail
              refine (min_any _ _ _).mono ?_
              rintro e u ⟨rfl, hu⟩
              have hu' := hu.symm
              subst hu'
              rw [← HZQ.out]
              go_wp2
              go_roundw
              case rel => exact ⟨k + 1, by omega, by go_num, by rw [HE.out]; exact HFIN.out.1, HFIN.out.2⟩
              case measure => simp [intOf]; omega
            · have t5 : decide (x < q) = false := by simpa using hxq
              have HE : Hid (mUpto ps (k + 1) = (st.1, st.2.1, z)) := by
                show _ = _
                rw [HST.out, mStep_small HRT.out (by rw [Int.toNat_natCast, HXY.out.1]; exact hxq), HZQ.out]
              clear hxq
              go_quiet (fail)
              obtain ⟨U2, hU2⟩ : ∃ U2, U2 = U.drewN nq := ⟨_, rfl⟩
              have hI2 : MInv fb gm km (.slice (some ⟨g, 0, none⟩) ps.length kg) (.slice (some ⟨g', 0, none⟩) ws.length kg') U2 st := by rw [hU2]; exact HIU.out.below (after_drew (Below.refl _ _) nq)
              have hO3 : OnlyIn V4 U2 [some fb, some gm, some (fb + 1)] := by rw [hU2]; exact ⟨HOU.out.os, HOU.out.tape, HOU.out.output, HOU.out.size, HOU.out.block⟩
              have p1 : U2.cell? ⟨u1.heap.size, 1, none⟩ = some (.int .i64 q) := by rw [hU2]; exact r1
              have p3 := hI2.1.2.2.2
              have pz := hI2.2.1 3
              have HFIN := hide (And.intro (hI2.seq z) (hO3.set (p := fb) (by simp) 3 (.int .i64 z)))
              rw [← hU2]
              clear hU2 hI2 hO3 r0 r1 xb HIU HOU
              go_wp2_with fail
              refine (max_any _ _ _).mono ?_
              rintro e u ⟨rfl, hu⟩
              have hu' := hu.symm
              subst hu'
              go_wp2_with fail
              refine (min_any _ _ _).mono ?_
              rintro e u ⟨rfl, hu⟩
              have hu' := hu.symm
              subst hu'
              rw [← HZQ.out]
              go_wp2
              go_roundw
              case rel => exact ⟨k + 1, by omega, by go_num, by rw [HE.out]; exact HFIN.out.1, HFIN.out.2⟩
              case measure => simp [intOf]; omega
        · obtain rfl : k = 60 := by omega
          obtain ⟨⟨p0, p1, p2, p3⟩, hfz, hmr, -⟩ := hI
          have hgl2 := (owns_lt hmr).1
          have m0 := (hbWu.cell (p := ⟨w.heap.size + 1, 0, none⟩) hsz).trans HY.out.2.1
          have m1 := (hbWu.cell (p := ⟨w.heap.size + 1, 1, none⟩) hsz).trans HY.out.2.2.1
          have m2 := (hbWu.cell (p := ⟨w.heap.size + 1, 2, none⟩) hsz).trans HY.out.2.2.2.1
          have m3 := (hbWu.cell (p := ⟨w.heap.size + 1, 3, none⟩) hsz).trans HY.out.2.2.2.2.1
          have f0 := (hbWu.frozen (p := ⟨w.heap.size + 1, 0, none⟩) hsz).trans (HY.out.2.2.2.2.2 0)
          have f1 := (hbWu.frozen (p := ⟨w.heap.size + 1, 1, none⟩) hsz).trans (HY.out.2.2.2.2.2 1)
          have f2 := (hbWu.frozen (p := ⟨w.heap.size + 1, 2, none⟩) hsz).trans (HY.out.2.2.2.2.2 2)
          have f3 := (hbWu.frozen (p := ⟨w.heap.size + 1, 3, none⟩) hsz).trans (HY.out.2.2.2.2.2 3)
          have q1 : ¬ ((60 : Nat) : Int) < (ps.length : Int) := by omega
          have HO1 := hide (owns_below HW2.out.1 hb2u)
          have HO2' := hide (owns_below HW2.out.2 hb2u)
          have HMR := hide hmr
          have HBU := hide hbu
          clear hr hO2 hI0 hmr hb2u hbWu hbu hB4
          go_wp2
          refine bodyPost_ret (v := .agg #[.slice (some ⟨g, 0, none⟩) ps.length kg, .slice (some ⟨g', 0, none⟩) ws.length kg', .slice (some ⟨gm, 0, none⟩) 26 km, .int .i64 (mUpto ps 60).2.2]) (by simp [results, Try.results28, go_sem, m0, m1, m2, m3]) rfl ⟨_, rfl, ⟨_, _, _, rfl, ?_, ?_, ?_, ?_, ?_, ?_⟩, (((HBU.out.setCell (by show _ ≤ _; simp) _).setCell (by show _ ≤ _; simp) _).setCell (by show _ ≤ _; simp) _).setCell (by show _ ≤ _; simp) _⟩
          · exact owns_mono (ownsRow_setCell_below (ownsRow_setCell_below (ownsRow_setCell_below (ownsRow_setCell_below HO1.out hsz1 _) hsz1 _) hsz1 _) hsz1 _) (by omega)
          · exact owns_mono (ownsRow_setCell_below (ownsRow_setCell_below (ownsRow_setCell_below (ownsRow_setCell_below HO2'.out hsz1 _) hsz1 _) hsz1 _) hsz1 _) (by omega)
          · have hlm : w.heap.size + 1 < fb + 2 := by have := HFB.out; omega
            rw [mMap_len]
            exact owns_mono (ownsRow_setCell_below (ownsRow_setCell_below (ownsRow_setCell_below (ownsRow_setCell_below HMR.out hlm _) hlm _) hlm _) hlm _) (by omega)
          · intro q hq; simp [Value.ownBlock] at hq ⊢; omega
          · intro q hq; have := HFB.out; simp [Value.ownBlock] at hq ⊢; omega
          · intro q hq; have := HFB.out; simp [Value.ownBlock] at hq ⊢; omega

end Go.Proofs.Ytelbannfbglgcaa
