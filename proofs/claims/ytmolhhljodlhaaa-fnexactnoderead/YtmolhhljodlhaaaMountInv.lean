/-
  What holds while Mount goes through the pages.
-/
import Derived.Test.YtmolhhljodlhaaaSpecMount
namespace Go.Proofs.Ytmolhhljodlhaaa
open Go.RowKit

/-- The variable f at block fb, the map's row at gm, the row of the greatest numbers at fb + 1. -/
def MInv (fb gm km : Nat) (p0 p1 : Value) (wr : World) (st : List Int × List Int × Int) : Prop :=
  (wr.cell? ⟨fb, 0, none⟩ = some p0 ∧ wr.cell? ⟨fb, 1, none⟩ = some p1 ∧ wr.cell? ⟨fb, 2, none⟩ = some (.slice (some ⟨gm, 0, none⟩) 26 km) ∧ wr.cell? ⟨fb, 3, none⟩ = some (.int .i64 st.2.2)) ∧ (∀ j, wr.frozen? ⟨fb, j, none⟩ = false) ∧
    wr.ownsRow (fb + 2) 3 1 (.slice (some ⟨gm, 0, none⟩) 26 km) 26 (vsInt st.2.1) ∧ wr.ownsRow (fb + 1) 3 1 (.slice (some ⟨fb + 1, 0, none⟩) 26 26) 26 (vsInt st.1)

theorem MInv.below {fb gm km : Nat} {p0 p1 : Value} {wr w' : World} {st : List Int × List Int × Int} (h : MInv fb gm km p0 p1 wr st) (hb : Below wr.heap.size wr w') : MInv fb gm km p0 p1 w' st := by
  obtain ⟨⟨h0, h1, h2, h3⟩, hf, hm, hbst⟩ := h
  have hl := lt_of_cell h0
  refine ⟨⟨(hb.cell (p := ⟨fb, 0, none⟩) hl).trans h0, (hb.cell (p := ⟨fb, 1, none⟩) hl).trans h1, (hb.cell (p := ⟨fb, 2, none⟩) hl).trans h2, (hb.cell (p := ⟨fb, 3, none⟩) hl).trans h3⟩, fun j => (hb.frozen (p := ⟨fb, j, none⟩) hl).trans (hf j), owns_below hm hb, owns_below hbst hb⟩
theorem cell_other {w : World} {p o q k : Nat} {v u : Value} (h : w.cell? ⟨p, o, none⟩ = some v) (hne : q ≠ p) : (w.setCell ⟨q, k, none⟩ u).cell? ⟨p, o, none⟩ = some v := by
  rw [World.cell?_setCell_other _ _ _ _ (by intro e; injection e with e1; exact hne e1)]
  exact h
theorem MInv.best {fb gm km : Nat} {p0 p1 : Value} {wr : World} {st : List Int × List Int × Int} (h : MInv fb gm km p0 p1 wr st) (S : Nat) (q : Int) : MInv fb gm km p0 p1 (wr.setCell ⟨fb + 1, S, none⟩ (.int .i64 q)) (st.1.set S q, st.2.1, st.2.2) := by
  obtain ⟨⟨h0, h1, h2, h3⟩, hf, hm, hbst⟩ := h
  have hg := (owns_lt hm).1
  have hs := hbst.stored S (.int .i64 q)
  refine ⟨⟨cell_other h0 (by omega), cell_other h1 (by omega), cell_other h2 (by omega), cell_other h3 (by omega)⟩, fun j => by simpa using hf j, hm.kept hs.2 (.inr (by simp [Value.ownBlock]; omega)), ?_⟩
  have e : (vsInt st.1).set S (.int .i64 q) = vsInt (st.1.set S q) := by simp [List.map_set]
  have := hs.1
  rw [e] at this
  exact this
theorem MInv.map {fb gm km : Nat} {p0 p1 : Value} {wr : World} {st : List Int × List Int × Int} (h : MInv fb gm km p0 p1 wr st) (S : Nat) (k : Int) : MInv fb gm km p0 p1 (wr.setCell ⟨gm, S, none⟩ (.int .i64 k)) (st.1, st.2.1.set S k, st.2.2) := by
  obtain ⟨⟨h0, h1, h2, h3⟩, hf, hm, hbst⟩ := h
  have hg := (owns_lt hm).1
  have hs := hm.stored S (.int .i64 k)
  refine ⟨⟨cell_other h0 (by omega), cell_other h1 (by omega), cell_other h2 (by omega), cell_other h3 (by omega)⟩, fun j => by simpa using hf j, ?_, hbst.kept hs.2 (.inr (by simp [Value.ownBlock]; omega))⟩
  have e : (vsInt st.2.1).set S (.int .i64 k) = vsInt (st.2.1.set S k) := by simp [List.map_set]
  have := hs.1
  rw [e] at this
  exact this
theorem MInv.seq {fb gm km : Nat} {p0 p1 : Value} {wr : World} {st : List Int × List Int × Int} (h : MInv fb gm km p0 p1 wr st) (z : Int) : MInv fb gm km p0 p1 (wr.setCell ⟨fb, 3, none⟩ (.int .i64 z)) (st.1, st.2.1, z) := by
  obtain ⟨⟨h0, h1, h2, h3⟩, hf, hm, hbst⟩ := h
  refine ⟨⟨by simpa [go_sem] using h0, by simpa [go_sem] using h1, by simpa [go_sem] using h2, World.cell?_setCell_same _ _ _ h3⟩, fun j => by simpa using hf j, ownsRow_setCell_below hm (show fb < fb + 2 by omega) _, ownsRow_setCell_below hbst (show fb < fb + 1 by omega) _⟩

theorem OnlyIn.keep {w wr w' : World} {L : List (Option Nat)} (h : OnlyIn w wr L) (hb : Below w.heap.size wr w') : OnlyIn w w' L :=
  ⟨hb.os.trans h.os, hb.tape.trans h.tape, hb.output.trans h.output, Nat.le_trans h.size hb.size, fun i hi hn => (hb.block i hi).trans (h.block i hi hn)⟩
theorem OnlyIn.set {w wr : World} {L : List (Option Nat)} (h : OnlyIn w wr L) {p : Nat} (hp : some p ∈ L) (j : Nat) (v : Value) : OnlyIn w (wr.setCell ⟨p, j, none⟩ v) L :=
  ⟨h.os, h.tape, h.output, by simpa [World.setCell] using h.size, fun i hi hn => by
    rw [heap_setCell_other wr ⟨p, j, none⟩ i v (fun e => hn (by rw [e]; exact hp))]; exact h.block i hi hn⟩

/-- The first map: no sector anywhere. -/
theorem repl_step (k : Nat) : vsInt (List.replicate k (-1)) ++ [Value.int .i64 (-1)] = vsInt (List.replicate (k + 1) (-1)) := by
  simp [List.replicate_succ']

end Go.Proofs.Ytmolhhljodlhaaa
