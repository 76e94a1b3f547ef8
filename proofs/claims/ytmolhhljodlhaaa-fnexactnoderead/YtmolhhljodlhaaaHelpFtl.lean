/-
  Contracts of the laws' helpers over what is mounted: toFtl, szFtl, eqFtl.
-/
import Derived.Test.YtmolhhljodlhaaaSpecFtl
namespace Go.Proofs.Ytmolhhljodlhaaa
open Go.RowKit

/-- Four cells of a variable. -/
def C4 (u : World) (p : Nat) (x0 x1 x2 x3 : Value) : Prop :=
  (u.cell? ⟨p, 0, none⟩ = some x0 ∧ u.cell? ⟨p, 1, none⟩ = some x1 ∧ u.cell? ⟨p, 2, none⟩ = some x2 ∧ u.cell? ⟨p, 3, none⟩ = some x3) ∧ ∀ j, u.frozen? ⟨p, j, none⟩ = false
theorem C4.lt {u : World} {p : Nat} {x0 x1 x2 x3 : Value} (h : C4 u p x0 x1 x2 x3) : p < u.heap.size := lt_of_cell h.1.1
theorem C4.below {u u' : World} {p : Nat} {x0 x1 x2 x3 : Value} (h : C4 u p x0 x1 x2 x3) (hb : Below u.heap.size u u') : C4 u' p x0 x1 x2 x3 :=
  ⟨⟨(hb.cell (p := ⟨p, 0, none⟩) h.lt).trans h.1.1, (hb.cell (p := ⟨p, 1, none⟩) h.lt).trans h.1.2.1, (hb.cell (p := ⟨p, 2, none⟩) h.lt).trans h.1.2.2.1, (hb.cell (p := ⟨p, 3, none⟩) h.lt).trans h.1.2.2.2⟩, fun j => (hb.frozen (p := ⟨p, j, none⟩) h.lt).trans (h.2 j)⟩
theorem C4.other {u : World} {p q k : Nat} {x0 x1 x2 x3 : Value} (h : C4 u p x0 x1 x2 x3) (hne : q ≠ p) (v : Value) : C4 (u.setCell ⟨q, k, none⟩ v) p x0 x1 x2 x3 :=
  ⟨⟨cell_other h.1.1 hne, cell_other h.1.2.1 hne, cell_other h.1.2.2.1 hne, cell_other h.1.2.2.2 hne⟩, fun j => by simpa using h.2 j⟩
theorem C4.set0 {u : World} {p : Nat} {x0 x1 x2 x3 : Value} (h : C4 u p x0 x1 x2 x3) (v : Value) : C4 (u.setCell ⟨p, 0, none⟩ v) p v x1 x2 x3 :=
  ⟨⟨World.cell?_setCell_same _ _ _ h.1.1, by simpa [go_sem] using h.1.2.1, by simpa [go_sem] using h.1.2.2.1, by simpa [go_sem] using h.1.2.2.2⟩, fun j => by simpa using h.2 j⟩
theorem C4.set1 {u : World} {p : Nat} {x0 x1 x2 x3 : Value} (h : C4 u p x0 x1 x2 x3) (v : Value) : C4 (u.setCell ⟨p, 1, none⟩ v) p x0 v x2 x3 :=
  ⟨⟨by simpa [go_sem] using h.1.1, World.cell?_setCell_same _ _ _ h.1.2.1, by simpa [go_sem] using h.1.2.2.1, by simpa [go_sem] using h.1.2.2.2⟩, fun j => by simpa using h.2 j⟩
theorem C4.set2 {u : World} {p : Nat} {x0 x1 x2 x3 : Value} (h : C4 u p x0 x1 x2 x3) (v : Value) : C4 (u.setCell ⟨p, 2, none⟩ v) p x0 x1 v x3 :=
  ⟨⟨by simpa [go_sem] using h.1.1, by simpa [go_sem] using h.1.2.1, World.cell?_setCell_same _ _ _ h.1.2.2.1, by simpa [go_sem] using h.1.2.2.2⟩, fun j => by simpa using h.2 j⟩
theorem C4.set3 {u : World} {p : Nat} {x0 x1 x2 x3 : Value} (h : C4 u p x0 x1 x2 x3) (v : Value) : C4 (u.setCell ⟨p, 3, none⟩ v) p x0 x1 x2 v :=
  ⟨⟨by simpa [go_sem] using h.1.1, by simpa [go_sem] using h.1.2.1, by simpa [go_sem] using h.1.2.2.1, World.cell?_setCell_same _ _ _ h.1.2.2.2⟩, fun j => by simpa using h.2 j⟩
theorem c4_new (u : World) (x0 x1 x2 x3 : Value) (t : TypeId) : C4 (u.alloc (.cells #[x0, x1, x2, x3] t)) u.heap.size x0 x1 x2 x3 := ⟨⟨by simp, by simp, by simp, by simp⟩, fun j => by simp⟩

/-- What came in may be read. -/
theorem ftlRows_set {w : World} {base p k : Nat} {v : Value} {e : TypeId} {n : Nat} {xs : List Value} (h : w.ownsRow base e 1 v n xs) (hp : p < base) (u : Value) : (w.setCell ⟨p, k, none⟩ u).ownsRow base e 1 v n xs := ownsRow_setCell_below h hp u

/-- Two values that lie in no one block. -/
abbrev Apart (v u : Value) : Prop := ∀ k, v.ownBlock = some k → u.ownBlock ≠ some k

end Go.Proofs.Ytmolhhljodlhaaa
