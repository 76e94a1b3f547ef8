/-
  Contracts of the laws' helpers over records: eqRec, toRec, szRec.
-/
import Derived.Test.YtdicjbabnknjhaaSpecRead
namespace Go.Proofs.Ytdicjbabnknjhaa
open Go.RowKit

theorem cell_aside {w : World} {p o q k : Nat} {v u : Value} (h : w.cell? ⟨p, o, none⟩ = some v) (hne : q ≠ p) : (w.setCell ⟨q, k, none⟩ u).cell? ⟨p, o, none⟩ = some v := by
  rw [World.cell?_of_block (w := w) (a := ⟨p, o, none⟩) (Below.heap_setCell w _ u _ (by show p ≠ q; omega))]
  exact h
/-- Three cells of a variable. -/
def C3 (u : World) (p : Nat) (x0 x1 x2 : Value) : Prop :=
  (u.cell? ⟨p, 0, none⟩ = some x0 ∧ u.cell? ⟨p, 1, none⟩ = some x1 ∧ u.cell? ⟨p, 2, none⟩ = some x2) ∧ ∀ j, u.frozen? ⟨p, j, none⟩ = false
theorem C3.lt {u : World} {p : Nat} {x0 x1 x2 : Value} (h : C3 u p x0 x1 x2) : p < u.heap.size := lt_of_cell h.1.1
theorem C3.below {u u' : World} {p : Nat} {x0 x1 x2 : Value} (h : C3 u p x0 x1 x2) (hb : Below u.heap.size u u') : C3 u' p x0 x1 x2 :=
  ⟨⟨(hb.cell (p := ⟨p, 0, none⟩) h.lt).trans h.1.1, (hb.cell (p := ⟨p, 1, none⟩) h.lt).trans h.1.2.1, (hb.cell (p := ⟨p, 2, none⟩) h.lt).trans h.1.2.2⟩, fun j => (hb.frozen (p := ⟨p, j, none⟩) h.lt).trans (h.2 j)⟩
theorem C3.grown {u u' : World} {p q : Nat} {x0 x1 x2 : Value} (h : C3 u p x0 x1 x2) (hg : u.grownBy u' (some q)) (hne : q ≠ p) : C3 u' p x0 x1 x2 := by
  have e := hg.block p h.lt (fun he => hne (by cases he; rfl))
  exact ⟨⟨(World.cell?_of_block (a := ⟨p, 0, none⟩) e).trans h.1.1, (World.cell?_of_block (a := ⟨p, 1, none⟩) e).trans h.1.2.1, (World.cell?_of_block (a := ⟨p, 2, none⟩) e).trans h.1.2.2⟩, fun j => (World.frozen?_of_block (a := ⟨p, j, none⟩) e).trans (h.2 j)⟩
theorem c3_new (u : World) (x0 x1 x2 : Value) (t : TypeId) : C3 (u.alloc (.cells #[x0, x1, x2] t)) u.heap.size x0 x1 x2 := ⟨⟨by simp, by simp, by simp⟩, fun j => by simp⟩

end Go.Proofs.Ytdicjbabnknjhaa
