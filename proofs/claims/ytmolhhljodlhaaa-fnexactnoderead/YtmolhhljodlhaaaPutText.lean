/-
  Contracts of impl.PutText and spec.PutText: each hands back a new row of the text's bytes.
-/
import Derived.Test.YtmolhhljodlhaaaPut
import Derived.Lib.AppendStr
import Derived.Laws.IdiomStrings
namespace Go.Proofs.Ytmolhhljodlhaaa
open Go.RowKit

/-- A string's bytes. -/
def strB (s : ByteArray) : List Int := s.data.toList.map fun b => (b.toNat : Int)
theorem strB_cells (s : ByteArray) : u8s (strB s) = Lib.strCells s := by simp [u8s, strB, Lib.strCells]
theorem strB_len (s : ByteArray) : (strB s).length = s.size := by
  have := Lib.strCells_length s
  rw [← strB_cells] at this; simpa [u8s] using this
theorem strB_bytes (s : ByteArray) : IsBytes (strB s) := by
  intro z hz
  simp only [strB, List.mem_map] at hz
  obtain ⟨b, _, rfl⟩ := hz
  have := b.toNat_lt
  omega
/-- What PutText tells. -/
def textB (s : ByteArray) : List Int := if 400 < s.size then [] else putB s.size ++ strB s
theorem textB_bytes (s : ByteArray) : IsBytes (textB s) := by
  unfold textB
  split
  · intro z hz; simp at hz
  · intro z hz
    simp only [List.mem_append] at hz
    rcases hz with hz | hz
    · exact putB_bytes _ z hz
    · exact strB_bytes _ z hz
theorem textB_len (s : ByteArray) : (textB s).length ≤ 405 := by
  unfold textB
  split
  · simp
  · have := putB_len s.size; rw [List.length_append, strB_len]; omega

/-- The row that '[]byte(s)' has laid begins with the string's bytes. -/
theorem bytes_lie (s : ByteArray) (w : World) (c : Nat) : ∀ j u, (Lib.strCells s)[j]? = some u →
    (w.alloc (Obj.cells (bytesRow s c) 5 ((bytesRow s c).size, (bytesRow s c).size + 1))).drew.cell? ((⟨w.heap.size, 0, none⟩ : Addr).add j) = some u := by
  intro j u hu
  rw [add_at, Nat.zero_add]
  have hj : j < (Lib.strCells s).length := by
    rcases Nat.lt_or_ge j (Lib.strCells s).length with h | h
    · exact h
    · simp [h] at hu
  rw [Lib.strCells_length] at hj
  show (w.alloc _).cell? _ = _
  rw [World.cell?_alloc_mark]
  have hj' : j < s.data.size := hj
  simp [Lib.strCells] at hu
  obtain ⟨x, hx, hxu⟩ := hu
  rw [Array.getElem?_eq_getElem hj'] at hx
  simp only [Option.some.injEq] at hx
  subst hx
  simp [bytesRow, Array.getElem?_append, hj]
  exact hxu

/-- Behind an append onto a row of the call's own, one block having been laid ahead of it: below the row's base nothing has turned. -/
theorem below_new {w w' : World} {o : Obj} {base : Nat} {e : TypeId} {size : Nat} {v : Value} {n : Nat} {xs : List Value} (h : w.ownsRow base e size v n xs) (hg : (w.alloc o).drew.grownBy w' v.ownBlock) (hB : base ≤ w.heap.size) : Below base w w' := by
  have h1 : Below base w (w.alloc o).drew := ((Below.refl _ _).alloc hB o).drew
  exact h1.grown hg (by simp; omega) (fun k hk => (h.lt k hk).1)

end Go.Proofs.Ytmolhhljodlhaaa
