/-
  Contract of the specification's RecRead.
-/
import Derived.Test.YtmolhhljodlhaaaSpecRec
namespace Go.Proofs.Ytmolhhljodlhaaa
open Go.RowKit

/-- The bytes of a text, as '[]byte(s)' has laid them. -/
theorem rd_bytes (t : ByteArray) (w : World) (c : Nat) : Rd (w.alloc (Obj.cells (bytesRow t c) 5 ((bytesRow t c).size, (bytesRow t c).size + 1))).drew (some ⟨w.heap.size, 0, none⟩) (u8s (strB t)) := by
  refine .inr ⟨_, 0, rfl, fun i v hv => ?_⟩
  rw [strB_cells] at hv
  have := bytes_lie t w c i v hv
  rw [add_at] at this
  exact this

theorem text_inj {x y : ByteArray} (h : x.toList = y.toList) : x = y := by
  rw [ByteArray.toList_eq, ByteArray.toList_eq] at h
  cases x; cases y
  simpa using h
theorem getT_len {zs : List Int} {i : Int} {ys : List Int} {q : Nat} (h : getT zs i = some (ys, q)) : ys.length ≤ 400 := by
  unfold getT at h
  cases hg : getN zs i with
  | none => rw [hg] at h; simp at h
  | some r =>
    obtain ⟨n, j⟩ := r
    rw [hg] at h
    simp only [] at h
    by_cases hc : 400 < n ∨ (zs.length : Int) - j < n
    · rw [if_pos hc] at h; simp at h
    · rw [if_neg hc] at h
      simp only [Option.some.injEq, Prod.mk.injEq] at h
      obtain ⟨rfl, rfl⟩ := h
      simp; omega

end Go.Proofs.Ytmolhhljodlhaaa
