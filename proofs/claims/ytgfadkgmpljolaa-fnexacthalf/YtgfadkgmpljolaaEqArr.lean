/-
  Arrays of texts and of numbers, compared as a whole.
-/
import Derived.Test.YtgfadkgmpljolaaBoardOf
import Derived.ChangeKeysEq
import Derived.Laws.StructEq
namespace Go.Proofs.Ytgfadkgmpljolaa
open Go.RowKit

theorem cellsString : Try.prog.cellsOf 9 = 1 := by kernel_rfl
theorem cellsInt : Try.prog.cellsOf 3 = 1 := by kernel_rfl

theorem eqItems_string (d : Nat) (w : World) (xs ys : List ByteArray) : ∀ (is : List Nat), (∀ i ∈ is, i < xs.length ∧ i < ys.length) →
    (Op.eqItems (d + 1) 9 1 (vsString xs).toArray (vsString ys).toArray is).run Try.prog w = .ok (is.all fun i => (xs.getD i ByteArray.empty).toList == (ys.getD i ByteArray.empty).toList) w
  | [], _ => by simp [Op.eqItems]
  | i :: is, h => by
    obtain ⟨h1, h2⟩ := h i (by simp)
    have px : (part 9 (vsString xs).toArray (i * 1)).run Try.prog w = .ok (.string (xs.getD i ByteArray.empty)) w := by
      simp [part, isAgg, run_underlying Try.underlying9, List.getElem?_eq_getElem h1]
    have py : (part 9 (vsString ys).toArray (i * 1)).run Try.prog w = .ok (.string (ys.getD i ByteArray.empty)) w := by
      simp [part, isAgg, run_underlying Try.underlying9, List.getElem?_eq_getElem h2]
    have pe := run_equalIn_string (P := Try.prog) (w := w) d 9 (xs.getD i ByteArray.empty) (ys.getD i ByteArray.empty) Try.underlying9
    simp only [Op.eqItems, Sem.run_bind, px, py, pe, Result.andThen_ok, List.all_cons]
    cases hb : ((xs.getD i ByteArray.empty).toList == (ys.getD i ByteArray.empty).toList)
    · simp
    · simpa using eqItems_string d w xs ys is (fun j hj => h j (by simp [hj]))
theorem eqItems_int (d : Nat) (w : World) (xs ys : List Int) : ∀ (is : List Nat), (∀ i ∈ is, i < xs.length ∧ i < ys.length) →
    (Op.eqItems (d + 1) 3 1 (vsInt xs).toArray (vsInt ys).toArray is).run Try.prog w = .ok (is.all fun i => xs.getD i 0 == ys.getD i 0) w
  | [], _ => by simp [Op.eqItems]
  | i :: is, h => by
    obtain ⟨h1, h2⟩ := h i (by simp)
    have px : (part 3 (vsInt xs).toArray (i * 1)).run Try.prog w = .ok (.int .i64 (xs.getD i 0)) w := by
      simp [part, isAgg, run_underlying Try.underlying3, List.getElem?_eq_getElem h1]
    have py : (part 3 (vsInt ys).toArray (i * 1)).run Try.prog w = .ok (.int .i64 (ys.getD i 0)) w := by
      simp [part, isAgg, run_underlying Try.underlying3, List.getElem?_eq_getElem h2]
    have pe := run_equalIn_int (P := Try.prog) (w := w) d 3 .i64 .i64 (xs.getD i 0) (ys.getD i 0) Try.underlying3
    simp only [Op.eqItems, Sem.run_bind, px, py, pe, Result.andThen_ok, List.all_cons]
    cases hb : (xs.getD i 0 == ys.getD i 0)
    · simp
    · simpa using eqItems_int d w xs ys is (fun j hj => h j (by simp [hj]))

theorem all_string {xs ys : List ByteArray} {n : Nat} (hx : xs.length = n) (hy : ys.length = n) : ((List.range n).all fun i => (xs.getD i ByteArray.empty).toList == (ys.getD i ByteArray.empty).toList) = decide (xs = ys) := by
  rw [Bool.eq_iff_iff]
  simp only [List.all_eq_true, List.mem_range, beq_iff_eq, decide_eq_true_eq]
  constructor
  · intro h
    refine List.ext_getElem (by omega) (fun i h1 h2 => ?_)
    have := str_inj (h i (by omega))
    simpa [h1, h2] using this
  · rintro rfl i _; rfl
theorem all_int {xs ys : List Int} {n : Nat} (hx : xs.length = n) (hy : ys.length = n) : ((List.range n).all fun i => xs.getD i 0 == ys.getD i 0) = decide (xs = ys) := by
  rw [Bool.eq_iff_iff]
  simp only [List.all_eq_true, List.mem_range, beq_iff_eq, decide_eq_true_eq]
  constructor
  · intro h
    refine List.ext_getElem (by omega) (fun i h1 h2 => ?_)
    have := h i (by omega)
    simpa [h1, h2] using this
  · rintro rfl i _; rfl

theorem equal_pages (w : World) {xs ys : List ByteArray} (hx : xs.length = 60) (hy : ys.length = 60) :
    (Op.equalIn 10000 52 (.agg (vsString xs).toArray) (.agg (vsString ys).toArray)).run Try.prog w = .ok (decide (xs = ys)) w := by
  obtain ⟨i1, hi1, -⟩ := info_parts infoString
  rw [show 10000 = 9999 + 1 from rfl, run_equalIn_array w 9999 _ _ Try.underlying52 hi1, cellsString, show 9999 = 9998 + 1 from rfl, eqItems_string 9998 w xs ys _ (fun i hi => by simp at hi; omega), all_string hx hy]
theorem equal_wear (w : World) {xs ys : List Int} (hx : xs.length = 10) (hy : ys.length = 10) :
    (Op.equalIn 10000 53 (.agg (vsInt xs).toArray) (.agg (vsInt ys).toArray)).run Try.prog w = .ok (decide (xs = ys)) w := by
  obtain ⟨i1, hi1, -⟩ := info_parts infoInt
  rw [show 10000 = 9999 + 1 from rfl, run_equalIn_array w 9999 _ _ Try.underlying53 hi1, cellsInt, show 9999 = 9998 + 1 from rfl, eqItems_int 9998 w xs ys _ (fun i hi => by simp at hi; omega), all_int hx hy]

end Go.Proofs.Ytgfadkgmpljolaa
