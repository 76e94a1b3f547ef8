/-
  Contracts of the two sums (impl.Sum, spec.Sum) and of the laws' helpers toByteS, eqByteS over byte slices.
-/
import Derived.Test.YtmolhhljodlhaaaChecked
import Derived.Test.YtmolhhljodlhaaaLib
import Derived.Deep.QuietTactic
import Derived.BigQuiet
namespace Go.Proofs.Ytmolhhljodlhaaa
open Go.RowKit

/-- What Sum tells. -/
def sumOf (l : List Int) : Int := l.foldl (fun x b => (31 * x + b) % 1000003) 7

theorem sumOf_snoc (l : List Int) (c : Int) : sumOf (l ++ [c]) = (31 * sumOf l + c) % 1000003 := by simp [sumOf]
theorem sumOf_bd (l : List Int) : 0 ≤ sumOf l ∧ sumOf l < 1000003 := by
  rcases List.eq_nil_or_concat l with h | ⟨l', c, h⟩
  · subst h; simp [sumOf]
  · rw [List.concat_eq_append] at h; subst h; rw [sumOf_snoc]; omega
theorem take_snoc {l : List Int} {k : Nat} (h : k < l.length) : l.take (k + 1) = l.take k ++ [l[k]?.getD 0] := by
  rw [List.take_succ_eq_append_getElem h]; simp [h]
theorem sumOf_take {l : List Int} {k : Nat} (h : k < l.length) : sumOf (l.take (k + 1)) = (31 * sumOf (l.take k) + l[k]?.getD 0) % 1000003 := by rw [take_snoc h, sumOf_snoc]

end Go.Proofs.Ytmolhhljodlhaaa
