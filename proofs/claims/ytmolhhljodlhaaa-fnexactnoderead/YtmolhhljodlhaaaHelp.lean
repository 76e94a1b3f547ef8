/-
  Contracts of the laws' helpers over byte slices: toByteS (a new copy), eqByteS, markByteS, heldByteS.
-/
import Derived.Test.YtmolhhljodlhaaaChecked
import Derived.Test.YtmolhhljodlhaaaLib
import Derived.Deep.QuietTactic
import Derived.BigQuiet
namespace Go.Proofs.Ytmolhhljodlhaaa
open Go.RowKit

theorem info5 : (Try.prog.info? 5).map (fun i => (i.zero, i.size, i.bytes)) = some (some (.int .u8 0), 1, 1) := by kernel_rfl

/-- How far a copy has come. -/
def halfway (zs : List Int) (k : Nat) : List Value := u8s (zs.take k) ++ List.replicate (zs.length - k) (.int .u8 0)

theorem halfway_step {zs : List Int} {k : Nat} (h : k < zs.length) : (halfway zs k).set k (.int .u8 (zs[k]?.getD 0)) = halfway zs (k + 1) := by
  apply List.ext_getElem?
  intro i
  simp only [halfway, List.getElem?_set, List.getElem?_append, List.length_map, List.length_take, List.length_append, List.length_replicate, List.getElem?_map, List.getElem?_take, List.getElem?_replicate]
  have m1 : min k zs.length = k := by omega
  have m2 : min (k + 1) zs.length = k + 1 := by omega
  rw [m1, m2]
  by_cases h1 : k = i
  · subst h1
    have : k < k + (zs.length - k) := by omega
    simp [this, h]
  · by_cases h2 : i < k
    · have : i < k + 1 := by omega
      simp [h1, h2, this]
    · have h3 : ¬ i < k + 1 := by omega
      simp only [h1, h2, h3, if_false]
      by_cases h4 : i < zs.length
      · rw [if_pos (by omega), if_pos (by omega)]
      · rw [if_neg (by omega), if_neg (by omega)]
theorem halfway_all (zs : List Int) : halfway zs zs.length = u8s zs := by simp [halfway]

theorem take_eq_step {zs ys : List Int} {k : Nat} (h : zs.take k = ys.take k) (hk : k < zs.length) (hl : zs.length = ys.length) (he : zs[k]?.getD 0 = ys[k]?.getD 0) : zs.take (k + 1) = ys.take (k + 1) := by
  rw [List.take_succ_eq_append_getElem hk, List.take_succ_eq_append_getElem (by omega), h]
  simp [hk, show k < ys.length by omega] at he
  rw [he]
theorem ne_of_at {zs ys : List Int} {k : Nat} (he : ¬ zs[k]?.getD 0 = ys[k]?.getD 0) : zs ≠ ys := fun e => he (by rw [e])

/-- The marks 1, 2, 3 .. as bytes. -/
def marks (n : Nat) : List Value := (List.range n).map fun (i : Nat) => .int .u8 (IntKind.u8.wrap ((i : Int) + 1))
/-- How far the marking has come. -/
def marked (xs : List Value) (k : Nat) : List Value := marks k ++ xs.drop k
theorem marked_step {xs : List Value} {k : Nat} (h : k < xs.length) : (marked xs k).set k (.int .u8 (IntKind.u8.wrap ((k : Int) + 1))) = marked xs (k + 1) := by
  unfold marked marks
  rw [List.set_append_right _ _ (by simp), List.range_succ, List.map_append]
  simp only [List.length_map, List.length_range, Nat.sub_self, List.map_cons, List.map_nil, List.append_assoc, List.singleton_append]
  rw [List.drop_eq_getElem_cons h, List.set_cons_zero]
theorem marked_all {xs : List Value} {k : Nat} (h : k = xs.length) : marked xs k = marks k := by subst h; simp [marked]

end Go.Proofs.Ytmolhhljodlhaaa
