/-
  What Mount tells of a chip: for each sector the page with the greatest number, and the next number.
-/
import Derived.Test.YtmolhhljodlhaaaRecMath
namespace Go.Proofs.Ytmolhhljodlhaaa
open Go.RowKit

/-- One page more: the greatest numbers, the map, the next number. -/
def mStep (st : List Int × List Int × Int) (p : Nat) (t : ByteArray) : List Int × List Int × Int :=
  match recR t with
  | none => st
  | some (s, q, _) => (if st.1[s.toNat]?.getD 0 < q then st.1.set s.toNat q else st.1, if st.1[s.toNat]?.getD 0 < q then st.2.1.set s.toNat p else st.2.1, min (max st.2.2 (q + 1)) 1000000000)
/-- The first k pages. -/
def mUpto (ps : List ByteArray) : Nat → List Int × List Int × Int
  | 0 => (List.replicate 26 0, List.replicate 26 (-1), 1)
  | k + 1 => mStep (mUpto ps k) k (ps[k]?.getD ByteArray.empty)
/-- The map and the next number of a chip. -/
def mMap (ps : List ByteArray) : List Int := (mUpto ps 60).2.1
def mSeq (ps : List ByteArray) : Int := (mUpto ps 60).2.2

theorem mStep_no {st : List Int × List Int × Int} {p : Nat} {t : ByteArray} (h : recR t = none) : mStep st p t = st := by simp [mStep, h]
theorem mStep_great {st : List Int × List Int × Int} {p : Nat} {t d : ByteArray} {s q : Int} (h : recR t = some (s, q, d)) (hq : st.1[s.toNat]?.getD 0 < q) : mStep st p t = (st.1.set s.toNat q, st.2.1.set s.toNat p, min (max st.2.2 (q + 1)) 1000000000) := by simp [mStep, h, hq]
theorem mStep_small {st : List Int × List Int × Int} {p : Nat} {t d : ByteArray} {s q : Int} (h : recR t = some (s, q, d)) (hq : ¬ st.1[s.toNat]?.getD 0 < q) : mStep st p t = (st.1, st.2.1, min (max st.2.2 (q + 1)) 1000000000) := by simp [mStep, h, hq]

theorem mUpto_len (ps : List ByteArray) (k : Nat) : (mUpto ps k).1.length = 26 ∧ (mUpto ps k).2.1.length = 26 ∧ 1 ≤ (mUpto ps k).2.2 ∧ (mUpto ps k).2.2 ≤ 1000000000 := by
  induction k with
  | zero => simp [mUpto]
  | succ k ih =>
    obtain ⟨h1, h2, h3, h4⟩ := ih
    unfold mUpto
    cases hr : recR (ps[k]?.getD ByteArray.empty) with
    | none => rw [mStep_no hr]; exact ⟨h1, h2, h3, h4⟩
    | some r =>
      obtain ⟨s, q, d⟩ := r
      have hok := (recOkB_iff.1 (recR_some hr).1).2.1
      by_cases hq : (mUpto ps k).1[s.toNat]?.getD 0 < q
      · rw [mStep_great hr hq]
        refine ⟨by simpa using h1, by simpa using h2, ?_, ?_⟩ <;> simp only [] <;> omega
      · rw [mStep_small hr hq]
        refine ⟨h1, h2, ?_, ?_⟩ <;> simp only [] <;> omega
theorem mMap_len (ps : List ByteArray) : (mMap ps).length = 26 := (mUpto_len ps 60).2.1

end Go.Proofs.Ytmolhhljodlhaaa
