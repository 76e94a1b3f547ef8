/-
  The plain mathematics of the program's Mount: the record of each page, the greatest number so far, and how they stand to what Mount tells.
-/
import Derived.Test.YtdicjbabnknjhaaMountMath
namespace Go.Proofs.Ytdicjbabnknjhaa
open Go.RowKit

/-- The record of a page, zero where there is none. -/
def recC (ps : List ByteArray) (i : Nat) : Int × Int × ByteArray := (recR (ps[i]?.getD ByteArray.empty)).getD (0, 0, ByteArray.empty)
theorem recC_some {ps : List ByteArray} {i : Nat} {r : Int × Int × ByteArray} (h : recR (ps[i]?.getD ByteArray.empty) = some r) : recC ps i = r := by simp [recC, h]
theorem recC_none {ps : List ByteArray} {i : Nat} (h : recR (ps[i]?.getD ByteArray.empty) = none) : recC ps i = (0, 0, ByteArray.empty) := by simp [recC, h]
theorem recR_empty : recR ByteArray.empty = none := by
  cases h : recR ByteArray.empty with
  | none => rfl
  | some r =>
    exfalso
    have e : strB ByteArray.empty = [] := by
      have := strB_len ByteArray.empty
      exact List.eq_nil_of_length_eq_zero this
    unfold recR at h
    rw [e] at h
    simp [getN, getF] at h
theorem recR_sector {t : ByteArray} {s q : Int} {d : ByteArray} (h : recR t = some (s, q, d)) : 0 ≤ s ∧ s ≤ 25 ∧ 1 ≤ q ∧ q ≤ 1000000000 := by
  obtain ⟨h1, h2, -⟩ := recOkB_iff.1 (recR_some h).1
  omega

/-- The greatest number of the first k pages. -/
def lastU (ps : List ByteArray) : Nat → Int
  | 0 => 0
  | k + 1 => max (lastU ps k) (recC ps k).2.1
theorem recC_seq (ps : List ByteArray) (k : Nat) : 0 ≤ (recC ps k).2.1 ∧ (recC ps k).2.1 ≤ 1000000000 := by
  cases h : recR (ps[k]?.getD ByteArray.empty) with
  | none => rw [recC_none h]; decide
  | some r =>
    obtain ⟨s, q, d⟩ := r
    rw [recC_some h]
    have := recR_sector h
    exact ⟨by simp only []; omega, by simp only []; omega⟩
theorem lastU_bd (ps : List ByteArray) (k : Nat) : 0 ≤ lastU ps k ∧ lastU ps k ≤ 1000000000 := by
  induction k with
  | zero => simp [lastU]
  | succ k ih => have := recC_seq ps k; simp only [lastU]; omega
theorem mSeq_last (ps : List ByteArray) (k : Nat) : (mUpto ps k).2.2 = min (lastU ps k + 1) 1000000000 := by
  induction k with
  | zero => rfl
  | succ k ih =>
    have hb := lastU_bd ps k
    unfold mUpto
    cases h : recR (ps[k]?.getD ByteArray.empty) with
    | none =>
      have e := recC_none h
      rw [mStep_no h, ih]
      simp only [lastU, e]
      omega
    | some r =>
      obtain ⟨s, q, d⟩ := r
      have e := recC_some h
      have hs := recR_sector h
      have e2 : (mStep (mUpto ps k) k (ps[k]?.getD ByteArray.empty)).2.2 = min (max (mUpto ps k).2.2 (q + 1)) 1000000000 := by
        by_cases hq : (mUpto ps k).1[s.toNat]?.getD 0 < q
        · rw [mStep_great h hq]
        · rw [mStep_small h hq]
      rw [e2, ih]
      simp only [lastU, e]
      omega

/-- Of each sector: no page yet, and no number; or a page ahead of k that has a record of it, with the greatest number. -/
theorem mUpto_inv (ps : List ByteArray) (k : Nat) : ∀ s : Nat, s < 26 → ((mUpto ps k).2.1[s]? = some (-1) ∧ (mUpto ps k).1[s]? = some 0) ∨
    ∃ (p : Nat) (q : Int) (d : ByteArray), p < k ∧ (mUpto ps k).2.1[s]? = some (p : Int) ∧ (mUpto ps k).1[s]? = some q ∧ recR (ps[p]?.getD ByteArray.empty) = some ((s : Int), q, d) := by
  induction k with
  | zero =>
    intro s hs
    left
    have e1 : (mUpto ps 0).2.1 = List.replicate 26 (-1) := rfl
    have e2 : (mUpto ps 0).1 = List.replicate 26 0 := rfl
    rw [e1, e2, List.getElem?_replicate_of_lt hs, List.getElem?_replicate_of_lt hs]
    exact ⟨rfl, rfl⟩
  | succ k ih =>
    intro s hs
    obtain ⟨l1, l2, -⟩ := mUpto_len ps k
    unfold mUpto
    cases h : recR (ps[k]?.getD ByteArray.empty) with
    | none =>
      rw [mStep_no h]
      rcases ih s hs with h1 | ⟨p, q, d, hp, h2, h3, h4⟩
      · exact .inl h1
      · exact .inr ⟨p, q, d, by omega, h2, h3, h4⟩
    | some r =>
      obtain ⟨s', q', d'⟩ := r
      have hr := recR_sector h
      by_cases hq : (mUpto ps k).1[s'.toNat]?.getD 0 < q'
      · rw [mStep_great h hq]
        by_cases he : s'.toNat = s
        · right
          refine ⟨k, q', d', by omega, ?_, ?_, ?_⟩
          · simp only []; rw [he, List.getElem?_set_self (by omega)]
          · simp only []; rw [he, List.getElem?_set_self (by omega)]
          · rw [h]; simp; omega
        · rcases ih s hs with ⟨h1, h1'⟩ | ⟨p, q, d, hp, h2, h3, h4⟩
          · left
            simp only []
            rw [List.getElem?_set_ne he, List.getElem?_set_ne he]
            exact ⟨h1, h1'⟩
          · right
            refine ⟨p, q, d, by omega, ?_, ?_, h4⟩
            · simp only []; rw [List.getElem?_set_ne he]; exact h2
            · simp only []; rw [List.getElem?_set_ne he]; exact h3
      · rw [mStep_small h hq]
        rcases ih s hs with h1 | ⟨p, q, d, hp, h2, h3, h4⟩
        · exact .inl h1
        · exact .inr ⟨p, q, d, by omega, h2, h3, h4⟩

/-- One page more, as the program has it: the map. -/
theorem map_no {ps : List ByteArray} {k : Nat} (h : recR (ps[k]?.getD ByteArray.empty) = none) : (mUpto ps (k + 1)).2.1 = (mUpto ps k).2.1 := by
  show (mStep _ _ _).2.1 = _
  rw [mStep_no h]
theorem map_new {ps : List ByteArray} {k : Nat} {s q : Int} {d : ByteArray} (h : recR (ps[k]?.getD ByteArray.empty) = some (s, q, d)) (ho : (mUpto ps k).2.1[s.toNat]? = some (-1)) : (mUpto ps (k + 1)).2.1 = (mUpto ps k).2.1.set s.toNat (k : Int) := by
  have hs := recR_sector h
  show (mStep _ _ _).2.1 = _
  rcases mUpto_inv ps k s.toNat (by omega) with ⟨h1, h2⟩ | ⟨p, q', d', hp, h2, h3, h4⟩
  · rw [mStep_great h (by rw [h2]; simp; omega)]
  · rw [h2] at ho; injection ho with ho; omega
theorem map_great {ps : List ByteArray} {k : Nat} {s q o : Int} {d : ByteArray} (h : recR (ps[k]?.getD ByteArray.empty) = some (s, q, d)) (ho : (mUpto ps k).2.1[s.toNat]? = some o) (hn : o ≠ -1) (hq : (recC ps o.toNat).2.1 < q) : (mUpto ps (k + 1)).2.1 = (mUpto ps k).2.1.set s.toNat (k : Int) := by
  have hs := recR_sector h
  show (mStep _ _ _).2.1 = _
  rcases mUpto_inv ps k s.toNat (by omega) with ⟨h1, h2⟩ | ⟨p, q', d', hp, h2, h3, h4⟩
  · rw [h1] at ho; simp at ho; omega
  · rw [h2] at ho; simp at ho; subst ho
    rw [Int.toNat_natCast, recC_some h4] at hq
    rw [mStep_great h (by rw [h3]; exact hq)]
theorem map_small {ps : List ByteArray} {k : Nat} {s q o : Int} {d : ByteArray} (h : recR (ps[k]?.getD ByteArray.empty) = some (s, q, d)) (ho : (mUpto ps k).2.1[s.toNat]? = some o) (hn : o ≠ -1) (hq : ¬ (recC ps o.toNat).2.1 < q) : (mUpto ps (k + 1)).2.1 = (mUpto ps k).2.1 := by
  have hs := recR_sector h
  show (mStep _ _ _).2.1 = _
  rcases mUpto_inv ps k s.toNat (by omega) with ⟨h1, h2⟩ | ⟨p, q', d', hp, h2, h3, h4⟩
  · rw [h1] at ho; simp at ho; omega
  · rw [h2] at ho; simp at ho; subst ho
    rw [Int.toNat_natCast, recC_some h4] at hq
    rw [mStep_small h (by rw [h3]; exact hq)]
theorem map_old {ps : List ByteArray} {k : Nat} {s : Nat} (hs : s < 26) : ∃ o : Int, (mUpto ps k).2.1[s]? = some o ∧ -1 ≤ o ∧ o < k := by
  rcases mUpto_inv ps k s hs with ⟨h1, h2⟩ | ⟨p, q', d', hp, h2, h3, h4⟩
  · exact ⟨-1, h1, by omega, by omega⟩
  · exact ⟨p, h2, by omega, by omega⟩
theorem lastU_no {ps : List ByteArray} {k : Nat} (h : recR (ps[k]?.getD ByteArray.empty) = none) : lastU ps (k + 1) = lastU ps k := by
  have := lastU_bd ps k
  simp only [lastU, recC_none h]; omega
theorem lastU_some {ps : List ByteArray} {k : Nat} {s q : Int} {d : ByteArray} (h : recR (ps[k]?.getD ByteArray.empty) = some (s, q, d)) : lastU ps (k + 1) = max (lastU ps k) q := by
  simp only [lastU, recC_some h]

end Go.Proofs.Ytdicjbabnknjhaa
