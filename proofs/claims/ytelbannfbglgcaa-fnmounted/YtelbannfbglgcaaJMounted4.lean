/-
  What Mount tells of a chip: for each sector the page with the greatest number, and the next number.
  The plain mathematics of the program's Mount: the record of each page, the greatest number so far, and how they stand to what Mount tells.
  What a record under the next number turns of what is mounted: its sector's page, and the next number; nothing else.
-/
import Derived.Test.YtelbannfbglgcaaJMounted3
namespace Go.Proofs.Ytelbannfbglgcaa
open Go.RowKit

/-- One page more: the greatest numbers, the map, the next number. -/
def mStep (st : List Int × List Int × Int) (p : Nat) (t : ByteArray) : List Int × List Int × Int :=
  match recR t with
  | none => st
  | some (s, q, _) => (if st.1[s.toNat]?.getD 0 < q then st.1.set s.toNat q else st.1, if st.1[s.toNat]?.getD 0 < q then st.2.1.set s.toNat p else st.2.1, min (max st.2.2 (q + 1)) 1000000000)
/-- The first k pages. -/
def mUpto (ps : List ByteArray) : Nat → List Int × List Int × Int
  | 0 => (List.replicate 26 0, List.replicate 26 (-1), 1)
  | k + 1 => mStep (mUpto ps k) k (ps[k]?.getD ByteArray.empty)
/-- The map and the next number of a chip. -/
def mMap (ps : List ByteArray) : List Int := (mUpto ps 60).2.1
def mSeq (ps : List ByteArray) : Int := (mUpto ps 60).2.2

theorem mStep_no {st : List Int × List Int × Int} {p : Nat} {t : ByteArray} (h : recR t = none) : mStep st p t = st := by simp [mStep, h]
theorem mStep_great {st : List Int × List Int × Int} {p : Nat} {t d : ByteArray} {s q : Int} (h : recR t = some (s, q, d)) (hq : st.1[s.toNat]?.getD 0 < q) : mStep st p t = (st.1.set s.toNat q, st.2.1.set s.toNat p, min (max st.2.2 (q + 1)) 1000000000) := by simp [mStep, h, hq]
theorem mStep_small {st : List Int × List Int × Int} {p : Nat} {t d : ByteArray} {s q : Int} (h : recR t = some (s, q, d)) (hq : ¬ st.1[s.toNat]?.getD 0 < q) : mStep st p t = (st.1, st.2.1, min (max st.2.2 (q + 1)) 1000000000) := by simp [mStep, h, hq]

theorem mUpto_len (ps : List ByteArray) (k : Nat) : (mUpto ps k).1.length = 26 ∧ (mUpto ps k).2.1.length = 26 ∧ 1 ≤ (mUpto ps k).2.2 ∧ (mUpto ps k).2.2 ≤ 1000000000 := by
  induction k with
  | zero => simp [mUpto]
  | succ k ih =>
    obtain ⟨h1, h2, h3, h4⟩ := ih
    unfold mUpto
    cases hr : recR (ps[k]?.getD ByteArray.empty) with
    | none => rw [mStep_no hr]; exact ⟨h1, h2, h3, h4⟩
    | some r =>
      obtain ⟨s, q, d⟩ := r
      have hok := (recOkB_iff.1 (recR_some hr).1).2.1
      by_cases hq : (mUpto ps k).1[s.toNat]?.getD 0 < q
      · rw [mStep_great hr hq]
        refine ⟨by simpa using h1, by simpa using h2, ?_, ?_⟩ <;> simp only [] <;> omega
      · rw [mStep_small hr hq]
        refine ⟨h1, h2, ?_, ?_⟩ <;> simp only [] <;> omega
theorem mMap_len (ps : List ByteArray) : (mMap ps).length = 26 := (mUpto_len ps 60).2.1

end Go.Proofs.Ytelbannfbglgcaa

namespace Go.Proofs.Ytelbannfbglgcaa
open Go.RowKit

/-- The record of a page, zero where there is none. -/
def recC (ps : List ByteArray) (i : Nat) : Int × Int × ByteArray := (recR (ps[i]?.getD ByteArray.empty)).getD (0, 0, ByteArray.empty)
theorem recC_some {ps : List ByteArray} {i : Nat} {r : Int × Int × ByteArray} (h : recR (ps[i]?.getD ByteArray.empty) = some r) : recC ps i = r := by simp [recC, h]
theorem recC_none {ps : List ByteArray} {i : Nat} (h : recR (ps[i]?.getD ByteArray.empty) = none) : recC ps i = (0, 0, ByteArray.empty) := by simp [recC, h]
theorem recR_empty : recR ByteArray.empty = none := by
  cases h : recR ByteArray.empty with
  | none => rfl
  | some r =>
    exfalso
    have e : strB ByteArray.empty = [] := by
      have := strB_len ByteArray.empty
      exact List.eq_nil_of_length_eq_zero this
    unfold recR at h
    rw [e] at h
    simp [getN, getF] at h
theorem recR_sector {t : ByteArray} {s q : Int} {d : ByteArray} (h : recR t = some (s, q, d)) : 0 ≤ s ∧ s ≤ 25 ∧ 1 ≤ q ∧ q ≤ 1000000000 := by
  obtain ⟨h1, h2, -⟩ := recOkB_iff.1 (recR_some h).1
  omega

/-- The greatest number of the first k pages. -/
def lastU (ps : List ByteArray) : Nat → Int
  | 0 => 0
  | k + 1 => max (lastU ps k) (recC ps k).2.1
theorem recC_seq (ps : List ByteArray) (k : Nat) : 0 ≤ (recC ps k).2.1 ∧ (recC ps k).2.1 ≤ 1000000000 := by
  cases h : recR (ps[k]?.getD ByteArray.empty) with
  | none => rw [recC_none h]; decide
  | some r =>
    obtain ⟨s, q, d⟩ := r
    rw [recC_some h]
    have := recR_sector h
    exact ⟨by simp only []; omega, by simp only []; omega⟩
theorem lastU_bd (ps : List ByteArray) (k : Nat) : 0 ≤ lastU ps k ∧ lastU ps k ≤ 1000000000 := by
  induction k with
  | zero => simp [lastU]
  | succ k ih => have := recC_seq ps k; simp only [lastU]; omega
theorem mSeq_last (ps : List ByteArray) (k : Nat) : (mUpto ps k).2.2 = min (lastU ps k + 1) 1000000000 := by
  induction k with
  | zero => rfl
  | succ k ih =>
    have hb := lastU_bd ps k
    unfold mUpto
    cases h : recR (ps[k]?.getD ByteArray.empty) with
    | none =>
      have e := recC_none h
      rw [mStep_no h, ih]
      simp only [lastU, e]
      omega
    | some r =>
      obtain ⟨s, q, d⟩ := r
      have e := recC_some h
      have hs := recR_sector h
      have e2 : (mStep (mUpto ps k) k (ps[k]?.getD ByteArray.empty)).2.2 = min (max (mUpto ps k).2.2 (q + 1)) 1000000000 := by
        by_cases hq : (mUpto ps k).1[s.toNat]?.getD 0 < q
        · rw [mStep_great h hq]
        · rw [mStep_small h hq]
      rw [e2, ih]
      simp only [lastU, e]
      omega

/-- Of each sector: no page yet, and no number; or a page ahead of k that has a record of it, with the greatest number. -/
theorem mUpto_inv (ps : List ByteArray) (k : Nat) : ∀ s : Nat, s < 26 → ((mUpto ps k).2.1[s]? = some (-1) ∧ (mUpto ps k).1[s]? = some 0) ∨
    ∃ (p : Nat) (q : Int) (d : ByteArray), p < k ∧ (mUpto ps k).2.1[s]? = some (p : Int) ∧ (mUpto ps k).1[s]? = some q ∧ recR (ps[p]?.getD ByteArray.empty) = some ((s : Int), q, d) := by
  induction k with
  | zero =>
    intro s hs
    left
    have e1 : (mUpto ps 0).2.1 = List.replicate 26 (-1) := rfl
    have e2 : (mUpto ps 0).1 = List.replicate 26 0 := rfl
    rw [e1, e2, List.getElem?_replicate_of_lt hs, List.getElem?_replicate_of_lt hs]
    exact ⟨rfl, rfl⟩
  | succ k ih =>
    intro s hs
    obtain ⟨l1, l2, -⟩ := mUpto_len ps k
    unfold mUpto
    cases h : recR (ps[k]?.getD ByteArray.empty) with
    | none =>
      rw [mStep_no h]
      rcases ih s hs with h1 | ⟨p, q, d, hp, h2, h3, h4⟩
      · exact .inl h1
      · exact .inr ⟨p, q, d, by omega, h2, h3, h4⟩
    | some r =>
      obtain ⟨s', q', d'⟩ := r
      have hr := recR_sector h
      by_cases hq : (mUpto ps k).1[s'.toNat]?.getD 0 < q'
      · rw [mStep_great h hq]
        by_cases he : s'.toNat = s
        · right
          refine ⟨k, q', d', by omega, ?_, ?_, ?_⟩
          · simp only []; rw [he, List.getElem?_set_self (by omega)]
          · simp only []; rw [he, List.getElem?_set_self (by omega)]
          · rw [h]; simp; omega
        · rcases ih s hs with ⟨h1, h1'⟩ | ⟨p, q, d, hp, h2, h3, h4⟩
          · left
            simp only []
            rw [List.getElem?_set_ne he, List.getElem?_set_ne he]
            exact ⟨h1, h1'⟩
          · right
            refine ⟨p, q, d, by omega, ?_, ?_, h4⟩
            · simp only []; rw [List.getElem?_set_ne he]; exact h2
            · simp only []; rw [List.getElem?_set_ne he]; exact h3
      · rw [mStep_small h hq]
        rcases ih s hs with h1 | ⟨p, q, d, hp, h2, h3, h4⟩
        · exact .inl h1
        · exact .inr ⟨p, q, d, by omega, h2, h3, h4⟩

/-- One page more, as the program has it: the map. -/
theorem map_no {ps : List ByteArray} {k : Nat} (h : recR (ps[k]?.getD ByteArray.empty) = none) : (mUpto ps (k + 1)).2.1 = (mUpto ps k).2.1 := by
  show (mStep _ _ _).2.1 = _
  rw [mStep_no h]
theorem map_new {ps : List ByteArray} {k : Nat} {s q : Int} {d : ByteArray} (h : recR (ps[k]?.getD ByteArray.empty) = some (s, q, d)) (ho : (mUpto ps k).2.1[s.toNat]? = some (-1)) : (mUpto ps (k + 1)).2.1 = (mUpto ps k).2.1.set s.toNat (k : Int) := by
  have hs := recR_sector h
  show (mStep _ _ _).2.1 = _
  rcases mUpto_inv ps k s.toNat (by omega) with ⟨h1, h2⟩ | ⟨p, q', d', hp, h2, h3, h4⟩
  · rw [mStep_great h (by rw [h2]; simp; omega)]
  · rw [h2] at ho; injection ho with ho; omega
theorem map_great {ps : List ByteArray} {k : Nat} {s q o : Int} {d : ByteArray} (h : recR (ps[k]?.getD ByteArray.empty) = some (s, q, d)) (ho : (mUpto ps k).2.1[s.toNat]? = some o) (hn : o ≠ -1) (hq : (recC ps o.toNat).2.1 < q) : (mUpto ps (k + 1)).2.1 = (mUpto ps k).2.1.set s.toNat (k : Int) := by
  have hs := recR_sector h
  show (mStep _ _ _).2.1 = _
  rcases mUpto_inv ps k s.toNat (by omega) with ⟨h1, h2⟩ | ⟨p, q', d', hp, h2, h3, h4⟩
  · rw [h1] at ho; simp at ho; omega
  · rw [h2] at ho; simp at ho; subst ho
    rw [Int.toNat_natCast, recC_some h4] at hq
    rw [mStep_great h (by rw [h3]; exact hq)]
theorem map_small {ps : List ByteArray} {k : Nat} {s q o : Int} {d : ByteArray} (h : recR (ps[k]?.getD ByteArray.empty) = some (s, q, d)) (ho : (mUpto ps k).2.1[s.toNat]? = some o) (hn : o ≠ -1) (hq : ¬ (recC ps o.toNat).2.1 < q) : (mUpto ps (k + 1)).2.1 = (mUpto ps k).2.1 := by
  have hs := recR_sector h
  show (mStep _ _ _).2.1 = _
  rcases mUpto_inv ps k s.toNat (by omega) with ⟨h1, h2⟩ | ⟨p, q', d', hp, h2, h3, h4⟩
  · rw [h1] at ho; simp at ho; omega
  · rw [h2] at ho; simp at ho; subst ho
    rw [Int.toNat_natCast, recC_some h4] at hq
    rw [mStep_small h (by rw [h3]; exact hq)]
theorem map_old {ps : List ByteArray} {k : Nat} {s : Nat} (hs : s < 26) : ∃ o : Int, (mUpto ps k).2.1[s]? = some o ∧ -1 ≤ o ∧ o < k := by
  rcases mUpto_inv ps k s hs with ⟨h1, h2⟩ | ⟨p, q', d', hp, h2, h3, h4⟩
  · exact ⟨-1, h1, by omega, by omega⟩
  · exact ⟨p, h2, by omega, by omega⟩
theorem lastU_no {ps : List ByteArray} {k : Nat} (h : recR (ps[k]?.getD ByteArray.empty) = none) : lastU ps (k + 1) = lastU ps k := by
  have := lastU_bd ps k
  simp only [lastU, recC_none h]; omega
theorem lastU_some {ps : List ByteArray} {k : Nat} {s q : Int} {d : ByteArray} (h : recR (ps[k]?.getD ByteArray.empty) = some (s, q, d)) : lastU ps (k + 1) = max (lastU ps k) q := by
  simp only [lastU, recC_some h]

end Go.Proofs.Ytelbannfbglgcaa

namespace Go.Proofs.Ytelbannfbglgcaa
open Go.RowKit

theorem mSeq_mono (ps : List ByteArray) (k : Nat) : (mUpto ps k).2.2 ≤ (mUpto ps (k + 1)).2.2 := by
  have hl := mUpto_len ps k
  show _ ≤ (mStep (mUpto ps k) k (ps[k]?.getD ByteArray.empty)).2.2
  cases hr : recR (ps[k]?.getD ByteArray.empty) with
  | none => rw [mStep_no hr]; omega
  | some r =>
    obtain ⟨s, q, d⟩ := r
    by_cases hq : (mUpto ps k).1[s.toNat]?.getD 0 < q
    · rw [mStep_great hr hq]; simp only []; omega
    · rw [mStep_small hr hq]; simp only []; omega
theorem mSeq_le (ps : List ByteArray) (k : Nat) : ∀ n, (mUpto ps k).2.2 ≤ (mUpto ps (k + n)).2.2 := by
  intro n
  induction n with
  | zero => exact Int.le_refl _
  | succ n ih => have := mSeq_mono ps (k + n); rw [Nat.add_assoc] at this; omega
theorem mSeq_all {ps : List ByteArray} {k : Nat} (hk : k ≤ 60) : (mUpto ps k).2.2 ≤ mSeq ps := by
  have := mSeq_le ps k (60 - k)
  rw [show k + (60 - k) = 60 by omega] at this
  exact this
/-- A record that was seen has a smaller number than the next. -/
theorem mSeq_rec {ps : List ByteArray} {k : Nat} (hk : k < 60) (hm : mSeq ps < 1000000000) {s q : Int} {d : ByteArray} (hr : recR (ps[k]?.getD ByteArray.empty) = some (s, q, d)) : q < mSeq ps := by
  have h1 := mSeq_all (ps := ps) (k := k + 1) (by omega)
  have h2 : (mUpto ps (k + 1)).2.2 = min (max (mUpto ps k).2.2 (q + 1)) 1000000000 := by
    show (mStep (mUpto ps k) k (ps[k]?.getD ByteArray.empty)).2.2 = _
    by_cases hq : (mUpto ps k).1[s.toNat]?.getD 0 < q
    · rw [mStep_great hr hq]
    · rw [mStep_small hr hq]
  omega
theorem mBest_lt {ps : List ByteArray} (hm : mSeq ps < 1000000000) : ∀ k, k ≤ 60 → ∀ i : Nat, (mUpto ps k).1[i]?.getD 0 < mSeq ps := by
  intro k
  induction k with
  | zero =>
    intro _ i
    have := (mUpto_len ps 60).2.2.1
    have h1 : 1 ≤ mSeq ps := this
    have h0 : (mUpto ps 0).1[i]?.getD 0 = 0 := by
      show (List.replicate 26 (0 : Int))[i]?.getD 0 = 0
      rw [List.getElem?_replicate]
      split <;> rfl
    omega
  | succ k ih =>
    intro hk i
    have hi := ih (by omega) i
    show (mStep (mUpto ps k) k (ps[k]?.getD ByteArray.empty)).1[i]?.getD 0 < _
    cases hr : recR (ps[k]?.getD ByteArray.empty) with
    | none => rw [mStep_no hr]; exact hi
    | some r =>
      obtain ⟨s, q, d⟩ := r
      have hlt := mSeq_rec (by omega) hm hr
      by_cases hq : (mUpto ps k).1[s.toNat]?.getD 0 < q
      · rw [mStep_great hr hq]
        simp only []
        by_cases hs : s.toNat = i
        · subst hs
          rw [List.getElem?_set_self']
          cases h : (mUpto ps k).1[s.toNat]? with
          | none => rw [h] at hi; simpa using hi
          | some z => simpa using hlt
        · rw [List.getElem?_set_ne hs]; exact hi
      · rw [mStep_small hr hq]; exact hi

theorem mUpto_before {ps : List ByteArray} {p : Nat} {t : ByteArray} : ∀ k, k ≤ p → mUpto (ps.set p t) k = mUpto ps k := by
  intro k
  induction k with
  | zero => intro _; rfl
  | succ k ih =>
    intro hk
    show mStep (mUpto (ps.set p t) k) k ((ps.set p t)[k]?.getD ByteArray.empty) = mStep (mUpto ps k) k (ps[k]?.getD ByteArray.empty)
    rw [ih (by omega), List.getElem?_set_ne (by omega)]

theorem mUpto_after {ps : List ByteArray} {p : Nat} {t : ByteArray} {s : Int} {d : ByteArray} (hp : p < ps.length) (hp60 : p < 60) (hno : recR (ps[p]?.getD ByteArray.empty) = none) (hm : mSeq ps < 1000000000) (ht : recR t = some (s, mSeq ps, d)) : ∀ n, p + 1 + n ≤ 60 →
    mUpto (ps.set p t) (p + 1 + n) = ((mUpto ps (p + 1 + n)).1.set s.toNat (mSeq ps), (mUpto ps (p + 1 + n)).2.1.set s.toNat (p : Int), mSeq ps + 1) := by
  intro n
  induction n with
  | zero =>
    intro _
    have h1 : mUpto ps (p + 1) = mUpto ps p := by
      show mStep (mUpto ps p) p (ps[p]?.getD ByteArray.empty) = _
      exact mStep_no hno
    have hz := mSeq_all (ps := ps) (k := p) (by omega)
    show mStep (mUpto (ps.set p t) p) p ((ps.set p t)[p]?.getD ByteArray.empty) = _
    rw [mUpto_before p (Nat.le_refl _), List.getElem?_set_self hp]
    show mStep (mUpto ps p) p t = _
    rw [mStep_great ht (mBest_lt hm p (by omega) _), Nat.add_zero, h1]
    congr 2
    omega
  | succ n ih =>
    intro hn
    have hih := ih (by omega)
    obtain ⟨K, hK⟩ : ∃ K, K = p + 1 + n := ⟨_, rfl⟩
    rw [show p + 1 + (n + 1) = p + 1 + n + 1 by omega]
    rw [← hK] at hih ⊢
    show mStep (mUpto (ps.set p t) K) K ((ps.set p t)[K]?.getD ByteArray.empty) = ((mStep (mUpto ps K) K (ps[K]?.getD ByteArray.empty)).1.set s.toNat (mSeq ps), (mStep (mUpto ps K) K (ps[K]?.getD ByteArray.empty)).2.1.set s.toNat (p : Int), mSeq ps + 1)
    rw [hih, List.getElem?_set_ne (by omega)]
    cases hr : recR (ps[K]?.getD ByteArray.empty) with
    | none => rw [mStep_no hr, mStep_no hr]
    | some r =>
      obtain ⟨s2, q2, d2⟩ := r
      have hlt := mSeq_rec (k := K) (by omega) hm hr
      have hlen := mUpto_len ps K
      have hsec := recR_sector ht
      have hcap : min (max (mSeq ps + 1) (q2 + 1)) 1000000000 = mSeq ps + 1 := by omega
      by_cases hs : s2.toNat = s.toNat
      · have hget : ((mUpto ps K).1.set s.toNat (mSeq ps))[s2.toNat]?.getD 0 = mSeq ps := by
          rw [hs, List.getElem?_set_self (by omega)]; rfl
        rw [mStep_small (st := ((mUpto ps K).1.set s.toNat (mSeq ps), (mUpto ps K).2.1.set s.toNat (p : Int), mSeq ps + 1)) hr (by show ¬ ((mUpto ps K).1.set s.toNat (mSeq ps))[s2.toNat]?.getD 0 < q2; rw [hget]; omega)]
        simp only []
        rw [hcap]
        by_cases hq : (mUpto ps K).1[s2.toNat]?.getD 0 < q2
        · rw [mStep_great hr hq]
          simp only []
          rw [hs, List.set_set, List.set_set]
        · rw [mStep_small hr hq]
      · have hget : ((mUpto ps K).1.set s.toNat (mSeq ps))[s2.toNat]?.getD 0 = (mUpto ps K).1[s2.toNat]?.getD 0 := by
          rw [List.getElem?_set_ne (fun h => hs h.symm)]
        by_cases hq : (mUpto ps K).1[s2.toNat]?.getD 0 < q2
        · rw [mStep_great hr hq, mStep_great (st := ((mUpto ps K).1.set s.toNat (mSeq ps), (mUpto ps K).2.1.set s.toNat (p : Int), mSeq ps + 1)) hr (by show ((mUpto ps K).1.set s.toNat (mSeq ps))[s2.toNat]?.getD 0 < q2; rw [hget]; exact hq)]
          simp only []
          rw [hcap, List.set_comm _ _ (fun h => hs h.symm), List.set_comm _ _ (fun h => hs h.symm)]
        · rw [mStep_small hr hq, mStep_small (st := ((mUpto ps K).1.set s.toNat (mSeq ps), (mUpto ps K).2.1.set s.toNat (p : Int), mSeq ps + 1)) hr (by show ¬ ((mUpto ps K).1.set s.toNat (mSeq ps))[s2.toNat]?.getD 0 < q2; rw [hget]; exact hq)]
          simp only []
          rw [hcap]

/-- Of a record under the next number, on a clear page: what is mounted then. -/
theorem burn_mount {ps : List ByteArray} {p : Nat} {t : ByteArray} {s : Int} {d : ByteArray} (hl : ps.length = 60) (hp : p < 60) (hno : ps[p]? = some ByteArray.empty) (hm : mSeq ps < 1000000000) (ht : recR t = some (s, mSeq ps, d)) :
    mMap (ps.set p t) = (mMap ps).set s.toNat (p : Int) ∧ mSeq (ps.set p t) = mSeq ps + 1 := by
  have h := mUpto_after (by omega) hp (by rw [hno]; exact recR_empty) hm ht (60 - (p + 1)) (by omega)
  rw [show p + 1 + (60 - (p + 1)) = 60 by omega] at h
  exact ⟨by show (mUpto (ps.set p t) 60).2.1 = _; rw [h]; rfl, by show (mUpto (ps.set p t) 60).2.2 = _; rw [h]⟩

end Go.Proofs.Ytelbannfbglgcaa
