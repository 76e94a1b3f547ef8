/-
  Records against their texts: what a text tells is the record whose text it is.
-/
import Derived.Test.YtmolhhljodlhaaaNumMath
import Derived.Test.YtmolhhljodlhaaaSum
namespace Go.Proofs.Ytmolhhljodlhaaa
open Go.RowKit

/-- A record may be written. -/
def recOkB (s q : Int) (d : ByteArray) : Bool := decide (0 ≤ s ∧ s ≤ 25) && decide (1 ≤ q ∧ q ≤ 1000000000) && decide (d.size ≤ 400)
/-- What is summed. -/
def restB (s q : Int) (d : ByteArray) : List Int := putB s ++ putB q ++ textB d
/-- The bytes of a record; none of one that may not be written. -/
def recB (s q : Int) (d : ByteArray) : List Int := if recOkB s q d = true then putB (sumOf (restB s q d)) ++ restB s q d else []
/-- The text of a record. -/
def recT (s q : Int) (d : ByteArray) : ByteArray := strOf (recB s q d)

theorem recOkB_iff {s q : Int} {d : ByteArray} : recOkB s q d = true ↔ (0 ≤ s ∧ s ≤ 25) ∧ (1 ≤ q ∧ q ≤ 1000000000) ∧ d.size ≤ 400 := by simp [recOkB, and_assoc]
theorem IsBytes.app {a b : List Int} (h : IsBytes a) (k : IsBytes b) : IsBytes (a ++ b) := by
  intro z hz
  rcases List.mem_append.1 hz with h' | h'
  · exact h z h'
  · exact k z h'
theorem restB_bytes (s q : Int) (d : ByteArray) : IsBytes (restB s q d) := ((putB_bytes s).app (putB_bytes q)).app (textB_bytes d)
theorem recB_bytes (s q : Int) (d : ByteArray) : IsBytes (recB s q d) := by
  unfold recB
  split
  · exact (putB_bytes _).app (restB_bytes s q d)
  · intro z hz; simp at hz
theorem restB_len (s q : Int) (d : ByteArray) : (restB s q d).length ≤ 415 := by
  have h1 := putB_len s
  have h2 := putB_len q
  have h3 := textB_len d
  simp [restB]; omega
theorem recB_len (s q : Int) (d : ByteArray) : (recB s q d).length ≤ 420 := by
  unfold recB
  split
  · have h1 := putB_len (sumOf (restB s q d))
    have h2 := restB_len s q d
    simp; omega
  · simp
theorem recT_size (s q : Int) (d : ByteArray) : (recT s q d).size ≤ 420 := by
  unfold recT; rw [strOf_size]; exact recB_len s q d

theorem getN_mid {x : Int} (p r : List Int) (h0 : 0 ≤ x) (h1 : x ≤ 1000000000) : getN (p ++ (putB x ++ r)) (p.length : Int) = some (x, p.length + (putB x).length) := by
  unfold getN putB
  rw [if_pos (by omega), if_pos ⟨h0, h1⟩, Int.toNat_natCast]
  have := getF_numF 4 x p r 1 0 h0 (by simp [lim]; omega) (by omega) (by omega) (by omega)
  simpa using this
theorem getT_mid {d : ByteArray} (p : List Int) (h : ¬ 400 < d.size) : getT (p ++ textB d) (p.length : Int) = some (strB d, p.length + (textB d).length) := by
  unfold getT textB
  rw [if_neg h, getN_mid p (strB d) (by omega) (by omega)]
  simp only []
  have hl := strB_len d
  rw [if_neg (by rw [List.length_append, List.length_append]; omega)]
  have e : (p ++ (putB ↑d.size ++ strB d)).drop (p.length + (putB ↑d.size).length) = strB d := by
    rw [← List.append_assoc, ← List.length_append, List.drop_left]
  rw [e]
  have e2 : ((d.size : Nat) : Int).toNat = (strB d).length := by omega
  rw [e2, List.take_length, List.length_append, Nat.add_assoc]

/-- What a text tells: the record whose text it is. -/
def recR (t : ByteArray) : Option (Int × Int × ByteArray) :=
  match getN (strB t) 0 with
  | none => none
  | some (_, i) => match getN (strB t) i with
    | none => none
    | some (s, j) => match getN (strB t) j with
      | none => none
      | some (q, k) => match getT (strB t) k with
        | none => none
        | some (ys, _) => if recT s q (strOf ys) = t then some (s, q, strOf ys) else none

theorem recR_of {s q : Int} {d : ByteArray} (h : recOkB s q d = true) : recR (recT s q d) = some (s, q, d) := by
  obtain ⟨⟨s0, s1⟩, ⟨q0, q1⟩, hd⟩ := recOkB_iff.1 h
  have hB : strB (recT s q d) = putB (sumOf (restB s q d)) ++ (putB s ++ (putB q ++ textB d)) := by
    rw [recT, strB_strOf (recB_bytes s q d), recB, if_pos h, restB]
    simp
  have hsum := sumOf_bd (restB s q d)
  unfold recR
  rw [hB, getN_putB _ (by omega) (by omega)]
  simp only []
  rw [getN_mid _ _ s0 (by omega)]
  simp only []
  have e1 : putB (sumOf (restB s q d)) ++ (putB s ++ (putB q ++ textB d)) = (putB (sumOf (restB s q d)) ++ putB s) ++ (putB q ++ textB d) := by simp
  have e2 : (((putB (sumOf (restB s q d))).length + (putB s).length : Nat) : Int) = ((putB (sumOf (restB s q d)) ++ putB s).length : Nat) := by simp
  rw [e1, e2, getN_mid _ _ (by omega) q1]
  simp only []
  have e3 : (putB (sumOf (restB s q d)) ++ putB s) ++ (putB q ++ textB d) = ((putB (sumOf (restB s q d)) ++ putB s) ++ putB q) ++ textB d := by simp
  have e4 : (((putB (sumOf (restB s q d)) ++ putB s).length + (putB q).length : Nat) : Int) = (((putB (sumOf (restB s q d)) ++ putB s) ++ putB q).length : Nat) := by rw [← List.length_append]
  rw [e3, e4, getT_mid _ (by omega)]
  simp only []
  rw [strOf_strB, if_pos rfl]

theorem recR_some {t : ByteArray} {s q : Int} {d : ByteArray} (h : recR t = some (s, q, d)) : recOkB s q d = true ∧ recT s q d = t := by
  have hne : ¬ (strB t) = [] := by
    intro e
    unfold recR at h
    rw [e] at h
    simp [getN, getF] at h
  have ht : recT s q d = t := by
    unfold recR at h
    split at h
    · simp at h
    · split at h
      · simp at h
      · split at h
        · simp at h
        · split at h
          · simp at h
          · split at h
            · simp only [Option.some.injEq, Prod.mk.injEq] at h
              obtain ⟨rfl, rfl, rfl⟩ := h
              assumption
            · simp at h
  refine ⟨?_, ht⟩
  by_cases hok : recOkB s q d = true
  · exact hok
  · exfalso
    apply hne
    rw [← ht, recT, strB_strOf (recB_bytes s q d), recB, if_neg hok]
theorem recR_iff {t : ByteArray} {s q : Int} {d : ByteArray} : recR t = some (s, q, d) ↔ recOkB s q d = true ∧ recT s q d = t :=
  ⟨recR_some, fun ⟨h1, h2⟩ => by rw [← h2]; exact recR_of h1⟩
theorem recR_none {t : ByteArray} : recR t = none ↔ ∀ s q d, recOkB s q d = true → recT s q d ≠ t := by
  constructor
  · intro h s q d h1 h2
    rw [recR_iff.2 ⟨h1, h2⟩] at h
    simp at h
  · intro h
    cases hr : recR t with
    | none => rfl
    | some r =>
      obtain ⟨s, q, d⟩ := r
      have := recR_some hr
      exact absurd this.2 (h s q d this.1)

end Go.Proofs.Ytmolhhljodlhaaa
