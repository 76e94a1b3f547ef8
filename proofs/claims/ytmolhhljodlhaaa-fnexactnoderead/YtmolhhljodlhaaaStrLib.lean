/-
  My own small laws for texts: equality and order as the model asks them.
-/
import Derived.Test.YtmolhhljodlhaaaLib
import Derived.Laws.Strings
import Derived.Laws.Cover1
namespace Go.Proofs.Ytmolhhljodlhaaa
open Go.RowKit

theorem bytes_inj {a b : ByteArray} (h : a.toList = b.toList) : a = b := by
  rw [ByteArray.toList_eq, ByteArray.toList_eq] at h
  cases a; cases b; simp at h; rw [h]
theorem str_beq (a b : ByteArray) : (a.toList == b.toList) = decide (a = b) := by
  by_cases h : a = b
  · subst h; simp
  · have : ¬ a.toList = b.toList := fun e => h (bytes_inj e)
    simp [h, this]
theorem str_same (a : ByteArray) : (a.toList == a.toList) = true := by simp
theorem str_other {a b : ByteArray} (h : a ≠ b) : (a.toList == b.toList) = false := by rw [str_beq]; simp [h]
theorem size_zero {s : ByteArray} (h : s.size = 0) : s = ⟨#[]⟩ := by
  cases s with
  | mk d =>
    have : d.size = 0 := h
    rw [Array.size_eq_zero_iff] at this
    rw [this]
theorem str_none {s : ByteArray} (h : s.size = 0) : (s.toList == (⟨#[]⟩ : ByteArray).toList) = true := by rw [size_zero h]; exact str_same _
theorem str_some {s : ByteArray} (h : s.size ≠ 0) : (s.toList == (⟨#[]⟩ : ByteArray).toList) = false := str_other (fun e => h (by rw [e]; rfl))
theorem list_none {s : ByteArray} (h : s.size = 0) : s.toList = [] := by rw [size_zero h, ByteArray.toList_eq]
theorem list_some {s : ByteArray} (h : s.size ≠ 0) : ¬ s.toList = [] := by
  intro e
  rw [ByteArray.toList_eq] at e
  have := congrArg List.length e
  simp at this
  exact h (by rw [this]; rfl)

/-- The order of texts. -/
theorem less_nil (l : List UInt8) : Op.bytesLess l [] = false := by cases l <;> rfl
theorem less_tri : ∀ (x y : List UInt8), (!Op.bytesLess x y) = (Op.bytesLess y x || y == x) := by
  intro x
  induction x with
  | nil =>
    intro y
    cases y with
    | nil => rfl
    | cons b y => simp [Op.bytesLess]
  | cons a x ih =>
    intro y
    cases y with
    | nil => simp [Op.bytesLess]
    | cons b y =>
      have := ih y
      simp only [Op.bytesLess, List.cons_beq_cons]
      by_cases hab : a < b
      · have hba : ¬ b < a := by rw [UInt8.lt_iff_toNat_lt] at *; omega
        have hne : (b == a) = false := by
          apply beq_false_of_ne
          intro e; subst e; rw [UInt8.lt_iff_toNat_lt] at hab; omega
        simp [hab, hba, hne]
      · by_cases hba : b < a
        · have hne : (a == b) = false := by
            apply beq_false_of_ne
            intro e; subst e; rw [UInt8.lt_iff_toNat_lt] at hba; omega
          simp [hab, hba, hne]
        · have e : a = b := by
            rw [UInt8.lt_iff_toNat_lt] at *
            exact UInt8.toNat_inj.mp (by omega)
          subst e
          simpa [hab] using this
def lessB (a b : ByteArray) : Bool := Op.bytesLess a.toList b.toList
theorem lessB_geq (a b : ByteArray) : (!Op.bytesLess a.toList b.toList) = (!lessB a b) := rfl
theorem lessB_leq (a b : ByteArray) : (Op.bytesLess b.toList a.toList || b.toList == a.toList) = (!lessB a b) := (less_tri a.toList b.toList).symm
theorem lessB_empty {s : ByteArray} (h : s.size ≠ 0) : lessB ⟨#[]⟩ s = true := by
  unfold lessB
  have : (⟨#[]⟩ : ByteArray).toList = [] := by rw [ByteArray.toList_eq]
  rw [this]
  cases hc : s.toList with
  | nil =>
    have := congrArg List.length hc
    rw [ByteArray.toList_eq] at this
    exact absurd (by simpa using this) h
  | cons a l => rfl
end Go.Proofs.Ytmolhhljodlhaaa
