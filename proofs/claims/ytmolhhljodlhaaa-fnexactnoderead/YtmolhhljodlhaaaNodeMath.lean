/-
  Mathematics of nodes: when a row of kids is right, and its text.
-/
import Derived.Test.YtmolhhljodlhaaaNameOk
import Derived.Test.YtmolhhljodlhaaaStrLib
namespace Go.Proofs.Ytmolhhljodlhaaa
open Go.RowKit
set_option linter.unusedVariables false

def lastK (K : List (ByteArray × Int)) (i : Nat) : ByteArray := if i = 0 then ⟨#[]⟩ else ((K[i - 1]?).getD (⟨#[]⟩, 0)).1
def metZ (K : List (ByteArray × Int)) (i : Nat) (z : Int) : Bool := (K.take i).any fun x => x.2 == z
def goodB (K : List (ByteArray × Int)) (i : Nat) (x : ByteArray × Int) : Bool := nameB x.1 && lessB (lastK K i) x.1 && (decide (1 ≤ x.2) && decide (x.2 ≤ 11)) && !metZ K i x.2
def fitsB (K : List (ByteArray × Int)) : Bool := (List.range K.length).all fun i => match K[i]? with | some x => goodB K i x | none => true

theorem metZ_none (K : List (ByteArray × Int)) (z : Int) : metZ K 0 z = false := rfl
theorem metZ_step {K : List (ByteArray × Int)} {i : Nat} {x : ByteArray × Int} (h : K[i]? = some x) (z : Int) : metZ K (i + 1) z = (metZ K i z || x.2 == z) := by
  unfold metZ; rw [List.take_add_one, h]; simp
theorem lastK_step {K : List (ByteArray × Int)} {i : Nat} {x : ByteArray × Int} (h : K[i]? = some x) : lastK K (i + 1) = x.1 := by
  unfold lastK; simp [h]
def PreK (K : List (ByteArray × Int)) (k : Nat) : Prop := ∀ j x, j < k → K[j]? = some x → goodB K j x = true
theorem preK_zero (K : List (ByteArray × Int)) : PreK K 0 := fun j x h => by omega
theorem preK_step {K : List (ByteArray × Int)} {k : Nat} {x : ByteArray × Int} (h : PreK K k) (hx : K[k]? = some x) (hg : goodB K k x = true) : PreK K (k + 1) := by
  intro j y hj hy
  by_cases hjk : j = k
  · subst hjk
    rw [hx] at hy; cases hy; exact hg
  · exact h j y (by omega) hy
theorem preK_bad {K : List (ByteArray × Int)} {k : Nat} {x : ByteArray × Int} (hx : K[k]? = some x) (hg : goodB K k x = false) : fitsB K = false := by
  have hk : k < K.length := by
    rcases Nat.lt_or_ge k K.length with h' | h'
    · exact h'
    · simp [h'] at hx
  cases hc : fitsB K with
  | false => rfl
  | true =>
    unfold fitsB at hc
    rw [List.all_eq_true] at hc
    have := hc k (by simpa using hk)
    simp only [hx] at this
    rw [hg] at this; cases this
theorem preK_all {K : List (ByteArray × Int)} (h : PreK K K.length) : fitsB K = true := by
  unfold fitsB
  rw [List.all_eq_true]
  intro i hi
  have hi' : i < K.length := by simpa using hi
  cases hc : K[i]? with
  | none => rfl
  | some x => exact h i x hi' hc
theorem fitsB_at {K : List (ByteArray × Int)} (h : fitsB K = true) {k : Nat} {x : ByteArray × Int} (hx : K[k]? = some x) : goodB K k x = true := by
  have hk : k < K.length := by
    rcases Nat.lt_or_ge k K.length with h' | h'
    · exact h'
    · simp [h'] at hx
  unfold fitsB at h
  rw [List.all_eq_true] at h
  have := h k (by simpa using hk)
  simpa only [hx] using this
theorem nameB_size {s : ByteArray} (h : nameB s = true) : 1 ≤ s.size ∧ s.size ≤ 6 := by
  unfold nameB at h
  simp at h
  omega
theorem nameB_none : nameB ⟨#[]⟩ = false := by
  cases h : nameB ⟨#[]⟩ with
  | false => rfl
  | true => have := (nameB_size h).1; exact absurd this (by decide)

/-- A node that is right. -/
def nodeB (dir : Bool) (ns : List ByteArray) (ks : List Int) (dat : ByteArray) : Bool :=
  if dir then decide (dat.size = 0) && decide (ns.length = ks.length) && fitsB (ns.zip ks) else decide (ns.length = 0) && decide (ks.length = 0) && decide (dat.size ≤ 60)

end Go.Proofs.Ytmolhhljodlhaaa
