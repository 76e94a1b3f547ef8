/-
  Contracts of impl.GetText and spec.GetText.
-/
import Derived.Test.YtmolhhljodlhaaaGet2
import Derived.Test.YtmolhhljodlhaaaPutText
namespace Go.Proofs.Ytmolhhljodlhaaa
open Go.RowKit

theorem getF_bd {zs : List Int} {f j : Nat} {u n m : Int} {q : Nat} (hb : IsBytes zs) (hu : 0 ≤ u) (hn : 0 ≤ n) (h : getF zs f j u n = some (m, q)) : 0 ≤ m ∧ m ≤ 1000000000 ∧ q ≤ zs.length ∧ 1 ≤ q := by
  induction f generalizing j u n with
  | zero => simp [getF] at h
  | succ f ih =>
    unfold getF at h
    have hz := hb.at j
    have hmul : 0 ≤ zs[j]?.getD 0 % 128 * u := Int.mul_nonneg (by omega) hu
    by_cases hj : j < zs.length
    · rw [if_pos hj] at h
      by_cases h1 : 128 ≤ zs[j]?.getD 0
      · rw [if_pos h1] at h
        exact ih (by omega) (by omega) h
      · rw [if_neg h1] at h
        by_cases h2 : 1000000000 < n + zs[j]?.getD 0 % 128 * u ∨ zs[j]?.getD 0 = 0 ∧ 1 < u
        · rw [if_pos h2] at h; simp at h
        · rw [if_neg h2] at h
          simp only [Option.some.injEq, Prod.mk.injEq] at h
          obtain ⟨rfl, rfl⟩ := h
          omega
    · rw [if_neg hj] at h; simp at h
theorem getN_bd {zs : List Int} {i m : Int} {q : Nat} (hb : IsBytes zs) (h : getN zs i = some (m, q)) : 0 ≤ m ∧ m ≤ 1000000000 ∧ q ≤ zs.length ∧ 1 ≤ q := by
  unfold getN at h
  by_cases h0 : 0 ≤ i
  · rw [if_pos h0] at h; exact getF_bd hb (by omega) (by omega) h
  · rw [if_neg h0] at h; simp at h

/-- What GetText tells: the text's bytes and the place behind it. -/
def getT (zs : List Int) (i : Int) : Option (List Int × Nat) :=
  match getN zs i with
  | none => none
  | some (n, j) => if 400 < n ∨ (zs.length : Int) - j < n then none else some ((zs.drop j).take n.toNat, j + n.toNat)
/-- The text that is cut out of bytes, wherever the cut lies. -/
theorem conv_cut {w : World} {b off j N c : Nat} {zs : List Int} (hb : IsBytes zs) (hc : ∀ i, i < zs.length → w.cell? ⟨b, off + i, none⟩ = some (.int .u8 (zs.getD i 0))) (h : j + N ≤ zs.length) :
    (convert 52 9 (.slice (some ⟨b, off + j, none⟩) N c)).run Try.prog w = .ok (.string (strOf ((zs.drop j).take N))) w := by
  have hl : ((zs.drop j).take N).length = N := by simp; omega
  have hb' : IsBytes ((zs.drop j).take N) := fun z hz => hb z (List.mem_of_mem_drop (List.mem_of_mem_take hz))
  have := conv_bytes (w := w) (b := b) (o := off + j) (c := c) hb' (by
    intro i hi
    rw [hl] at hi
    rw [Nat.add_assoc, hc (j + i) (by omega)]
    simp [hi, show j + i < zs.length by omega])
  rw [hl] at this
  exact this
theorem conv_none {w : World} {b o c : Nat} : (convert 52 9 (.slice (some ⟨b, o, none⟩) 0 c)).run Try.prog w = .ok (.string (strOf [])) w :=
  conv_bytes (ys := []) (fun z hz => by simp at hz) (fun i hi => by simp at hi)

/-- How taking a text ends. -/
def TookT (pb : Nat) (r : Option (List Int × Nat)) (e : Ending) (w' : World) : Prop :=
  match r with
  | none => ∃ s, e = .panicked [{ v := .iface 9 (.string s), recovered := false }]
  | some (ys, j) => e = .returned (.string (strOf ys)) ∧ w'.cell? ⟨pb, 0, none⟩ = some (.int .i64 j) ∧ w'.frozen? ⟨pb, 0, none⟩ = false
theorem tookT_no {pb : Nat} {r : Option (List Int × Nat)} {e : Ending} {w' : World} {s : ByteArray} (h : r = none) (he : e = .panicked [{ v := .iface 9 (.string s), recovered := false }]) : TookT pb r e w' := by subst h; exact ⟨s, he⟩
theorem tookT_yes {pb : Nat} {r : Option (List Int × Nat)} {e : Ending} {w' : World} {ys : List Int} {j : Nat} (h : r = some (ys, j)) (he : e = .returned (.string (strOf ys))) (hc : w'.cell? ⟨pb, 0, none⟩ = some (.int .i64 j)) (hf : w'.frozen? ⟨pb, 0, none⟩ = false) : TookT pb r e w' := by subst h; exact ⟨he, hc, hf⟩

end Go.Proofs.Ytmolhhljodlhaaa
