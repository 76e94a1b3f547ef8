/-
  A chip that came in as an argument: its two rows, as lists of texts and numbers.
-/
import Derived.Test.YtmolhhljodlhaaaHelpChip
import Derived.Lib.SmallJoins
import Derived.SliceStrings
namespace Go.Proofs.Ytmolhhljodlhaaa
open Go.RowKit Go.ChangeShapes Go.WideShapes Go.ChangeAt Go.Joins
set_option maxRecDepth 100000

/-- A slice of texts that came in. -/
theorem rdStrings_of {H : Type} {enc : TypeId × Value → H} {W : World} {fuel : Nat} {v : Value} {y : DataW H × List MemPlace} (h : DataW.trod enc Try.prog W 0 (fun _ => true) true fuel 23 [v] = some y) :
    ∃ a ps c, v = .slice a (List.length ps) c ∧ Rd W a (vsString ps) ∧ ps.length ≤ maxLen ∧ ∀ s ∈ ps, s.size ≤ maxLen := by
  rcases open_strings Try.underlying23 Try.underlying9 (by kernel_rfl) h with ⟨hcs, _⟩ | ⟨x, l, c, ss, hcs, _, hl, hm, hz, _, hcell, hws⟩
  · simp at hcs; subst hcs
    exact ⟨none, [], 0, rfl, .inl rfl, by simp, by simp⟩
  · simp at hcs; subst hcs
    simp at hz
    have hlen : (ss.take l).length = l := by simp; omega
    refine ⟨some x, ss.take l, c, by rw [hlen], ?_, by omega, fun s hs => hws s (List.mem_of_mem_take hs)⟩
    by_cases h0 : l = 0
    · subst h0; left; simp
    · obtain ⟨b, off, spot⟩ := x
      have hspot : spot = none := by
        have := hcell 0 (by omega)
        simpa [Addr.add] using World.cell?_spot this
      subst hspot
      refine .inr ⟨b, off, rfl, fun i v hv => ?_⟩
      have hi : i < l := by
        rcases Nat.lt_or_ge i l with h' | h'
        · exact h'
        · simp [List.getElem?_take, show ¬ i < l by omega] at hv
      have hiz : i < ss.length := by omega
      have e := hcell i hiz
      have ea : (⟨b, off, none⟩ : Addr).add i = ⟨b, off + i, none⟩ := by
        by_cases h0 : i = 0
        · subst h0; simp [Addr.add]
        · simp [Addr.add, h0]
      rw [ea] at e
      simp [hi, hiz] at hv
      subst hv
      simpa [hiz] using e

/-- A slice of ints that came in. -/
theorem rdInts_of {H : Type} {enc : TypeId × Value → H} {W : World} {fuel : Nat} {v : Value} {y : DataW H × List MemPlace} (h : DataW.trod enc Try.prog W 0 (fun _ => true) true fuel 24 [v] = some y) :
    ∃ a ws c, v = .slice a (List.length ws) c ∧ Rd W a (vsInt ws) ∧ ws.length ≤ maxLen := by
  rcases open_ints Try.underlying24 Try.underlying3 (by kernel_rfl) h with ⟨hcs, _⟩ | ⟨x, l, c, ss, hcs, _, hl, hm, hz, _, hcell, hws⟩
  · simp at hcs; subst hcs
    exact ⟨none, [], 0, rfl, .inl rfl, by simp⟩
  · simp at hcs; subst hcs
    simp at hz
    have hlen : (ss.take l).length = l := by simp; omega
    refine ⟨some x, ss.take l, c, by rw [hlen], ?_, by omega⟩
    by_cases h0 : l = 0
    · subst h0; left; simp
    · obtain ⟨b, off, spot⟩ := x
      have hspot : spot = none := by
        have := hcell 0 (by omega)
        simpa [Addr.add] using World.cell?_spot this
      subst hspot
      refine .inr ⟨b, off, rfl, fun i v hv => ?_⟩
      have hi : i < l := by
        rcases Nat.lt_or_ge i l with h' | h'
        · exact h'
        · simp [List.getElem?_take, show ¬ i < l by omega] at hv
      have hiz : i < ss.length := by omega
      have e := hcell i hiz
      have ea : (⟨b, off, none⟩ : Addr).add i = ⟨b, off + i, none⟩ := by
        by_cases h0 : i = 0
        · subst h0; simp [Addr.add]
        · simp [Addr.add, h0]
      rw [ea] at e
      simp [hi, hiz] at hv
      subst hv
      simpa [hiz] using e

/-- A chip of the call's own, its value written out. -/
theorem own_open {w : World} {base : Nat} {v : Value} {ps : List ByteArray} {ws : List Int} (h : ChipOwn w base v ps ws) :
    ∃ a c b d, v = .agg #[.slice a ps.length c, .slice b ws.length d] ∧ w.ownsRow base 9 1 (.slice a ps.length c) ps.length (vsString ps) ∧ w.ownsRow base 3 1 (.slice b ws.length d) ws.length (vsInt ws) ∧
      (∀ k, (Value.slice a ps.length c).ownBlock = some k → (Value.slice b ws.length d).ownBlock ≠ some k) := by
  obtain ⟨v1, v2, rfl, h1, h2, hne⟩ := h
  have f : ∀ {e : TypeId} {v : Value} {n : Nat} {xs : List Value}, w.ownsRow base e 1 v n xs → ∃ a c, v = .slice a n c := by
    intro e v n xs h
    rcases h with ⟨_, ⟨rfl, rfl⟩ | ⟨g, cap, cur, rfl, -⟩⟩
    · exact ⟨_, _, rfl⟩
    · exact ⟨_, _, rfl⟩
  obtain ⟨a, c, rfl⟩ := f h1
  obtain ⟨b, d, rfl⟩ := f h2
  exact ⟨a, c, b, d, rfl, h1, h2, hne⟩

theorem rd_of_own {w : World} {base : Nat} {e : TypeId} {a : Option Addr} {n c : Nat} {xs : List Value} (h : w.ownsRow base e 1 (.slice a n c) n xs) : Rd w a xs := by
  rcases id h with ⟨hl, ⟨_, rfl⟩ | ⟨g, cap, cur, he, -⟩⟩
  · left; simpa using hl
  · simp at he; obtain ⟨rfl, rfl⟩ := he; exact Rd.of_owns h

end Go.Proofs.Ytmolhhljodlhaaa
