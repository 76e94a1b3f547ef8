/-
  Contract of the specification's Burn.
-/
import Derived.Test.YtmolhhljodlhaaaSpecCopy
namespace Go.Proofs.Ytmolhhljodlhaaa
open Go.RowKit

/-- What Burn makes of the pages. -/
def burnOk (ps : List ByteArray) (page : Int) (text : ByteArray) : Prop := 0 ≤ page ∧ page ≤ 59 ∧ ps[page.toNat]?.getD ByteArray.empty = ByteArray.empty ∧ text ≠ ByteArray.empty ∧ text.size ≤ 800

/-- A chip that is the call's own, its rows written out. -/
theorem own_form {w : World} {base : Nat} {v : Value} {ps : List ByteArray} {ws : List Int} (h : ChipOwn w base v ps ws) (h1 : 0 < ps.length) (h2 : 0 < ws.length) :
    ∃ g k g' k', v = .agg #[.slice (some ⟨g, 0, none⟩) ps.length k, .slice (some ⟨g', 0, none⟩) ws.length k'] ∧ w.ownsRow base 9 1 (.slice (some ⟨g, 0, none⟩) ps.length k) ps.length (vsString ps) ∧
      w.ownsRow base 3 1 (.slice (some ⟨g', 0, none⟩) ws.length k') ws.length (vsInt ws) ∧ g ≠ g' ∧ base ≤ g ∧ base ≤ g' ∧ g < w.heap.size ∧ g' < w.heap.size := by
  obtain ⟨v1, v2, rfl, ho1, ho2, hne⟩ := h
  obtain ⟨g, k, rfl, hb, hl⟩ := owns_form ho1 h1
  obtain ⟨g', k', rfl, hb', hl'⟩ := owns_form ho2 h2
  exact ⟨g, k, g', k', rfl, ho1, ho2, fun e => hne g rfl (by rw [e]; rfl), hb, hb', hl, hl'⟩
theorem own_zero (w : World) (base : Nat) : ChipOwn w base (.agg #[.slice none 0 0, .slice none 0 0]) [] [] :=
  ⟨_, _, rfl, World.ownsRow_nil _ _ _ _, World.ownsRow_nil _ _ _ _, fun k hk => by simp [Value.ownBlock] at hk⟩
theorem own_below {w w' : World} {base : Nat} {v : Value} {ps : List ByteArray} {ws : List Int} (h : ChipOwn w base v ps ws) (hb : Below w.heap.size w w') : ChipOwn w' base v ps ws := by
  obtain ⟨v1, v2, rfl, ho1, ho2, hne⟩ := h
  exact ⟨v1, v2, rfl, owns_below ho1 hb, owns_below ho2 hb, hne⟩
theorem own_mono {w : World} {base base' : Nat} {v : Value} {ps : List ByteArray} {ws : List Int} (h : ChipOwn w base' v ps ws) (hb : base ≤ base') : ChipOwn w base v ps ws := by
  obtain ⟨v1, v2, rfl, ho1, ho2, hne⟩ := h
  exact ⟨v1, v2, rfl, owns_mono ho1 hb, owns_mono ho2 hb, hne⟩
theorem own_set {w : World} {base : Nat} {v : Value} {ps : List ByteArray} {ws : List Int} (h : ChipOwn w base v ps ws) {a : Addr} (ha : a.block < base) (u : Value) : ChipOwn (w.setCell a u) base v ps ws := by
  obtain ⟨v1, v2, rfl, ho1, ho2, hne⟩ := h
  exact ⟨v1, v2, rfl, ownsRow_setCell_below ho1 ha u, ownsRow_setCell_below ho2 ha u, hne⟩
/-- One page is written. -/
theorem own_page {w : World} {base g k g' k' : Nat} {ps : List ByteArray} {ws : List Int} (ho1 : w.ownsRow base 9 1 (.slice (some ⟨g, 0, none⟩) ps.length k) ps.length (vsString ps))
    (ho2 : w.ownsRow base 3 1 (.slice (some ⟨g', 0, none⟩) ws.length k') ws.length (vsInt ws)) (hne : g ≠ g') (j : Nat) (t : ByteArray) :
    ChipOwn (w.setCell ⟨g, j, none⟩ (.string t)) base (.agg #[.slice (some ⟨g, 0, none⟩) ps.length k, .slice (some ⟨g', 0, none⟩) ws.length k']) (ps.set j t) ws := by
  have hs := ho1.stored j (.string t)
  refine ⟨_, _, rfl, ?_, ?_, ?_⟩
  · have e : (vsString ps).set j (.string t) = vsString (ps.set j t) := by simp [List.map_set]
    have := hs.1
    rw [e] at this
    simpa using this
  · exact ho2.kept hs.2 (.inr (by simp [Value.ownBlock]; omega))
  · intro q hq
    simp [Value.ownBlock] at hq ⊢
    omega

theorem isEmpty_str {s : ByteArray} (h : ¬ s = ByteArray.empty) : s.toList.isEmpty = false := by
  rw [ByteArray.toList_eq]
  cases s with
  | mk data =>
    cases hd : data.toList with
    | nil =>
      exfalso; apply h
      have : data = #[] := by simpa using hd
      rw [this]; rfl
    | cons x r => simp

end Go.Proofs.Ytmolhhljodlhaaa
