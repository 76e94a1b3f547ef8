/-
  Contract of the specification's l2Copy: a chip of sixty pages and ten numbers is copied into rows of its own.
-/
import Derived.Test.YtmolhhljodlhaaaSpecChip
import Derived.Deep.RegionHeldLaw
import Derived.Deep.RegionLawGrows
namespace Go.Proofs.Ytmolhhljodlhaaa
open Go.RowKit
attribute [local go_sem ↓] Go.wp_at_zero Go.wp_at_succ

/-- What a cell holds, behind a name that the walk does not open. -/
def cellOr (w : World) (b o : Nat) : Value := (w.cell? ⟨b, o, none⟩).getD undef
theorem cellOr_eq {w : World} {b o : Nat} (h : (w.cell? ⟨b, o, none⟩).isSome = true) : w.cell? ⟨b, o, none⟩ = some (cellOr w b o) := by
  obtain ⟨v, hv⟩ := Option.isSome_iff_exists.1 h
  simp [cellOr, hv]

/-- What stays while the copies are made: the boxed chip, the place of the answer, all that is older. -/
abbrev CopyS (w : World) (p q : Value) (w' : World) : Prop :=
  w'.cell? ⟨w.heap.size, 0, none⟩ = some p ∧ w'.cell? ⟨w.heap.size, 1, none⟩ = some q ∧ w'.cell? ⟨w.heap.size + 1, 0, none⟩ = some (cellOr w' (w.heap.size + 1) 0) ∧ w'.cell? ⟨w.heap.size + 1, 1, none⟩ = some (cellOr w' (w.heap.size + 1) 1) ∧
    w'.frozen? ⟨w.heap.size + 1, 0, none⟩ = false ∧ w'.frozen? ⟨w.heap.size + 1, 1, none⟩ = false ∧ Below w.heap.size w w' ∧ w.heap.size + 1 < w'.heap.size
theorem copyS_step {w : World} {p q : Value} {w' w'' : World} (h : CopyS w p q w') (hb : Below w'.heap.size w' w'') : CopyS w p q w'' := by
  obtain ⟨h1, h2, h3, h4, h5, h6, h7, h8⟩ := h
  refine ⟨?_, ?_, ?_, ?_, ?_, ?_, h7.trans (hb.mono h7.size), Nat.lt_of_lt_of_le h8 hb.size⟩
  · rw [hb.cell (p := ⟨w.heap.size, 0, none⟩) (by show _ < _; simp; omega)]; exact h1
  · rw [hb.cell (p := ⟨w.heap.size, 1, none⟩) (by show _ < _; simp; omega)]; exact h2
  · exact cellOr_eq (by rw [hb.cell (p := ⟨w.heap.size + 1, 0, none⟩) (by show _ < _; simp; omega), h3]; rfl)
  · exact cellOr_eq (by rw [hb.cell (p := ⟨w.heap.size + 1, 1, none⟩) (by show _ < _; simp; omega), h4]; rfl)
  · rw [hb.frozen (p := ⟨w.heap.size + 1, 0, none⟩) (by show _ < _; simp; omega)]; exact h5
  · rw [hb.frozen (p := ⟨w.heap.size + 1, 1, none⟩) (by show _ < _; simp; omega)]; exact h6
theorem copyS_store {w : World} {p q : Value} {w' : World} (h : CopyS w p q w') (x y : Value) : CopyS w p q ((w'.setCell ⟨w.heap.size + 1, 0, none⟩ x).setCell ⟨w.heap.size + 1, 1, none⟩ y) := by
  obtain ⟨h1, h2, h3, h4, h5, h6, h7, h8⟩ := h
  have k0 : ((w'.setCell ⟨w.heap.size + 1, 0, none⟩ x).setCell ⟨w.heap.size + 1, 1, none⟩ y).cell? ⟨w.heap.size + 1, 0, none⟩ = some x := by simp [go_sem, h3]
  have k1 : ((w'.setCell ⟨w.heap.size + 1, 0, none⟩ x).setCell ⟨w.heap.size + 1, 1, none⟩ y).cell? ⟨w.heap.size + 1, 1, none⟩ = some y := by simp [go_sem, h4]
  refine ⟨by simpa [go_sem] using h1, by simpa [go_sem] using h2, cellOr_eq (by rw [k0]; rfl), cellOr_eq (by rw [k1]; rfl), by simpa using h5, by simpa using h6, (h7.setCell (by show _ ≤ _; simp) _).setCell (by show _ ≤ _; simp) _, by simpa [World.setCell] using h8⟩
theorem copyS_alloc {w : World} {p q : Value} {w' : World} (h : CopyS w p q w') (o : Obj) : CopyS w p q (w'.alloc o) := copyS_step h ((Below.refl _ _).alloc (Nat.le_refl _) o)

theorem owns_form {w : World} {base : Nat} {e : TypeId} {v : Value} {n : Nat} {xs : List Value} (h : w.ownsRow base e 1 v n xs) (hn : 0 < n) : ∃ g cap, v = .slice (some ⟨g, 0, none⟩) n cap ∧ base ≤ g ∧ g < w.heap.size := by
  rcases id h with ⟨_, ⟨_, h0⟩ | ⟨g, cap, cur, hv, hg, -⟩⟩
  · omega
  · exact ⟨g, cap, hv, hg, (h.lt g (by rw [hv]; rfl)).2⟩
theorem copyS_below {w : World} (p q : Value) {w' : World} (h : CopyS w p q w') : Below w.heap.size w w' := h.2.2.2.2.2.2.1
theorem copyS_drew {w : World} {p q : Value} {w' : World} (h : CopyS w p q w') : CopyS w p q w'.drew := copyS_step h (after_drew (Below.refl _ _) 1)

theorem copy_fin {w : World} {p q : Value} {wF : World} (h : CopyS w p q wF) {ps : List ByteArray} {ws : List Int} {gA kA gB kB N M bA bB : Nat} (hN : N = ps.length) (hM : M = ws.length)
    (hA : wF.ownsRow bA 9 1 (.slice (some ⟨gA, 0, none⟩) N kA) N (vsString ps)) (hB : wF.ownsRow bB 3 1 (.slice (some ⟨gB, 0, none⟩) M kB) M (vsInt ws)) (hbA : w.heap.size + 1 < bA) (hbB : w.heap.size + 1 < bB) (hne : gA ≠ gB) :
    ChipOwn ((wF.setCell ⟨w.heap.size + 1, 0, none⟩ (.slice (some ⟨gA, 0, none⟩) N kA)).setCell ⟨w.heap.size + 1, 1, none⟩ (.slice (some ⟨gB, 0, none⟩) M kB)) w.heap.size (.agg #[.slice (some ⟨gA, 0, none⟩) N kA, .slice (some ⟨gB, 0, none⟩) M kB]) ps ws ∧
      Below w.heap.size w ((wF.setCell ⟨w.heap.size + 1, 0, none⟩ (.slice (some ⟨gA, 0, none⟩) N kA)).setCell ⟨w.heap.size + 1, 1, none⟩ (.slice (some ⟨gB, 0, none⟩) M kB)) := by
  subst hN hM
  refine ⟨⟨_, _, rfl, ?_, ?_, ?_⟩, (copyS_store h _ _).2.2.2.2.2.2.1⟩
  · refine owns_mono (ownsRow_setCell_below (ownsRow_setCell_below hA ?_ _) ?_ _) (by omega) <;> (show _ < _; simpa using hbA)
  · refine owns_mono (ownsRow_setCell_below (ownsRow_setCell_below hB ?_ _) ?_ _) (by omega) <;> (show _ < _; simpa using hbB)
  · intro k hk
    simp [Value.ownBlock] at hk ⊢
    omega

end Go.Proofs.Ytmolhhljodlhaaa
