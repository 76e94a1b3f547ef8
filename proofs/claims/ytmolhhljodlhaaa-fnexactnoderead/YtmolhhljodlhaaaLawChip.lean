/-
  What the laws' walks carry along: chips in variables of the law.
-/
import Derived.Test.YtmolhhljodlhaaaArgChip
import Derived.Test.YtmolhhljodlhaaaSpecBurn
namespace Go.Proofs.Ytmolhhljodlhaaa
open Go.RowKit



/-- The variable at block p holds a chip that can be read. -/
def Loc (u : World) (p : Nat) (a b : Option Addr) (c d : Nat) (ps : List ByteArray) (ws : List Int) : Prop :=
  u.cell? ⟨p, 0, none⟩ = some (.slice a ps.length c) ∧ u.cell? ⟨p, 1, none⟩ = some (.slice b ws.length d) ∧ Rd u a (vsString ps) ∧ Rd u b (vsInt ws)
theorem Loc.below {u u' : World} {p : Nat} {a b : Option Addr} {c d : Nat} {ps : List ByteArray} {ws : List Int} (h : Loc u p a b c d ps ws) (hb : Below u.heap.size u u') : Loc u' p a b c d ps ws :=
  ⟨(hb.cell (p := ⟨p, 0, none⟩) (lt_of_cell h.1)).trans h.1, (hb.cell (p := ⟨p, 1, none⟩) (lt_of_cell h.1)).trans h.2.1, h.2.2.1.below hb, h.2.2.2.below hb⟩

/-- The variable at block p holds a chip whose rows are the call's own, from block 'base' on. -/
def LocO (u : World) (p base : Nat) (a b : Option Addr) (n m c d : Nat) (xs ys : List Value) : Prop :=
  u.cell? ⟨p, 0, none⟩ = some (.slice a n c) ∧ u.cell? ⟨p, 1, none⟩ = some (.slice b m d) ∧ u.ownsRow base 9 1 (.slice a n c) n xs ∧ u.ownsRow base 3 1 (.slice b m d) m ys ∧
    (∀ k, (Value.slice a n c).ownBlock = some k → (Value.slice b m d).ownBlock ≠ some k) ∧ (∀ k, (Value.slice a n c).ownBlock = some k → k < p) ∧ (∀ k, (Value.slice b m d).ownBlock = some k → k < p) ∧ base ≤ p
theorem LocO.below {u u' : World} {p base : Nat} {a b : Option Addr} {n m c d : Nat} {xs ys : List Value} (h : LocO u p base a b n m c d xs ys) (hb : Below u.heap.size u u') : LocO u' p base a b n m c d xs ys :=
  ⟨(hb.cell (p := ⟨p, 0, none⟩) (lt_of_cell h.1)).trans h.1, (hb.cell (p := ⟨p, 1, none⟩) (lt_of_cell h.1)).trans h.2.1, owns_below h.2.2.1 hb, owns_below h.2.2.2.1 hb, h.2.2.2.2⟩
theorem LocO.loc {u : World} {p base : Nat} {a b : Option Addr} {c d : Nat} {ps : List ByteArray} {ws : List Int} (h : LocO u p base a b ps.length ws.length c d (vsString ps) (vsInt ws)) : Loc u p a b c d ps ws :=
  ⟨h.1, h.2.1, rd_of_own h.2.2.1, rd_of_own h.2.2.2.1⟩
theorem only_cell {u u' : World} {L : List (Option Nat)} {p o : Nat} {v : Value} (h : OnlyIn u u' L) (hn : some p ∉ L) (hc : u.cell? ⟨p, o, none⟩ = some v) : u'.cell? ⟨p, o, none⟩ = some v := by
  have := h.block p (lt_of_cell hc) hn
  simp only [World.cell?] at hc ⊢
  rw [this]; exact hc
/-- Others were written: those below 'base'. -/
theorem LocO.apart {u u' : World} {L : List (Option Nat)} {p base : Nat} {a b : Option Addr} {n m c d : Nat} {xs ys : List Value} (h : LocO u p base a b n m c d xs ys) (hO : OnlyIn u u' L) (hL : ∀ k, some k ∈ L → k < base) : LocO u' p base a b n m c d xs ys := by
  obtain ⟨h1, h2, h3, h4, h5, h6, h7, h8⟩ := h
  have hp : some p ∉ L := fun hk => by have := hL p hk; omega
  refine ⟨only_cell hO hp h1, only_cell hO hp h2, hO.owns h3 ?_, hO.owns h4 ?_, h5, h6, h7, h8⟩
  · intro k hk hc; have := hL k hc; have := (h3.lt k hk).1; omega
  · intro k hk hc; have := hL k hc; have := (h4.lt k hk).1; omega
/-- Its own rows were written. -/
theorem LocO.marked {u u' : World} {p base : Nat} {a b : Option Addr} {n m c d : Nat} {xs ys xs' ys' : List Value} (h : LocO u p base a b n m c d xs ys) (hO : OnlyIn u u' [(Value.slice a n c).ownBlock, (Value.slice b m d).ownBlock])
    (h1' : u'.ownsRow base 9 1 (.slice a n c) n xs') (h2' : u'.ownsRow base 3 1 (.slice b m d) m ys') : LocO u' p base a b n m c d xs' ys' := by
  obtain ⟨h1, h2, h3, h4, h5, h6, h7, h8⟩ := h
  have hp : some p ∉ [(Value.slice a n c).ownBlock, (Value.slice b m d).ownBlock] := by
    intro hk
    simp only [List.mem_cons, List.not_mem_nil, or_false] at hk
    rcases hk with hk | hk
    · have := h6 p hk.symm; omega
    · have := h7 p hk.symm; omega
  exact ⟨only_cell hO hp h1, only_cell hO hp h2, h1', h2', h5, h6, h7, h8⟩
/-- Below its base nothing was written then. -/
theorem LocO.older {u u' : World} {p base B : Nat} {a b : Option Addr} {n m c d : Nat} {xs ys : List Value} (h : LocO u p base a b n m c d xs ys) (hO : OnlyIn u u' [(Value.slice a n c).ownBlock, (Value.slice b m d).ownBlock]) (hB : B ≤ base) (hu : B ≤ u.heap.size) : Below B u u' := by
  obtain ⟨h1, h2, h3, h4, h5, h6, h7, h8⟩ := h
  refine hO.below hu ?_
  intro k hk
  simp only [List.mem_cons, List.not_mem_nil, or_false] at hk
  rcases hk with hk | hk
  · have := (h3.lt k hk.symm).1; omega
  · have := (h4.lt k hk.symm).1; omega
theorem LocO.blocks {u : World} {p base : Nat} {a b : Option Addr} {n m c d : Nat} {xs ys : List Value} (h : LocO u p base a b n m c d xs ys) : ∀ k, some k ∈ [(Value.slice a n c).ownBlock, (Value.slice b m d).ownBlock] → k < p := by
  intro k hk
  simp only [List.mem_cons, List.not_mem_nil, or_false] at hk
  rcases hk with hk | hk
  · exact h.2.2.2.2.2.1 k hk.symm
  · exact h.2.2.2.2.2.2.1 k hk.symm

end Go.Proofs.Ytmolhhljodlhaaa
