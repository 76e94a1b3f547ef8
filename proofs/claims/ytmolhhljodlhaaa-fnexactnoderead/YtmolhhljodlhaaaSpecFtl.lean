/-
  Contracts of the specification's l4Ints, FtlOk, l4Clear.
-/
import Derived.Test.YtmolhhljodlhaaaSpecMount2
import Derived.Test.YtmolhhljodlhaaaArgChip
namespace Go.Proofs.Ytmolhhljodlhaaa
open Go.RowKit

/-- What is mounted, its value written out. -/
theorem ftl_open {w : World} {base : Nat} {v : Value} {ps : List ByteArray} {ws ms : List Int} {q : Int} (h : FtlOwn w base v ps ws ms q) :
    ∃ a c b d e f, v = .agg #[.slice a ps.length c, .slice b ws.length d, .slice e ms.length f, .int .i64 q] ∧ w.ownsRow base 9 1 (.slice a ps.length c) ps.length (vsString ps) ∧ w.ownsRow base 3 1 (.slice b ws.length d) ws.length (vsInt ws) ∧ w.ownsRow base 3 1 (.slice e ms.length f) ms.length (vsInt ms) := by
  obtain ⟨v1, v2, v3, rfl, h1, h2, h3, -⟩ := h
  have f : ∀ {e : TypeId} {v : Value} {n : Nat} {xs : List Value}, w.ownsRow base e 1 v n xs → ∃ a c, v = .slice a n c := by
    intro e v n xs h
    rcases h with ⟨_, ⟨rfl, rfl⟩ | ⟨g, cap, cur, rfl, -⟩⟩
    · exact ⟨_, _, rfl⟩
    · exact ⟨_, _, rfl⟩
  obtain ⟨a, c, rfl⟩ := f h1
  obtain ⟨b, d, rfl⟩ := f h2
  obtain ⟨e, g, rfl⟩ := f h3
  exact ⟨a, c, b, d, e, g, rfl, h1, h2, h3⟩

/-- It is right. -/
def ftlOkB (ps : List ByteArray) (ws ms : List Int) (q : Int) : Bool := chipOkB ps ws && decide (mMap ps = ms) && decide (mSeq ps = q)

end Go.Proofs.Ytmolhhljodlhaaa
