/-
  Contracts of the specification's chips: ChipOk, l2Copy.
-/
import Derived.Test.YtmolhhljodlhaaaHelpChip
import Derived.Test.YtmolhhljodlhaaaIn
import Derived.Deep.RegionLaw
namespace Go.Proofs.Ytmolhhljodlhaaa
open Go.RowKit
attribute [local go_sem ↓] Go.wp_at_zero Go.wp_at_succ

/-- A chip is right. -/
def chipOkP (ps : List ByteArray) (ws : List Int) : Prop := ps.length = 60 ∧ ws.length = 10 ∧ (∀ s ∈ ps, s.size ≤ 800) ∧ ∀ x ∈ ws, 0 ≤ x ∧ x ≤ 1000000000
/-- The same, as a flag that the walk does not open. -/
def chipOkB (ps : List ByteArray) (ws : List Int) : Bool := decide (ps.length = 60) && decide (ws.length = 10) && ps.all (fun s => decide (s.size ≤ 800)) && ws.all (fun x => decide (0 ≤ x ∧ x ≤ 1000000000))
theorem chipOkB_iff {ps : List ByteArray} {ws : List Int} : chipOkB ps ws = true ↔ chipOkP ps ws := by
  simp [chipOkB, chipOkP, and_assoc]
theorem chipOkB_true {ps : List ByteArray} {ws : List Int} (h : chipOkP ps ws) : chipOkB ps ws = true := chipOkB_iff.2 h
theorem chipOkB_false {ps : List ByteArray} {ws : List Int} (h : ¬ chipOkP ps ws) : chipOkB ps ws = false := by
  cases hb : chipOkB ps ws with
  | false => rfl
  | true => exact absurd (chipOkB_iff.1 hb) h

end Go.Proofs.Ytmolhhljodlhaaa
