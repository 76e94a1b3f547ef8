/-
  No cell of these rows narrows 'for every input' (looked for: loops, veiled, ifaces, maps, wideKeys, modest, calm, conditions, laid).
  DERIVED. THE GIVEN ROWS OF THIS SEAT. 3 by the template 'for every input the law returns true; each argument reads behind the call as it read before'; 0 by the template 'total and deterministic' (their statements: YtghlnagainodaaaTotals.lean).
  GIVEN WITH THE SEED: the statements are not yours to turn. If you find one false, say at which input.
  Laid BY PROGRAM, IN A SANDBOX (cutbox-rows.mjs): the forced cells as the released guide's own fill.sh prints them over the translation ebec96b730a2d73b… (all of the seat's roots in one cut). By AI agents, Wed Nov 11 2026. No macro, syntax, notation, axiom, sorry.
-/
import Derived.Test.YtghlnagainodaaaChecked
import GoSem.Claim
import GoSem.ClaimJoined
import GoSem.ClaimMapViews
import Derived.JoinedTies
import Derived.KernelRfl
namespace Go.Proofs.Ytghlnagainodaaa
/- THE CELL 'sum', in the pinned program and in every row, IS THE sha256 OF THE DUMP (.gsa) THAT YtghlnagainodaaaProg.lean LOADS. Nothing in Lean hashes anything: it is a label: what it is worth is what the hold of that sum in a sandbox is worth. -/
noncomputable def Try.pinned : Pinned := { name := "ytghlnagainodaaa", sum := "ebec96b730a2d73b0633bf7ed837e32d1837d58fdebf622b7ee8d2557f895b95", checked := Try.checked }
namespace Rows
def none {H : Type} : Left H := { results := [], args := [] }

/-- 'laws.FnExactView': WHATEVER THE INPUT: true; the input reads as it did. -/
def fnExactViewSpec : ChangeSpec := { name := "fnExactView", fn := fun _ => fun
  | [d] => { results := [.lit (.bool true)], args := [d] }
  | _ => none }
def fnExactViewRow : OpenClaim := { program := "ytghlnagainodaaa", sum := "ebec96b730a2d73b0633bf7ed837e32d1837d58fdebf622b7ee8d2557f895b95", func := "loop.example/g00246/laws.FnExactView", spec := "fnExactView", unfollowed := true, recurses := true, apart := false }
def FnExactViewSaid : Prop := fnExactViewRow.holds Try.pinned (OpenSpec.ofChange fnExactViewSpec)

/-- ITS FALSE NEIGHBOUR: 'it returns false'. Refute it at one input. -/
def fnExactViewWrong : ChangeSpec := { name := "fnExactView", fn := fun _ => fun
  | [d] => { results := [.lit (.bool false)], args := [d] }
  | _ => none }
def FnExactViewWrongFalsely : Prop := fnExactViewRow.holds Try.pinned (OpenSpec.ofChange fnExactViewWrong)

/-- 'laws.FnExactWears': WHATEVER THE INPUT: true; the input reads as it did. -/
def fnExactWearsSpec : ChangeSpec := { name := "fnExactWears", fn := fun _ => fun
  | [d] => { results := [.lit (.bool true)], args := [d] }
  | _ => none }
def fnExactWearsRow : OpenClaim := { program := "ytghlnagainodaaa", sum := "ebec96b730a2d73b0633bf7ed837e32d1837d58fdebf622b7ee8d2557f895b95", func := "loop.example/g00246/laws.FnExactWears", spec := "fnExactWears", unfollowed := true, recurses := true, apart := false }
def FnExactWearsSaid : Prop := fnExactWearsRow.holds Try.pinned (OpenSpec.ofChange fnExactWearsSpec)

/-- ITS FALSE NEIGHBOUR: 'it returns false'. Refute it at one input. -/
def fnExactWearsWrong : ChangeSpec := { name := "fnExactWears", fn := fun _ => fun
  | [d] => { results := [.lit (.bool false)], args := [d] }
  | _ => none }
def FnExactWearsWrongFalsely : Prop := fnExactWearsRow.holds Try.pinned (OpenSpec.ofChange fnExactWearsWrong)

/-- 'laws.FnExactSector': WHATEVER THE INPUT: true; the input reads as it did. -/
def fnExactSectorSpec : ChangeSpec := { name := "fnExactSector", fn := fun _ => fun
  | [d1, d2] => { results := [.lit (.bool true)], args := [d1, d2] }
  | _ => none }
def fnExactSectorRow : OpenClaim := { program := "ytghlnagainodaaa", sum := "ebec96b730a2d73b0633bf7ed837e32d1837d58fdebf622b7ee8d2557f895b95", func := "loop.example/g00246/laws.FnExactSector", spec := "fnExactSector", unfollowed := true, recurses := true, apart := false }
def FnExactSectorSaid : Prop := fnExactSectorRow.holds Try.pinned (OpenSpec.ofChange fnExactSectorSpec)

/-- ITS FALSE NEIGHBOUR: 'it returns false'. Refute it at one input. -/
def fnExactSectorWrong : ChangeSpec := { name := "fnExactSector", fn := fun _ => fun
  | [d1, d2] => { results := [.lit (.bool false)], args := [d1, d2] }
  | _ => none }
def FnExactSectorWrongFalsely : Prop := fnExactSectorRow.holds Try.pinned (OpenSpec.ofChange fnExactSectorWrong)

/- THE SECOND FORM. 'bulk': how many values and letters a reading holds, each counted each time it is reached (what is shared counts as often as it is met; a slice's spare places count too). A statement '..UptoSaid' is the law's where the arguments, and the package variables that the reading takes, are together of bulk at most 1048576: NARROWER than '..Said'. Prove '..Said' where nothing that the law and all that it calls make is longer than what came in: it says more and counts as full. Else prove '..UptoSaid'. A law counts once. -/
mutual
def uptoBulk {H : Type} : DataW H → Nat
  | .lit (.string bytes) => bytes.length + 1
  | .lit _ => 1
  | .nil => 1
  | .ptr d => uptoBulk d + 1
  | .slice elems spare => uptoBulkAll elems + uptoBulkAll spare + 1
  | .agg parts => uptoBulkAll parts + 1
  | .iface _ d => uptoBulk d + 1
  | .map entries => uptoBulkEntries entries + 1
  | .held _ => 1
def uptoBulkAll {H : Type} : List (DataW H) → Nat
  | [] => 0
  | d :: r => uptoBulk d + uptoBulkAll r
def uptoBulkEntries {H : Type} : List (Lit × DataW H) → Nat
  | [] => 0
  | x :: r => uptoBulkEntry x + uptoBulkEntries r
def uptoBulkEntry {H : Type} : Lit × DataW H → Nat
  | (.string bytes, d) => bytes.length + uptoBulk d + 1
  | (_, d) => uptoBulk d + 1
 end
def uptoSmall : (H : Type) → List (DataW H) → Bool := fun _ ds => decide (uptoBulkAll ds ≤ 1048576)
def OpenSpec.upto (s : _root_.Go.ChangeSpec) : _root_.Go.OpenSpec := { _root_.Go.OpenSpec.ofChange s with cond := some uptoSmall }

/-- 'laws.FnExactView', WHERE WHAT IT READS IS OF BULK AT MOST 1048576: true; the input reads as it did. -/
def fnExactViewUptoRow : OpenClaim := { program := "ytghlnagainodaaa", sum := "ebec96b730a2d73b0633bf7ed837e32d1837d58fdebf622b7ee8d2557f895b95", func := "loop.example/g00246/laws.FnExactView", spec := "fnExactView", unfollowed := true, recurses := true, apart := false, narrowed := true }
def FnExactViewUptoSaid : Prop := fnExactViewUptoRow.holds Try.pinned (OpenSpec.upto fnExactViewSpec)

/-- 'laws.FnExactWears', WHERE WHAT IT READS IS OF BULK AT MOST 1048576: true; the input reads as it did. -/
def fnExactWearsUptoRow : OpenClaim := { program := "ytghlnagainodaaa", sum := "ebec96b730a2d73b0633bf7ed837e32d1837d58fdebf622b7ee8d2557f895b95", func := "loop.example/g00246/laws.FnExactWears", spec := "fnExactWears", unfollowed := true, recurses := true, apart := false, narrowed := true }
def FnExactWearsUptoSaid : Prop := fnExactWearsUptoRow.holds Try.pinned (OpenSpec.upto fnExactWearsSpec)

/-- 'laws.FnExactSector', WHERE WHAT IT READS IS OF BULK AT MOST 1048576: true; the input reads as it did. -/
def fnExactSectorUptoRow : OpenClaim := { program := "ytghlnagainodaaa", sum := "ebec96b730a2d73b0633bf7ed837e32d1837d58fdebf622b7ee8d2557f895b95", func := "loop.example/g00246/laws.FnExactSector", spec := "fnExactSector", unfollowed := true, recurses := true, apart := false, narrowed := true }
def FnExactSectorUptoSaid : Prop := fnExactSectorUptoRow.holds Try.pinned (OpenSpec.upto fnExactSectorSpec)

end Rows
end Go.Proofs.Ytghlnagainodaaa
