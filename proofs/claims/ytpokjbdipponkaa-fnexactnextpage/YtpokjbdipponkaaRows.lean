/-
  No cell of these rows narrows 'for every input' (looked for: loops, veiled, ifaces, maps, wideKeys, modest, calm, conditions, laid).
  DERIVED. THE GIVEN ROWS OF THIS SEAT. 6 by the template 'for every input the law returns true; each argument reads behind the call as it read before'; 0 by the template 'total and deterministic' (their statements: YtpokjbdipponkaaTotals.lean).
  GIVEN WITH THE SEED: the statements are not yours to turn. If you find one false, say at which input.
  Laid BY PROGRAM, IN A SANDBOX (cutbox-rows.mjs): the forced cells as the released guide's own fill.sh prints them over the translation 517a283afe152f7c… (all of the seat's roots in one cut). By AI agents, Wed Nov 11 2026. No macro, syntax, notation, axiom, sorry.
-/
import Derived.Test.YtpokjbdipponkaaChecked
import GoSem.Claim
import GoSem.ClaimJoined
import GoSem.ClaimMapViews
import Derived.JoinedTies
import Derived.KernelRfl
namespace Go.Proofs.Ytpokjbdipponkaa
/- THE CELL 'sum', in the pinned program and in every row, IS THE sha256 OF THE DUMP (.gsa) THAT YtpokjbdipponkaaProg.lean LOADS. Nothing in Lean hashes anything: it is a label: what it is worth is what the hold of that sum in a sandbox is worth. -/
noncomputable def Try.pinned : Pinned := { name := "ytpokjbdipponkaa", sum := "517a283afe152f7cc80d98b92c272047fd4557de1f8785a01f7a36a77e963717", checked := Try.checked }
namespace Rows
def none {H : Type} : Left H := { results := [], args := [] }

/-- 'laws.FnExactMount': WHATEVER THE INPUT: true; the input reads as it did. -/
def fnExactMountSpec : ChangeSpec := { name := "fnExactMount", fn := fun _ => fun
  | [d] => { results := [.lit (.bool true)], args := [d] }
  | _ => none }
def fnExactMountRow : OpenClaim := { program := "ytpokjbdipponkaa", sum := "517a283afe152f7cc80d98b92c272047fd4557de1f8785a01f7a36a77e963717", func := "loop.example/g00246/laws.FnExactMount", spec := "fnExactMount", unfollowed := true, recurses := true, apart := false }
def FnExactMountSaid : Prop := fnExactMountRow.holds Try.pinned (OpenSpec.ofChange fnExactMountSpec)

/-- ITS FALSE NEIGHBOUR: 'it returns false'. Refute it at one input. -/
def fnExactMountWrong : ChangeSpec := { name := "fnExactMount", fn := fun _ => fun
  | [d] => { results := [.lit (.bool false)], args := [d] }
  | _ => none }
def FnExactMountWrongFalsely : Prop := fnExactMountRow.holds Try.pinned (OpenSpec.ofChange fnExactMountWrong)

/-- 'laws.FnExactFtlOk': WHATEVER THE INPUT: true; the input reads as it did. -/
def fnExactFtlOkSpec : ChangeSpec := { name := "fnExactFtlOk", fn := fun _ => fun
  | [d] => { results := [.lit (.bool true)], args := [d] }
  | _ => none }
def fnExactFtlOkRow : OpenClaim := { program := "ytpokjbdipponkaa", sum := "517a283afe152f7cc80d98b92c272047fd4557de1f8785a01f7a36a77e963717", func := "loop.example/g00246/laws.FnExactFtlOk", spec := "fnExactFtlOk", unfollowed := true, recurses := true, apart := false }
def FnExactFtlOkSaid : Prop := fnExactFtlOkRow.holds Try.pinned (OpenSpec.ofChange fnExactFtlOkSpec)

/-- ITS FALSE NEIGHBOUR: 'it returns false'. Refute it at one input. -/
def fnExactFtlOkWrong : ChangeSpec := { name := "fnExactFtlOk", fn := fun _ => fun
  | [d] => { results := [.lit (.bool false)], args := [d] }
  | _ => none }
def FnExactFtlOkWrongFalsely : Prop := fnExactFtlOkRow.holds Try.pinned (OpenSpec.ofChange fnExactFtlOkWrong)

/-- 'laws.FnExactSector': WHATEVER THE INPUT: true; the input reads as it did. -/
def fnExactSectorSpec : ChangeSpec := { name := "fnExactSector", fn := fun _ => fun
  | [d1, d2] => { results := [.lit (.bool true)], args := [d1, d2] }
  | _ => none }
def fnExactSectorRow : OpenClaim := { program := "ytpokjbdipponkaa", sum := "517a283afe152f7cc80d98b92c272047fd4557de1f8785a01f7a36a77e963717", func := "loop.example/g00246/laws.FnExactSector", spec := "fnExactSector", unfollowed := true, recurses := true, apart := false }
def FnExactSectorSaid : Prop := fnExactSectorRow.holds Try.pinned (OpenSpec.ofChange fnExactSectorSpec)

/-- ITS FALSE NEIGHBOUR: 'it returns false'. Refute it at one input. -/
def fnExactSectorWrong : ChangeSpec := { name := "fnExactSector", fn := fun _ => fun
  | [d1, d2] => { results := [.lit (.bool false)], args := [d1, d2] }
  | _ => none }
def FnExactSectorWrongFalsely : Prop := fnExactSectorRow.holds Try.pinned (OpenSpec.ofChange fnExactSectorWrong)

/-- 'laws.FnExactFreeBlocks': WHATEVER THE INPUT: true; the input reads as it did. -/
def fnExactFreeBlocksSpec : ChangeSpec := { name := "fnExactFreeBlocks", fn := fun _ => fun
  | [d] => { results := [.lit (.bool true)], args := [d] }
  | _ => none }
def fnExactFreeBlocksRow : OpenClaim := { program := "ytpokjbdipponkaa", sum := "517a283afe152f7cc80d98b92c272047fd4557de1f8785a01f7a36a77e963717", func := "loop.example/g00246/laws.FnExactFreeBlocks", spec := "fnExactFreeBlocks", unfollowed := true, recurses := true, apart := false }
def FnExactFreeBlocksSaid : Prop := fnExactFreeBlocksRow.holds Try.pinned (OpenSpec.ofChange fnExactFreeBlocksSpec)

/-- ITS FALSE NEIGHBOUR: 'it returns false'. Refute it at one input. -/
def fnExactFreeBlocksWrong : ChangeSpec := { name := "fnExactFreeBlocks", fn := fun _ => fun
  | [d] => { results := [.lit (.bool false)], args := [d] }
  | _ => none }
def FnExactFreeBlocksWrongFalsely : Prop := fnExactFreeBlocksRow.holds Try.pinned (OpenSpec.ofChange fnExactFreeBlocksWrong)

/-- 'laws.FnExactNextPage': WHATEVER THE INPUT: true; the input reads as it did. -/
def fnExactNextPageSpec : ChangeSpec := { name := "fnExactNextPage", fn := fun _ => fun
  | [d] => { results := [.lit (.bool true)], args := [d] }
  | _ => none }
def fnExactNextPageRow : OpenClaim := { program := "ytpokjbdipponkaa", sum := "517a283afe152f7cc80d98b92c272047fd4557de1f8785a01f7a36a77e963717", func := "loop.example/g00246/laws.FnExactNextPage", spec := "fnExactNextPage", unfollowed := true, recurses := true, apart := false }
def FnExactNextPageSaid : Prop := fnExactNextPageRow.holds Try.pinned (OpenSpec.ofChange fnExactNextPageSpec)

/-- ITS FALSE NEIGHBOUR: 'it returns false'. Refute it at one input. -/
def fnExactNextPageWrong : ChangeSpec := { name := "fnExactNextPage", fn := fun _ => fun
  | [d] => { results := [.lit (.bool false)], args := [d] }
  | _ => none }
def FnExactNextPageWrongFalsely : Prop := fnExactNextPageRow.holds Try.pinned (OpenSpec.ofChange fnExactNextPageWrong)

/-- 'laws.FnExactLives': WHATEVER THE INPUT: true; the input reads as it did. -/
def fnExactLivesSpec : ChangeSpec := { name := "fnExactLives", fn := fun _ => fun
  | [d1, d2] => { results := [.lit (.bool true)], args := [d1, d2] }
  | _ => none }
def fnExactLivesRow : OpenClaim := { program := "ytpokjbdipponkaa", sum := "517a283afe152f7cc80d98b92c272047fd4557de1f8785a01f7a36a77e963717", func := "loop.example/g00246/laws.FnExactLives", spec := "fnExactLives", unfollowed := true, recurses := true, apart := false }
def FnExactLivesSaid : Prop := fnExactLivesRow.holds Try.pinned (OpenSpec.ofChange fnExactLivesSpec)

/-- ITS FALSE NEIGHBOUR: 'it returns false'. Refute it at one input. -/
def fnExactLivesWrong : ChangeSpec := { name := "fnExactLives", fn := fun _ => fun
  | [d1, d2] => { results := [.lit (.bool false)], args := [d1, d2] }
  | _ => none }
def FnExactLivesWrongFalsely : Prop := fnExactLivesRow.holds Try.pinned (OpenSpec.ofChange fnExactLivesWrong)

/- THE SECOND FORM. 'bulk': how many values and letters a reading holds, each counted each time it is reached (what is shared counts as often as it is met; a slice's spare places count too). A statement '..UptoSaid' is the law's where the arguments, and the package variables that the reading takes, are together of bulk at most 1048576: NARROWER than '..Said'. Prove '..Said' where nothing that the law and all that it calls make is longer than what came in: it says more and counts as full. Else prove '..UptoSaid'. A law counts once. -/
mutual
def uptoBulk {H : Type} : DataW H → Nat
  | .lit (.string bytes) => bytes.length + 1
  | .lit _ => 1
  | .nil => 1
  | .ptr d => uptoBulk d + 1
  | .slice elems spare => uptoBulkAll elems + uptoBulkAll spare + 1
  | .agg parts => uptoBulkAll parts + 1
  | .iface _ d => uptoBulk d + 1
  | .map entries => uptoBulkEntries entries + 1
  | .held _ => 1
def uptoBulkAll {H : Type} : List (DataW H) → Nat
  | [] => 0
  | d :: r => uptoBulk d + uptoBulkAll r
def uptoBulkEntries {H : Type} : List (Lit × DataW H) → Nat
  | [] => 0
  | x :: r => uptoBulkEntry x + uptoBulkEntries r
def uptoBulkEntry {H : Type} : Lit × DataW H → Nat
  | (.string bytes, d) => bytes.length + uptoBulk d + 1
  | (_, d) => uptoBulk d + 1
 end
def uptoSmall : (H : Type) → List (DataW H) → Bool := fun _ ds => decide (uptoBulkAll ds ≤ 1048576)
def OpenSpec.upto (s : _root_.Go.ChangeSpec) : _root_.Go.OpenSpec := { _root_.Go.OpenSpec.ofChange s with cond := some uptoSmall }

/-- 'laws.FnExactMount', WHERE WHAT IT READS IS OF BULK AT MOST 1048576: true; the input reads as it did. -/
def fnExactMountUptoRow : OpenClaim := { program := "ytpokjbdipponkaa", sum := "517a283afe152f7cc80d98b92c272047fd4557de1f8785a01f7a36a77e963717", func := "loop.example/g00246/laws.FnExactMount", spec := "fnExactMount", unfollowed := true, recurses := true, apart := false, narrowed := true }
def FnExactMountUptoSaid : Prop := fnExactMountUptoRow.holds Try.pinned (OpenSpec.upto fnExactMountSpec)

/-- 'laws.FnExactFtlOk', WHERE WHAT IT READS IS OF BULK AT MOST 1048576: true; the input reads as it did. -/
def fnExactFtlOkUptoRow : OpenClaim := { program := "ytpokjbdipponkaa", sum := "517a283afe152f7cc80d98b92c272047fd4557de1f8785a01f7a36a77e963717", func := "loop.example/g00246/laws.FnExactFtlOk", spec := "fnExactFtlOk", unfollowed := true, recurses := true, apart := false, narrowed := true }
def FnExactFtlOkUptoSaid : Prop := fnExactFtlOkUptoRow.holds Try.pinned (OpenSpec.upto fnExactFtlOkSpec)

/-- 'laws.FnExactSector', WHERE WHAT IT READS IS OF BULK AT MOST 1048576: true; the input reads as it did. -/
def fnExactSectorUptoRow : OpenClaim := { program := "ytpokjbdipponkaa", sum := "517a283afe152f7cc80d98b92c272047fd4557de1f8785a01f7a36a77e963717", func := "loop.example/g00246/laws.FnExactSector", spec := "fnExactSector", unfollowed := true, recurses := true, apart := false, narrowed := true }
def FnExactSectorUptoSaid : Prop := fnExactSectorUptoRow.holds Try.pinned (OpenSpec.upto fnExactSectorSpec)

/-- 'laws.FnExactFreeBlocks', WHERE WHAT IT READS IS OF BULK AT MOST 1048576: true; the input reads as it did. -/
def fnExactFreeBlocksUptoRow : OpenClaim := { program := "ytpokjbdipponkaa", sum := "517a283afe152f7cc80d98b92c272047fd4557de1f8785a01f7a36a77e963717", func := "loop.example/g00246/laws.FnExactFreeBlocks", spec := "fnExactFreeBlocks", unfollowed := true, recurses := true, apart := false, narrowed := true }
def FnExactFreeBlocksUptoSaid : Prop := fnExactFreeBlocksUptoRow.holds Try.pinned (OpenSpec.upto fnExactFreeBlocksSpec)

/-- 'laws.FnExactNextPage', WHERE WHAT IT READS IS OF BULK AT MOST 1048576: true; the input reads as it did. -/
def fnExactNextPageUptoRow : OpenClaim := { program := "ytpokjbdipponkaa", sum := "517a283afe152f7cc80d98b92c272047fd4557de1f8785a01f7a36a77e963717", func := "loop.example/g00246/laws.FnExactNextPage", spec := "fnExactNextPage", unfollowed := true, recurses := true, apart := false, narrowed := true }
def FnExactNextPageUptoSaid : Prop := fnExactNextPageUptoRow.holds Try.pinned (OpenSpec.upto fnExactNextPageSpec)

/-- 'laws.FnExactLives', WHERE WHAT IT READS IS OF BULK AT MOST 1048576: true; the input reads as it did. -/
def fnExactLivesUptoRow : OpenClaim := { program := "ytpokjbdipponkaa", sum := "517a283afe152f7cc80d98b92c272047fd4557de1f8785a01f7a36a77e963717", func := "loop.example/g00246/laws.FnExactLives", spec := "fnExactLives", unfollowed := true, recurses := true, apart := false, narrowed := true }
def FnExactLivesUptoSaid : Prop := fnExactLivesUptoRow.holds Try.pinned (OpenSpec.upto fnExactLivesSpec)

end Rows
end Go.Proofs.Ytpokjbdipponkaa
