/-
  Contract of the specification's l2Wipe: the first pages of a block of a chip that is our own are cleared, its number is one more.
-/
import Derived.Test.YtmolhhljodlhaaaSpecBurn
import Derived.RegionTactic
import Derived.BigRegion
namespace Go.Proofs.Ytmolhhljodlhaaa
open Go.RowKit

/-- The first m pages of a block are clear. -/
def wipeP (ps : List ByteArray) (B : Nat) : Nat → List ByteArray
  | 0 => ps
  | m + 1 => (wipeP ps B m).set (B * 6 + m) ByteArray.empty
theorem wipeP_len (ps : List ByteArray) (B m : Nat) : (wipeP ps B m).length = ps.length := by
  induction m with
  | zero => rfl
  | succ m ih => simp [wipeP, ih]

theorem grown_setB (w : World) (p o : Nat) (v : Value) : w.grownBy (w.setCell ⟨p, o, none⟩ v) (some p) :=
  ⟨rfl, rfl, rfl, by simp [World.setCell], fun k _ hk => Below.heap_setCell _ _ _ _ (fun e => hk (by rw [e]))⟩

theorem OnlyIn.drew {w w' : World} {L : List (Option Nat)} (h : OnlyIn w w' L) : OnlyIn w w'.drew L := ⟨h.os, h.tape, h.output, h.size, h.block⟩

end Go.Proofs.Ytmolhhljodlhaaa
