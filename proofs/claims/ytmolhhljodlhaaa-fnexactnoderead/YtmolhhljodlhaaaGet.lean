/-
  Contracts of impl.GetNum (a place behind a pointer, a panic that is recovered) and spec.GetNum.
-/
import Derived.Test.YtmolhhljodlhaaaPut
import Derived.Defers
import Derived.Recover
namespace Go.Proofs.Ytmolhhljodlhaaa
open Go.RowKit

/-- The number that begins at place j, by its bytes: so many may follow, the next one's unit, what there is. -/
def getF (zs : List Int) : Nat → Nat → Int → Int → Option (Int × Nat)
  | 0, _, _, _ => none
  | f + 1, j, u, n =>
    if j < zs.length then
      if 128 ≤ zs[j]?.getD 0 then getF zs f (j + 1) (u * 128) (n + zs[j]?.getD 0 % 128 * u)
      else if 1000000000 < n + zs[j]?.getD 0 % 128 * u ∨ zs[j]?.getD 0 = 0 ∧ 1 < u then none
      else some (n + zs[j]?.getD 0 % 128 * u, j + 1)
    else none
/-- What GetNum tells: the number and the place behind it. -/
def getN (zs : List Int) (i : Int) : Option (Int × Nat) := if 0 ≤ i then getF zs 5 i.toNat 1 0 else none

/-- The unit of the next byte where so many may follow. -/
def uo : Nat → Int
  | 0 => 34359738368
  | 1 => 268435456
  | 2 => 2097152
  | 3 => 16384
  | 4 => 128
  | _ => 1
/-- As getF, from a place that may be none. -/
def getI (zs : List Int) (f : Nat) (i u n : Int) : Option (Int × Nat) := if 0 ≤ i then getF zs f i.toNat u n else none
theorem getI_zero (zs : List Int) (i u n : Int) : getI zs 0 i u n = none := by unfold getI; split <;> rfl
theorem getI_out {zs : List Int} {f : Nat} {i u n : Int} (h : ¬ (0 ≤ i ∧ i < zs.length)) : getI zs f i u n = none := by
  unfold getI
  split
  · cases f with
    | zero => rfl
    | succ f => unfold getF; rw [if_neg (by omega)]
  · rfl
theorem getI_on {zs : List Int} {f j : Nat} {u n z : Int} (hj : j < zs.length) (hz : zs[j]?.getD 0 = z) (h : 128 ≤ z) : getI zs (f + 1) j u n = getI zs f ((j + 1 : Nat) : Int) (u * 128) (n + z % 128 * u) := by
  unfold getI
  rw [if_pos (by omega), if_pos (by omega), Int.toNat_natCast, Int.toNat_natCast]
  conv => lhs; unfold getF
  rw [if_pos hj, hz, if_pos h]
theorem getI_bad {zs : List Int} {f j : Nat} {u n z : Int} (hj : j < zs.length) (hz : zs[j]?.getD 0 = z) (h : ¬ 128 ≤ z) (hb : 1000000000 < n + z % 128 * u ∨ z = 0 ∧ 1 < u) : getI zs (f + 1) j u n = none := by
  unfold getI
  rw [if_pos (by omega), Int.toNat_natCast]
  unfold getF
  rw [if_pos hj, hz, if_neg h, if_pos hb]
theorem getI_good {zs : List Int} {f j : Nat} {u n z : Int} (hj : j < zs.length) (hz : zs[j]?.getD 0 = z) (h : ¬ 128 ≤ z) (hb : ¬ (1000000000 < n + z % 128 * u ∨ z = 0 ∧ 1 < u)) : getI zs (f + 1) j u n = some (n + z % 128 * u, j + 1) := by
  unfold getI
  rw [if_pos (by omega), Int.toNat_natCast]
  unfold getF
  rw [if_pos hj, hz, if_neg h, if_neg hb]

/-- How taking a number ends. -/
def Took (pb : Nat) (r : Option (Int × Nat)) (e : Ending) (w' : World) : Prop :=
  match r with
  | none => ∃ s, e = .panicked [{ v := .iface 9 (.string s), recovered := false }]
  | some (n, j) => e = .returned (.int .i64 n) ∧ w'.cell? ⟨pb, 0, none⟩ = some (.int .i64 j) ∧ w'.frozen? ⟨pb, 0, none⟩ = false
theorem took_no {pb : Nat} {r : Option (Int × Nat)} {e : Ending} {w' : World} {s : ByteArray} (h : r = none) (he : e = .panicked [{ v := .iface 9 (.string s), recovered := false }]) : Took pb r e w' := by subst h; exact ⟨s, he⟩
theorem took_yes {pb : Nat} {r : Option (Int × Nat)} {e : Ending} {w' : World} {n : Int} {j : Nat} (h : r = some (n, j)) (he : e = .returned (.int .i64 n)) (hc : w'.cell? ⟨pb, 0, none⟩ = some (.int .i64 j)) (hf : w'.frozen? ⟨pb, 0, none⟩ = false) : Took pb r e w' := by subst h; exact ⟨he, hc, hf⟩

/-- Nothing but block p has turned, and what is new. -/
theorem grownSet {w w1 : World} {p : Nat} (h : w.grownBy w1 (some p)) (o : Nat) (v : Value) : w.grownBy (w1.setCell ⟨p, o, none⟩ v) (some p) :=
  grown_trans h ⟨rfl, rfl, rfl, by simp [World.setCell], fun k _ hk => Below.heap_setCell _ _ _ _ (fun e => hk (by rw [e]))⟩
theorem grownRefl (w : World) (row : Option Nat) : w.grownBy w row := ⟨rfl, rfl, rfl, Nat.le_refl _, fun _ _ _ => rfl⟩
theorem belowGrown {w w1 : World} {p : Nat} (h : w.grownBy w1 (some p)) (hp : p ≤ w.heap.size) : Below p w w1 := (Below.refl _ _).grown h hp (fun k hk => by cases hk; exact Nat.le_refl _)

end Go.Proofs.Ytmolhhljodlhaaa
