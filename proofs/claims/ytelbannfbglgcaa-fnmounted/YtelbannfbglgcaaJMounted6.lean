/-
  Contracts of the laws' helpers over slices of int: toIntS (a new copy), eqIntS.
  Contracts of the laws' helpers over slices of string: toStringS (a new copy), eqStringS.
  Contracts of the laws' marks: markText, markIntS, heldIntS, markStringS, heldStringS: rows that the call owns are marked from a number on, and hold their marks.
-/
import Derived.Test.YtelbannfbglgcaaChecked
import Derived.Test.YtelbannfbglgcaaJMounted0
import Derived.Deep.QuietTactic
import Derived.BigQuiet
import Derived.Deep.RegionHeld
import Derived.Deep.DrawnRows
namespace Go.Proofs.Ytelbannfbglgcaa
open Go.RowKit

theorem infoInt : (Try.prog.info? 3).map (fun i => (i.zero, i.size, i.bytes)) = some (some (Value.int .i64 0), 1, 8) := by kernel_rfl

/-- Int values. -/
abbrev vsInt (xs : List Int) : List Value := xs.map (Value.int .i64)

theorem rdInt_at {w : World} {a : Option Addr} {xs : List Int} {k : Nat} (h : Rd w a (vsInt xs)) (hk : k < xs.length) :
    ∃ b off x, a = some ⟨b, off, none⟩ ∧ w.cell? ⟨b, off + k, none⟩ = some (Value.int .i64 x) ∧ Hid (xs[k]? = some x) := by
  rcases h with h | ⟨b, off, ha, hc⟩
  · simp at h; subst h; simp at hk
  · exact ⟨b, off, xs[k], ha, hc k _ (by simp [hk]), by show _ = _; simp [hk]⟩

/-- How far a copy has come. -/
def halfInt (xs : List Int) (k : Nat) : List Value := vsInt (xs.take k) ++ List.replicate (xs.length - k) (Value.int .i64 0)

theorem halfInt_step {xs : List Int} {k : Nat} {x : Int} (h : xs[k]? = some x) : (halfInt xs k).set k (Value.int .i64 x) = halfInt xs (k + 1) := by
  have hk : k < xs.length := by
    rcases Nat.lt_or_ge k xs.length with h' | h'
    · exact h'
    · simp [h'] at h
  apply List.ext_getElem?
  intro i
  simp only [halfInt, vsInt, List.getElem?_set, List.getElem?_append, List.length_map, List.length_take, List.length_append, List.length_replicate, List.getElem?_map, List.getElem?_take, List.getElem?_replicate]
  have m1 : min k xs.length = k := by omega
  have m2 : min (k + 1) xs.length = k + 1 := by omega
  rw [m1, m2]
  by_cases h1 : k = i
  · subst h1
    have : k < k + (xs.length - k) := by omega
    simp [this, h]
  · by_cases h2 : i < k
    · have : i < k + 1 := by omega
      simp [h1, h2, this]
    · have h3 : ¬ i < k + 1 := by omega
      simp only [h1, h2, h3, if_false]
      by_cases h4 : i < xs.length
      · rw [if_pos (by omega), if_pos (by omega)]
      · rw [if_neg (by omega), if_neg (by omega)]
theorem halfInt_all (xs : List Int) : halfInt xs xs.length = vsInt xs := by simp [halfInt]

theorem takeInt_step {xs ys : List Int} {k : Nat} {x : Int} (h : xs.take k = ys.take k) (hx : xs[k]? = some x) (hy : ys[k]? = some x) : xs.take (k + 1) = ys.take (k + 1) := by
  rw [List.take_add_one, List.take_add_one, h, hx, hy]
theorem neInt_at {xs ys : List Int} {k : Nat} {x y : Int} (hx : xs[k]? = some x) (hy : ys[k]? = some y) (hne : ¬ x = y) : xs ≠ ys := fun e => hne (by rw [e, hy] at hx; simpa using hx.symm)

end Go.Proofs.Ytelbannfbglgcaa

namespace Go.Proofs.Ytelbannfbglgcaa
open Go.RowKit

theorem infoString : (Try.prog.info? 9).map (fun i => (i.zero, i.size, i.bytes)) = some (some (Value.string ⟨#[]⟩), 1, 16) := by kernel_rfl

theorem str_inj {x y : ByteArray} (h : x.toList = y.toList) : x = y := by
  rw [ByteArray.toList_eq, ByteArray.toList_eq] at h
  cases x; cases y
  simp at h
  rw [h]

/-- String values. -/
abbrev vsString (xs : List ByteArray) : List Value := xs.map (Value.string)

theorem rdString_at {w : World} {a : Option Addr} {xs : List ByteArray} {k : Nat} (h : Rd w a (vsString xs)) (hk : k < xs.length) :
    ∃ b off x, a = some ⟨b, off, none⟩ ∧ w.cell? ⟨b, off + k, none⟩ = some (Value.string x) ∧ Hid (xs[k]? = some x) := by
  rcases h with h | ⟨b, off, ha, hc⟩
  · simp at h; subst h; simp at hk
  · exact ⟨b, off, xs[k], ha, hc k _ (by simp [hk]), by show _ = _; simp [hk]⟩

/-- How far a copy has come. -/
def halfString (xs : List ByteArray) (k : Nat) : List Value := vsString (xs.take k) ++ List.replicate (xs.length - k) (Value.string ⟨#[]⟩)

theorem halfString_step {xs : List ByteArray} {k : Nat} {x : ByteArray} (h : xs[k]? = some x) : (halfString xs k).set k (Value.string x) = halfString xs (k + 1) := by
  have hk : k < xs.length := by
    rcases Nat.lt_or_ge k xs.length with h' | h'
    · exact h'
    · simp [h'] at h
  apply List.ext_getElem?
  intro i
  simp only [halfString, vsString, List.getElem?_set, List.getElem?_append, List.length_map, List.length_take, List.length_append, List.length_replicate, List.getElem?_map, List.getElem?_take, List.getElem?_replicate]
  have m1 : min k xs.length = k := by omega
  have m2 : min (k + 1) xs.length = k + 1 := by omega
  rw [m1, m2]
  by_cases h1 : k = i
  · subst h1
    have : k < k + (xs.length - k) := by omega
    simp [this, h]
  · by_cases h2 : i < k
    · have : i < k + 1 := by omega
      simp [h1, h2, this]
    · have h3 : ¬ i < k + 1 := by omega
      simp only [h1, h2, h3, if_false]
      by_cases h4 : i < xs.length
      · rw [if_pos (by omega), if_pos (by omega)]
      · rw [if_neg (by omega), if_neg (by omega)]
theorem halfString_all (xs : List ByteArray) : halfString xs xs.length = vsString xs := by simp [halfString]

theorem takeString_step {xs ys : List ByteArray} {k : Nat} {x : ByteArray} (h : xs.take k = ys.take k) (hx : xs[k]? = some x) (hy : ys[k]? = some x) : xs.take (k + 1) = ys.take (k + 1) := by
  rw [List.take_add_one, List.take_add_one, h, hx, hy]
theorem neString_at {xs ys : List ByteArray} {k : Nat} {x y : ByteArray} (hx : xs[k]? = some x) (hy : ys[k]? = some y) (hne : ¬ x = y) : xs ≠ ys := fun e => hne (by rw [e, hy] at hx; simpa using hx.symm)

end Go.Proofs.Ytelbannfbglgcaa

namespace Go.Proofs.Ytelbannfbglgcaa
open Go.RowKit
attribute [local go_sem ↓] Go.wp_at_zero Go.wp_at_succ

/-- A number's digits, ahead of what there is. -/
def digs : Nat → Int → ByteArray → ByteArray
  | 0, _, o => o
  | f + 1, k, o => if 0 < k then digs f (k / 10) (strOf [48 + k % 10] ++ o) else o
/-- The mark of a number. -/
def mtext (k : Nat) : ByteArray := ⟨#[109]⟩ ++ digs k k ByteArray.empty
theorem digs_done {f : Nat} {k : Int} {o : ByteArray} (h : ¬ 0 < k) : digs f k o = o := by cases f <;> simp [digs, h]
theorem digs_on {f : Nat} {k : Int} {o : ByteArray} (h : 0 < k) : digs (f + 1) k o = digs f (k / 10) (strOf [48 + k % 10] ++ o) := by simp [digs, h]

/-- The marks q + 1, q + 2 .. -/
def marksI (q n : Nat) : List Value := (List.range n).map fun (i : Nat) => .int .i64 (((q + i : Nat) : Int))
def marksT (q n : Nat) : List Value := (List.range n).map fun (i : Nat) => .string (mtext (q + i))
/-- How far a marking has come. -/
def markedV (ms : Nat → List Value) (xs : List Value) (k : Nat) : List Value := ms k ++ xs.drop k
theorem markedV_step {ms : Nat → List Value} {xs : List Value} {k : Nat} {v : Value} (h : k < xs.length) (hl : (ms k).length = k) (hs : ms (k + 1) = ms k ++ [v]) : (markedV ms xs k).set k v = markedV ms xs (k + 1) := by
  unfold markedV
  rw [List.set_append_right _ _ (by omega), hl, Nat.sub_self, List.drop_eq_getElem_cons h, List.set_cons_zero, hs, List.append_assoc, List.singleton_append]
theorem marksI_len (q n : Nat) : (marksI q n).length = n := by simp [marksI]
theorem marksT_len (q n : Nat) : (marksT q n).length = n := by simp [marksT]
theorem marksI_step (q n : Nat) : marksI q (n + 1) = marksI q n ++ [.int .i64 ((q + n : Nat) : Int)] := by simp [marksI, List.range_succ]
theorem marksT_step (q n : Nat) : marksT q (n + 1) = marksT q n ++ [.string (mtext (q + n))] := by simp [marksT, List.range_succ]

end Go.Proofs.Ytelbannfbglgcaa
