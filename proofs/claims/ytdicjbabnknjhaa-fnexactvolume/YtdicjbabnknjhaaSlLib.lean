/-
  Contracts of what the program takes of the library over []int and []string: slices.Equal, Index, Contains; cmp.Compare; and of its own allClear, placeIn.
-/
import Derived.Test.YtdicjbabnknjhaaSpecBurn
namespace Go.Proofs.Ytdicjbabnknjhaa
open Go.RowKit

set_option maxHeartbeats 400000 in
theorem equalInt_any (a b : Option Addr) (xs ys : List Int) (c d : Nat) (w : World) (hr : Rd w a (vsInt xs)) (hs : Rd w b (vsInt ys)) (hm : xs.length ≤ 1048576) (_hn : ys.length ≤ 1048576) :
    Calls Try.prog 63 #[.slice a xs.length c, .slice b ys.length d] w fun e w' => e = .returned (.bool (decide (xs = ys))) ∧ ∃ n, w' = w.drewN n := by
  by_cases hl : xs.length = ys.length
  · have hl' : ((xs.length : Int) != (ys.length : Int)) = false := by simp [hl]
    have HL : Hid (xs.length = ys.length) := hl
    clear hl
    go_enter Try.func63, Try.ntmps63
    go_wp2
    go_loopw [13] (fun i wr => ∃ k : Nat, k ≤ xs.length ∧ i = .int .i64 k ∧ xs.take k = ys.take k ∧ ∃ n, wr = w.drewN n) (fun i _ => xs.length - (intOf i).toNat)
    case atStart => exact ⟨0, Nat.zero_le _, rfl, by simp, 0, rfl⟩
    case round =>
      obtain ⟨k, hk, rfl, htk, n, rfl⟩ := hrel
      by_cases hlt : k < xs.length
      · have hlt' : k < ys.length := by have := HL.out; omega
        obtain ⟨ba, oa, z, rfl, hck, HZ⟩ := rdInt_at hr hlt
        obtain ⟨bb, ob, y, rfl, hcy, HY⟩ := rdInt_at hs hlt'
        have HT : Hid (xs.take k = ys.take k) := htk
        clear hr hs htk hl'
        by_cases hzy : z = y
        · subst hzy
          have HE : Hid (xs.take (k + 1) = ys.take (k + 1)) := takeInt_step HT.out HZ.out HY.out
          go_wp2
          go_quiet (fail)
          go_wp2
          go_roundw
          case rel => exact ⟨k + 1, by omega, by go_num, HE.out, _, rfl⟩
          case measure => simp [intOf]; omega
        · have HE : Hid (xs ≠ ys) := neInt_at HZ.out HY.out hzy
          have ht : (z != y) = true := by simpa using hzy
          clear hzy
          go_wp2
          go_quiet (fail)
          go_wp2
          go_ret
          exact ⟨ret_bool (by simp [HE.out]), _, World.drewN_drewN _ _ _⟩
      · have HE : Hid (xs = ys) := by
          have := HL.out
          rw [List.take_of_length_le (by omega), List.take_of_length_le (by omega)] at htk; exact htk
        clear htk hl'
        go_wp2
        go_ret
        exact ⟨ret_bool (by simp [HE.out]), _, rfl⟩
  · have hl' : ((xs.length : Int) != (ys.length : Int)) = true := by simp; omega
    have HE : Hid (xs ≠ ys) := fun e => hl (by rw [e])
    clear hl
    go_enter Try.func63, Try.ntmps63
    go_wp2
    go_ret
    exact ⟨ret_bool (by simp [HE.out]), 0, rfl⟩

theorem notin_step {α : Type} {xs : List α} {k : Nat} {x y : α} (h : x ∉ xs.take k) (hy : xs[k]? = some y) (hne : ¬ x = y) : x ∉ xs.take (k + 1) := by
  rw [List.take_add_one, hy]
  simp only [Option.toList_some, List.mem_append, List.mem_singleton]
  rintro (h' | h')
  · exact h h'
  · exact hne h'

/-- Where x is first, or -1. -/
def FirstAt {α : Type} (xs : List α) (x : α) (r : Int) : Prop := (r = -1 ∧ x ∉ xs) ∨ ∃ i : Nat, r = i ∧ xs[i]? = some x ∧ x ∉ xs.take i

theorem FirstAt.mem {α : Type} {xs : List α} {x : α} {r : Int} (h : FirstAt xs x r) : (0 ≤ r ↔ x ∈ xs) ∧ -1 ≤ r ∧ r < max xs.length 1 := by
  rcases h with ⟨rfl, h⟩ | ⟨i, rfl, h, -⟩
  · exact ⟨⟨fun h => by omega, fun h' => absurd h' h⟩, by omega, by omega⟩
  · have : i < xs.length := by
      rcases Nat.lt_or_ge i xs.length with h' | h'
      · exact h'
      · simp [h'] at h
    exact ⟨⟨fun _ => List.mem_of_getElem? h, fun _ => by omega⟩, by omega, by omega⟩

/-- All of them are clear. -/
def AllClr (xs : List ByteArray) : Prop := ∀ x ∈ xs, x = ByteArray.empty
open Classical in
noncomputable def allClrB (xs : List ByteArray) : Bool := decide (AllClr xs)
theorem allClrB_true {xs : List ByteArray} (h : AllClr xs) : allClrB xs = true := by simp [allClrB, h]
theorem allClrB_false {xs : List ByteArray} (h : ¬ AllClr xs) : allClrB xs = false := by simp [allClrB, h]

set_option maxHeartbeats 400000 in
theorem placeIn_any (a : Option Addr) (n c : Nat) (w : World) : Calls Try.prog 64 #[.slice a n c] w fun e w' => e = .returned (.func (.func 75) #[] #[.pointer (some ⟨w.heap.size, 0, none⟩)]) ∧ w' = w.alloc (.cells #[.slice a n c] 34) := by
  have hmf : ∀ (fn : Fn) (first cap : Array Value) (w : World), (Instr.makeFunc fn first cap).run Try.prog w = .ok (.func fn first cap) w := fun _ _ _ _ => rfl
  go_enter Try.func64, Try.ntmps64
  go_wp2
  go_ret
  exact ⟨rfl, rfl⟩

set_option maxHeartbeats 400000 in
theorem place_in (p : Nat) (a : Option Addr) (xs : List Int) (c k : Nat) (z : Int) (w : World) (hc : w.cell? ⟨p, 0, none⟩ = some (.slice a xs.length c)) (hr : Rd w a (vsInt xs)) (_hm : xs.length ≤ 1048576) (hz : xs[k]? = some z) :
    Calls Try.prog 75 #[.int .i64 k, .pointer (some ⟨p, 0, none⟩)] w fun e w' => e = .returned (.int .i64 z) ∧ w' = w := by
  have hk : k < xs.length := by
    rcases Nat.lt_or_ge k xs.length with h' | h'
    · exact h'
    · simp [h'] at hz
  obtain ⟨ba, oa, y, rfl, hck, HZ⟩ := rdInt_at hr hk
  obtain rfl : y = z := by have := HZ.out; rw [hz] at this; simpa using this.symm
  clear hr hz
  go_enter Try.func75, Try.ntmps75
  go_wp2
  go_ret
  exact ⟨rfl, rfl⟩

set_option maxHeartbeats 400000 in
theorem place_out (p : Nat) (a : Option Addr) (xs : List Int) (c : Nat) (s : Int) (w : World) (hc : w.cell? ⟨p, 0, none⟩ = some (.slice a xs.length c)) (_hm : xs.length ≤ 1048576) (hs : s < 0 ∨ (xs.length : Int) ≤ s) :
    Calls Try.prog 75 #[.int .i64 s, .pointer (some ⟨p, 0, none⟩)] w fun e w' => e = .returned (.int .i64 (-1)) ∧ w' = w := by
  by_cases h0 : s < 0
  · clear hs
    go_enter Try.func75, Try.ntmps75
    go_wp2
    go_ret
    exact ⟨rfl, rfl⟩
  · have h1 : (xs.length : Int) ≤ s := by omega
    clear hs
    go_enter Try.func75, Try.ntmps75
    go_wp2
    go_ret
    exact ⟨rfl, rfl⟩

end Go.Proofs.Ytdicjbabnknjhaa
