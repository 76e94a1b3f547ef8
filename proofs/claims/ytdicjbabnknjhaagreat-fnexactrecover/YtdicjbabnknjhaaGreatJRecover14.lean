/-
  Contracts of what the program takes of the library over []int and []string: slices.Equal, Index, Contains; cmp.Compare; and of its own allClear, placeIn.
  Contract of the program's blocksOf: it tells each block of a chip that is right, with its pages, until it is told to stop.
  The pages of a block, and which blocks are free: as the program and as the specification count.
-/
import Derived.Test.YtdicjbabnknjhaaGreatJRecover3
import Derived.Test.YtdicjbabnknjhaaGreatJRecover13
import Derived.RangeFuncBox
import Derived.RangeFuncLeaves
import Derived.Shelf.Abstract
import Derived.OwnWalkIn
import Derived.TacticsInMore
import Derived.LoopNIn
import Derived.LoopIn
import Derived.Maps.AppendAt
import Derived.Test.YtdicjbabnknjhaaGreatJRecover12
namespace Go.Proofs.YtdicjbabnknjhaaGreat
open Go.RowKit

set_option maxHeartbeats 400000 in
theorem equalInt_any (a b : Option Addr) (xs ys : List Int) (c d : Nat) (w : World) (hr : Rd w a (vsInt xs)) (hs : Rd w b (vsInt ys)) (hm : xs.length ≤ 1048576) (_hn : ys.length ≤ 1048576) :
    Calls Tryz.prog 87 #[.slice a xs.length c, .slice b ys.length d] w fun e w' => e = .returned (.bool (decide (xs = ys))) ∧ ∃ n, w' = w.drewN n := by
  by_cases hl : xs.length = ys.length
  · have hl' : ((xs.length : Int) != (ys.length : Int)) = false := by simp [hl]
    have HL : Hid (xs.length = ys.length) := hl
    clear hl
    go_enter Tryz.func87, Tryz.ntmps87
    go_wp2
    go_loopw [13] (fun i wr => ∃ k : Nat, k ≤ xs.length ∧ i = .int .i64 k ∧ xs.take k = ys.take k ∧ ∃ n, wr = w.drewN n) (fun i _ => xs.length - (intOf i).toNat)
    case atStart => exact ⟨0, Nat.zero_le _, rfl, by simp, 0, rfl⟩
    case round =>
      obtain ⟨k, hk, rfl, htk, n, rfl⟩ := hrel
      by_cases hlt : k < xs.length
      · have hlt' : k < ys.length := by have := HL.out; omega
        obtain ⟨ba, oa, z, rfl, hck, HZ⟩ := rdInt_at hr hlt
        obtain ⟨bb, ob, y, rfl, hcy, HY⟩ := rdInt_at hs hlt'
        have HT : Hid (xs.take k = ys.take k) := htk
        clear hr hs htk hl'
        by_cases hzy : z = y
        · subst hzy
          have HE : Hid (xs.take (k + 1) = ys.take (k + 1)) := takeInt_step HT.out HZ.out HY.out
          go_wp2
          go_quiet (fail)
          go_wp2
          go_roundw
          case rel => exact ⟨k + 1, by omega, by go_num, HE.out, _, rfl⟩
          case measure => simp [intOf]; omega
        · have HE : Hid (xs ≠ ys) := neInt_at HZ.out HY.out hzy
          have ht : (z != y) = true := by simpa using hzy
          clear hzy
          go_wp2
          go_quiet (fail)
          go_wp2
          go_ret
          exact ⟨ret_bool (by simp [HE.out]), _, World.drewN_drewN _ _ _⟩
      · have HE : Hid (xs = ys) := by
          have := HL.out
          rw [List.take_of_length_le (by omega), List.take_of_length_le (by omega)] at htk; exact htk
        clear htk hl'
        go_wp2
        go_ret
        exact ⟨ret_bool (by simp [HE.out]), _, rfl⟩
  · have hl' : ((xs.length : Int) != (ys.length : Int)) = true := by simp; omega
    have HE : Hid (xs ≠ ys) := fun e => hl (by rw [e])
    clear hl
    go_enter Tryz.func87, Tryz.ntmps87
    go_wp2
    go_ret
    exact ⟨ret_bool (by simp [HE.out]), 0, rfl⟩

theorem notin_step {α : Type} {xs : List α} {k : Nat} {x y : α} (h : x ∉ xs.take k) (hy : xs[k]? = some y) (hne : ¬ x = y) : x ∉ xs.take (k + 1) := by
  rw [List.take_add_one, hy]
  simp only [Option.toList_some, List.mem_append, List.mem_singleton]
  rintro (h' | h')
  · exact h h'
  · exact hne h'

/-- Where x is first, or -1. -/
def FirstAt {α : Type} (xs : List α) (x : α) (r : Int) : Prop := (r = -1 ∧ x ∉ xs) ∨ ∃ i : Nat, r = i ∧ xs[i]? = some x ∧ x ∉ xs.take i

set_option maxHeartbeats 400000 in
theorem indexInt_any (a : Option Addr) (xs : List Int) (c : Nat) (x : Int) (w : World) (hr : Rd w a (vsInt xs)) (hm : xs.length ≤ 1048576) :
    Calls Tryz.prog 133 #[.slice a xs.length c, .int .i64 x] w fun e w' => (∃ r : Int, e = .returned (.int .i64 r) ∧ FirstAt xs x r) ∧ w' = w := by
  go_enter Tryz.func133, Tryz.ntmps133
  go_wp2
  go_loop [8] (fun i => ∃ k : Nat, k ≤ xs.length ∧ i = .int .i64 k ∧ Hid (x ∉ xs.take k)) (fun i => xs.length - (intOf i).toNat)
  case atStart => exact ⟨0, Nat.zero_le _, rfl, (show _ ∉ _ by simp)⟩
  case round =>
    obtain ⟨k, hk, rfl, HN⟩ := hrel
    by_cases hlt : k < xs.length
    · obtain ⟨ba, oa, z, rfl, hck, HZ⟩ := rdInt_at hr hlt
      clear hr
      by_cases hzy : x = z
      · subst hzy
        go_wp2
        go_ret
        exact ⟨⟨_, rfl, .inr ⟨k, rfl, HZ.out, HN.out⟩⟩, rfl⟩
      · have HE : Hid (x ∉ xs.take (k + 1)) := notin_step HN.out HZ.out hzy
        have ht : (x == z) = false := by simpa using hzy
        clear hzy
        go_wp2
        go_round
        case rel => exact ⟨k + 1, by omega, by go_num, HE⟩
        case measure => simp [intOf]; omega
    · have HE : Hid (x ∉ xs) := by
        have := HN.out
        rw [List.take_of_length_le (by omega)] at this
        exact this
      clear hr HN
      go_wp2
      go_ret
      exact ⟨⟨_, rfl, .inl ⟨rfl, HE.out⟩⟩, rfl⟩

theorem FirstAt.mem {α : Type} {xs : List α} {x : α} {r : Int} (h : FirstAt xs x r) : (0 ≤ r ↔ x ∈ xs) ∧ -1 ≤ r ∧ r < max xs.length 1 := by
  rcases h with ⟨rfl, h⟩ | ⟨i, rfl, h, -⟩
  · exact ⟨⟨fun h => by omega, fun h' => absurd h' h⟩, by omega, by omega⟩
  · have : i < xs.length := by
      rcases Nat.lt_or_ge i xs.length with h' | h'
      · exact h'
      · simp [h'] at h
    exact ⟨⟨fun _ => List.mem_of_getElem? h, fun _ => by omega⟩, by omega, by omega⟩

set_option maxHeartbeats 400000 in
theorem containsInt_any (a : Option Addr) (xs : List Int) (c : Nat) (x : Int) (w : World) (hr : Rd w a (vsInt xs)) (hm : xs.length ≤ 1048576) :
    Calls Tryz.prog 113 #[.slice a xs.length c, .int .i64 x] w fun e w' => e = .returned (.bool (decide (x ∈ xs))) ∧ w' = w := by
  go_enter Tryz.func113, Tryz.ntmps113
  go_wp2_with fail
  refine (indexInt_any a xs c x w hr hm).mono ?_
  rintro e u ⟨⟨r, rfl, hf⟩, hu⟩
  have hu' := hu.symm
  subst hu'
  have hb := hf.mem
  have HF := hide hb.1
  have hb1 := hb.2.1
  clear hr hf hb
  go_wp2
  go_ret
  refine ⟨ret_bool ?_, rfl⟩
  by_cases h : x ∈ xs
  · have := HF.out.2 h; simp [h, this]
  · have : ¬ 0 ≤ r := fun h' => h (HF.out.1 h'); simp [h]; omega

set_option maxHeartbeats 400000 in
theorem indexString_any (a : Option Addr) (xs : List ByteArray) (c : Nat) (w : World) (hr : Rd w a (vsString xs)) (hm : xs.length ≤ 1048576) :
    Calls Tryz.prog 131 #[.slice a xs.length c, .string ⟨#[]⟩] w fun e w' => (∃ r : Int, e = .returned (.int .i64 r) ∧ FirstAt xs ByteArray.empty r) ∧ w' = w := by
  go_enter Tryz.func131, Tryz.ntmps131
  go_wp2
  go_loop [8] (fun i => ∃ k : Nat, k ≤ xs.length ∧ i = .int .i64 k ∧ Hid (ByteArray.empty ∉ xs.take k)) (fun i => xs.length - (intOf i).toNat)
  case atStart => exact ⟨0, Nat.zero_le _, rfl, (show _ ∉ _ by simp)⟩
  case round =>
    obtain ⟨k, hk, rfl, HN⟩ := hrel
    by_cases hlt : k < xs.length
    · obtain ⟨ba, oa, z, rfl, hck, HZ⟩ := rdString_at hr hlt
      clear hr
      by_cases hzy : z = ByteArray.empty
      · subst hzy
        go_wp2
        go_ret
        exact ⟨⟨_, rfl, .inr ⟨k, rfl, HZ.out, HN.out⟩⟩, rfl⟩
      · have HE : Hid (ByteArray.empty ∉ xs.take (k + 1)) := notin_step HN.out HZ.out (fun e => hzy e.symm)
        have hxi := isEmpty_str hzy
        clear hzy
        go_wp2
        go_round
        case rel => exact ⟨k + 1, by omega, by go_num, HE⟩
        case measure => simp [intOf]; omega
    · have HE : Hid (ByteArray.empty ∉ xs) := by
        have := HN.out
        rw [List.take_of_length_le (by omega)] at this
        exact this
      clear hr HN
      go_wp2
      go_ret
      exact ⟨⟨_, rfl, .inl ⟨rfl, HE.out⟩⟩, rfl⟩

/-- All of them are clear. -/
def AllClr (xs : List ByteArray) : Prop := ∀ x ∈ xs, x = ByteArray.empty
open Classical in
noncomputable def allClrB (xs : List ByteArray) : Bool := decide (AllClr xs)
theorem allClrB_true {xs : List ByteArray} (h : AllClr xs) : allClrB xs = true := by simp [allClrB, h]
theorem allClrB_false {xs : List ByteArray} (h : ¬ AllClr xs) : allClrB xs = false := by simp [allClrB, h]

set_option maxHeartbeats 400000 in
theorem allClear_any (a : Option Addr) (xs : List ByteArray) (c : Nat) (w : World) (hr : Rd w a (vsString xs)) (hm : xs.length ≤ 1048576) :
    Calls Tryz.prog 118 #[.slice a xs.length c] w fun e w' => e = .returned (.bool (allClrB xs)) ∧ w' = w := by
  go_enter Tryz.func118, Tryz.ntmps118
  go_wp2
  go_loop [7] (fun i => ∃ k : Nat, k ≤ xs.length ∧ i = .int .i64 k ∧ Hid (AllClr (xs.take k))) (fun i => xs.length - (intOf i).toNat)
  case atStart => exact ⟨0, Nat.zero_le _, rfl, (show AllClr _ by simp [AllClr])⟩
  case round =>
    obtain ⟨k, hk, rfl, HN⟩ := hrel
    by_cases hlt : k < xs.length
    · obtain ⟨ba, oa, z, rfl, hck, HZ⟩ := rdString_at hr hlt
      clear hr
      by_cases hzy : z = ByteArray.empty
      · have HE : Hid (AllClr (xs.take (k + 1))) := by
          show AllClr _
          intro x hx
          rw [List.take_add_one, HZ.out] at hx
          simp only [Option.toList_some, List.mem_append, List.mem_singleton] at hx
          rcases hx with hx | hx
          · exact HN.out x hx
          · rw [hx, hzy]
        subst hzy
        go_wp2
        go_round
        case rel => exact ⟨k + 1, by omega, by go_num, HE⟩
        case measure => simp [intOf]; omega
      · have HE : Hid (¬ AllClr xs) := fun h => hzy (h z (List.mem_of_getElem? HZ.out))
        have hxi := isEmpty_str hzy
        clear hzy HN
        go_wp2
        go_ret
        exact ⟨ret_bool (by first | rw [allClrB_true HE.out] | rw [allClrB_false HE.out]), rfl⟩
    · have HE : Hid (AllClr xs) := by
        have := HN.out
        rw [List.take_of_length_le (by omega)] at this
        exact this
      clear hr HN
      go_wp2
      go_ret
      exact ⟨ret_bool (by first | rw [allClrB_true HE.out] | rw [allClrB_false HE.out]), rfl⟩

set_option maxHeartbeats 400000 in
theorem placeIn_any (a : Option Addr) (n c : Nat) (w : World) : Calls Tryz.prog 69 #[.slice a n c] w fun e w' => e = .returned (.func (.func 91) #[] #[.pointer (some ⟨w.heap.size, 0, none⟩)]) ∧ w' = w.alloc (.cells #[.slice a n c] 23) := by
  have hmf : ∀ (fn : Fn) (first cap : Array Value) (w : World), (Instr.makeFunc fn first cap).run Tryz.prog w = .ok (.func fn first cap) w := fun _ _ _ _ => rfl
  go_enter Tryz.func69, Tryz.ntmps69
  go_wp2
  go_ret
  exact ⟨rfl, rfl⟩

set_option maxHeartbeats 400000 in
theorem place_in (p : Nat) (a : Option Addr) (xs : List Int) (c k : Nat) (z : Int) (w : World) (hc : w.cell? ⟨p, 0, none⟩ = some (.slice a xs.length c)) (hr : Rd w a (vsInt xs)) (_hm : xs.length ≤ 1048576) (hz : xs[k]? = some z) :
    Calls Tryz.prog 91 #[.int .i64 k, .pointer (some ⟨p, 0, none⟩)] w fun e w' => e = .returned (.int .i64 z) ∧ w' = w := by
  have hk : k < xs.length := by
    rcases Nat.lt_or_ge k xs.length with h' | h'
    · exact h'
    · simp [h'] at hz
  obtain ⟨ba, oa, y, rfl, hck, HZ⟩ := rdInt_at hr hk
  obtain rfl : y = z := by have := HZ.out; rw [hz] at this; simpa using this.symm
  clear hr hz
  go_enter Tryz.func91, Tryz.ntmps91
  go_wp2
  go_ret
  exact ⟨rfl, rfl⟩

set_option maxHeartbeats 400000 in
theorem place_out (p : Nat) (a : Option Addr) (xs : List Int) (c : Nat) (s : Int) (w : World) (hc : w.cell? ⟨p, 0, none⟩ = some (.slice a xs.length c)) (_hm : xs.length ≤ 1048576) (hs : s < 0 ∨ (xs.length : Int) ≤ s) :
    Calls Tryz.prog 91 #[.int .i64 s, .pointer (some ⟨p, 0, none⟩)] w fun e w' => e = .returned (.int .i64 (-1)) ∧ w' = w := by
  by_cases h0 : s < 0
  · clear hs
    go_enter Tryz.func91, Tryz.ntmps91
    go_wp2
    go_ret
    exact ⟨rfl, rfl⟩
  · have h1 : (xs.length : Int) ≤ s := by omega
    clear hs
    go_enter Tryz.func91, Tryz.ntmps91
    go_wp2
    go_ret
    exact ⟨rfl, rfl⟩

end Go.Proofs.YtdicjbabnknjhaaGreat

namespace Go.Proofs.YtdicjbabnknjhaaGreat
open Go.RowKit Go.Shelf

attribute [local go_sem] Oper.semAt_some

/-- The first k blocks. -/
def blk (k : Nat) : List (Fin 10) := (List.finRange 10).take k
theorem blk_succ {k : Nat} (h : k < 10) : blk (k + 1) = blk k ++ [⟨k, h⟩] := by
  unfold blk
  rw [List.take_add_one]
  congr 1
  simp [h]
theorem blk_len {k : Nat} (h : k ≤ 10) : (blk k).length = k := by simp [blk]; omega

/-- What a round is handed: a block's number and its pages. -/
def encB (ba oa c : Nat) (x : Fin 10) : Array Value := #[.int .i64 ((x.val : Nat) : Int), .slice (some ⟨ba, oa + x.val * 6, none⟩) 6 (c - x.val * 6)]

/-- What a round keeps: what lay below n₀, and the block Bn. -/
def KpB (n₀ Bn : Nat) (W W' : World) : Prop := Below n₀ W W' ∧ W'.heap[Bn]? = W.heap[Bn]?
theorem KpB.refl (n₀ Bn : Nat) (W : World) : KpB n₀ Bn W W := ⟨Below.refl _ _, rfl⟩
theorem kpB_t {n₀ Bn : Nat} {A B C : World} (h : KpB n₀ Bn A B) (k : KpB n₀ Bn B C) : KpB n₀ Bn A C := ⟨h.1.trans k.1, k.2.trans h.2⟩
theorem kpB_b {n₀ Bn : Nat} {w : World} (hn : n₀ ≤ w.heap.size) (hB : Bn < w.heap.size) (W : World) (l : Nat) (o o' : Obj) (hl : w.heap.size ≤ l) (h : W.heap[l]? = some o) (h1 : o.isCells = false) (h2 : o.isWalk = false) : KpB n₀ Bn W (W.putObj l o') :=
  ⟨belowK_b hn W l o o' hl h h1 h2, World.putObj_heap_other (by omega)⟩

set_option maxHeartbeats 400000 in
theorem blocksOf_any (a b : Option Addr) (n m c d : Nat) (w : World) : Calls Tryz.prog 117 #[.agg #[.slice a n c, .slice b m d]] w fun e w' => e = .returned (.func (.func 135) #[] #[.pointer (some ⟨w.heap.size, 0, none⟩)]) ∧ w' = w.alloc (.cells #[.slice a n c, .slice b m d] 32) := by
  have hmf : ∀ (fn : Fn) (first cap : Array Value) (w : World), (Instr.makeFunc fn first cap).run Tryz.prog w = .ok (.func fn first cap) w := fun _ _ _ _ => rfl
  go_enter Tryz.func117, Tryz.ntmps117
  go_wp2
  go_ret
  exact ⟨rfl, rfl⟩

set_option maxRecDepth 100000 in
set_option maxHeartbeats 4000000 in
theorem blocks1_ok (n : Nat) (hn : 1 ≤ n) (l Bn n₀ ba oa : Nat) (b : Option Addr) (ps : List ByteArray) (ws : List Int) (c d : Nat) (J Jx : List (Fin 10) → World → Prop)
    (hY : ∀ pre x W, J pre W → pre.length < 10 → YieldAt Fence.wide (n - 1) Tryz.prog l (encB ba oa c x) W fun e W' =>
      (e = .returned (.bool true) ∧ J (pre ++ [x]) W' ∧ KpB n₀ Bn W W') ∨ (e = .returned (.bool false) ∧ Jx (pre ++ [x]) W'))
    (W : World) (hJ : AbidesFrom W.heap.size J) (hBn : W.heap[Bn]? = some (.cells #[.slice (some ⟨ba, oa, none⟩) ps.length c, .slice b ws.length d] 32 (0, 0)))
    (hp : Rd W (some ⟨ba, oa, none⟩) (vsString ps)) (hw : Rd W b (vsInt ws)) (hok : chipOkP ps ws) (hc : 60 ≤ c) (h0 : J [] W) :
    CallsIn Fence.wide n Tryz.prog 135 #[.func (.yield l) #[] #[], .pointer (some ⟨Bn, 0, none⟩)] W fun e W' => (∃ v, e = .returned v) ∧
      ((∃ ys, ys = blk 10 ∧ J ys W') ∨ (∃ pre, (∃ k, k ≤ 10 ∧ pre = blk k) ∧ Jx pre W')) := by
  have hlB : Bn < W.heap.size := (Array.getElem?_eq_some_iff.1 hBn).1
  have c0 : W.cell? ⟨Bn, 0, none⟩ = some (.slice (some ⟨ba, oa, none⟩) ps.length c) := by simp [World.cell?, hBn]
  have c1 : W.cell? ⟨Bn, 1, none⟩ = some (.slice b ws.length d) := by simp [World.cell?, hBn]
  have HB := hide hBn
  have HOK := hide (implChipOk_any (some ⟨ba, oa, none⟩) b ps ws c d W hp hw (by rw [hok.1]; decide) (by rw [hok.2.1]; decide) (fun s h => by have := hok.2.2.1 s h; omega))
  rw [chipOkB_true hok] at HOK
  have hl60 : 60 ≤ ps.length ∧ ps.length ≤ 60 := by have := hok.1; omega
  have HJ := hide hJ
  have H0 := hide h0
  clear hp hw hok hBn hJ h0
  refine callsIn_of_wp Tryz.func135 rfl trivial ?_ rfl
  simp only [Tryz.ntmps135, List.size_toArray, List.length_cons, List.length_nil, Nat.reduceAdd, Nat.reduceSub, Array.replicate_succ, Array.replicate_zero, List.push_toArray, List.append_toArray, List.nil_append, List.cons_append]
  gi_wp2_with (first | (refine ⟨trivial, ?_⟩; gi_at_call 86; refine (callsIn_wide.2 HOK.out).mono ?_; rintro e w1 ⟨rfl, hb1⟩) | (gi_at_call 86; refine (callsIn_wide.2 HOK.out).mono ?_; rintro e w1 ⟨rfl, hb1⟩))
  have HJ1 : Hid (J [] w1) := HJ.out [] W w1 none H0.out ⟨hb1.os, hb1.tape, hb1.output, hb1.size, fun i hi _ => hb1.block i hi⟩ (fun r e => by cases e)
  have HB1 : Hid (w1.heap[Bn]? = some (.cells #[.slice (some ⟨ba, oa, none⟩) ps.length c, .slice b ws.length d] 32 (0, 0))) := (hb1.block Bn hlB).trans HB.out
  clear HOK HJ H0 HB c0 c1 hb1
  gi_wp2
  gi_loopw [8] (fun i wr => ∃ k : Nat, k ≤ 10 ∧ i = .int .i64 k ∧ J (blk k) wr ∧ KpB n₀ Bn w1 wr) (fun i _ => 10 - (intOf i).toNat)
  case atStart => exact ⟨0, Nat.zero_le _, rfl, HJ1.out, KpB.refl _ _ _⟩
  case round =>
    obtain ⟨k, hk, rfl, hJs, hnx⟩ := hrel
    by_cases hlt : k < 10
    · obtain ⟨fn, tmps, assign, body, hy, hR⟩ := hY _ ⟨k, hlt⟩ wr hJs (by rw [blk_len hk]; exact hlt)
      have hB2 := hnx.2.trans HB1.out
      have d0 : wr.cell? ⟨Bn, 0, none⟩ = some (.slice (some ⟨ba, oa, none⟩) ps.length c) := by simp [World.cell?, hB2]
      have q1 : (k : Int) * 6 ≤ (k : Int) * 6 + 6 := by omega
      have q2 : (k : Int) * 6 + 6 ≤ (c : Int) := by omega
      have q3 : ¬ c = k * 6 := by omega
      simp only [encB] at hy
      have HJS := hide hJs
      clear hB2 hJs hY
      gi_wp2
      refine hR.mono ?_
      rintro e W3 (⟨rfl, hJ3, hk3⟩ | ⟨rfl, hJx3⟩)
      · gi_wp2
        go_roundw
        case rel => exact ⟨k + 1, by omega, by go_num, by rw [blk_succ hlt]; exact hJ3, kpB_t hnx hk3⟩
        case measure => simp [intOf]; omega
      · gi_wp2
        refine bodyPost_ret (results_none rfl _ _ _) rfl ?_
        exact ⟨⟨_, rfl⟩, .inr ⟨_, ⟨k + 1, by omega, (blk_succ hlt).symm⟩, hJx3⟩⟩
    · obtain rfl : k = 10 := by omega
      clear hY
      gi_wp2
      go_end0
      exact ⟨⟨_, rfl⟩, .inl ⟨_, rfl, hJs⟩⟩

set_option maxRecDepth 100000 in
set_option maxHeartbeats 4000000 in
theorem blocks1_bad (n : Nat) (hn : 1 ≤ n) (l Bn : Nat) (a b : Option Addr) (ps : List ByteArray) (ws : List Int) (c d : Nat) (J : List (Fin 10) → World → Prop)
    (W : World) (hJ : AbidesFrom W.heap.size J) (hBn : W.heap[Bn]? = some (.cells #[.slice a ps.length c, .slice b ws.length d] 32 (0, 0)))
    (hp : Rd W a (vsString ps)) (hw : Rd W b (vsInt ws)) (hl : ps.length ≤ 1048576) (hm : ws.length ≤ 1048576) (hs : ∀ s ∈ ps, s.size ≤ 1048576) (hok : ¬ chipOkP ps ws) (h0 : J [] W) :
    CallsIn Fence.wide n Tryz.prog 135 #[.func (.yield l) #[] #[], .pointer (some ⟨Bn, 0, none⟩)] W fun e W' => (∃ v, e = .returned v) ∧ J [] W' := by
  have c0 : W.cell? ⟨Bn, 0, none⟩ = some (.slice a ps.length c) := by simp [World.cell?, hBn]
  have c1 : W.cell? ⟨Bn, 1, none⟩ = some (.slice b ws.length d) := by simp [World.cell?, hBn]
  have HOK := hide (implChipOk_any a b ps ws c d W hp hw hl hm hs)
  rw [chipOkB_false hok] at HOK
  have HJ := hide hJ
  have H0 := hide h0
  clear hp hw hok hBn hJ h0 hs
  refine callsIn_of_wp Tryz.func135 rfl trivial ?_ rfl
  simp only [Tryz.ntmps135, List.size_toArray, List.length_cons, List.length_nil, Nat.reduceAdd, Nat.reduceSub, Array.replicate_succ, Array.replicate_zero, List.push_toArray, List.append_toArray, List.nil_append, List.cons_append]
  gi_wp2_with (first | (refine ⟨trivial, ?_⟩; gi_at_call 86; refine (callsIn_wide.2 HOK.out).mono ?_; rintro e w1 ⟨rfl, hb1⟩) | (gi_at_call 86; refine (callsIn_wide.2 HOK.out).mono ?_; rintro e w1 ⟨rfl, hb1⟩))
  have HJ1 : Hid (J [] w1) := HJ.out [] W w1 none H0.out ⟨hb1.os, hb1.tape, hb1.output, hb1.size, fun i hi _ => hb1.block i hi⟩ (fun r e => by cases e)
  clear HOK HJ H0 c0 c1 hb1
  gi_wp2
  refine bodyPost_ret (results_none rfl _ _ _) rfl ?_
  exact ⟨⟨_, rfl⟩, HJ1.out⟩

theorem blocks_stops (n : Nat) (hn : 1 ≤ n) (Bn n₀ ba oa : Nat) (b : Option Addr) (ps : List ByteArray) (ws : List Int) (c d : Nat) (w : World)
    (hBn : w.heap[Bn]? = some (.cells #[.slice (some ⟨ba, oa, none⟩) ps.length c, .slice b ws.length d] 32 (0, 0)))
    (hp : Rd w (some ⟨ba, oa, none⟩) (vsString ps)) (hw : Rd w b (vsInt ws)) (hok : chipOkP ps ws) (hc : 60 ≤ c) :
    SeqStopsK Fence.wide n Tryz.prog 135 #[.pointer (some ⟨Bn, 0, none⟩)] (encB ba oa c) (KpB n₀ Bn) (fun ys => ys = blk 10) (fun pre => ∃ k, k ≤ 10 ∧ pre = blk k) 10 w := fun l J Jx W hW hJ _ hY h0 =>
  blocks1_ok n hn l Bn n₀ ba oa b ps ws c d J Jx hY W hJ ((hW.block Bn (Array.getElem?_eq_some_iff.1 hBn).1).trans hBn) (hp.below hW) (hw.below hW) hok hc h0
theorem blocks_none (n : Nat) (hn : 1 ≤ n) (Bn n₀ ba oa : Nat) (a b : Option Addr) (ps : List ByteArray) (ws : List Int) (c d : Nat) (w : World)
    (hBn : w.heap[Bn]? = some (.cells #[.slice a ps.length c, .slice b ws.length d] 32 (0, 0)))
    (hp : Rd w a (vsString ps)) (hw : Rd w b (vsInt ws)) (hl : ps.length ≤ 1048576) (hm : ws.length ≤ 1048576) (hs : ∀ s ∈ ps, s.size ≤ 1048576) (hok : ¬ chipOkP ps ws) :
    SeqStopsK Fence.wide n Tryz.prog 135 #[.pointer (some ⟨Bn, 0, none⟩)] (encB ba oa c) (KpB n₀ Bn) (fun ys => ys = []) (fun _ => False) 0 w := fun l J _ W hW hJ _ _ h0 =>
  (blocks1_bad n hn l Bn a b ps ws c d J W hJ ((hW.block Bn (Array.getElem?_eq_some_iff.1 hBn).1).trans hBn) (hp.below hW) (hw.below hW) hl hm hs hok h0).mono fun _ _ h => ⟨h.1, .inl ⟨[], rfl, h.2⟩⟩

end Go.Proofs.YtdicjbabnknjhaaGreat

namespace Go.Proofs.YtdicjbabnknjhaaGreat
open Go.RowKit

/-- The pages of a block. -/
def pagesOf (ps : List ByteArray) (B : Nat) : List ByteArray := (ps.drop (B * 6)).take 6
theorem pagesOf_len {ps : List ByteArray} {B : Nat} (hl : ps.length = 60) (hB : B < 10) : (pagesOf ps B).length = 6 := by simp [pagesOf]; omega
theorem pagesOf_at {ps : List ByteArray} {B j : Nat} (hj : j < 6) : (pagesOf ps B)[j]? = ps[B * 6 + j]? := by
  simp [pagesOf, hj, List.getElem?_drop]
theorem rd_pages {w : World} {ba oa : Nat} {ps : List ByteArray} (B : Nat) (h : Rd w (some ⟨ba, oa, none⟩) (vsString ps)) : Rd w (some ⟨ba, oa + B * 6, none⟩) (vsString (pagesOf ps B)) := by
  rcases h with h | ⟨b, off, ha, hc⟩
  · left; simp at h; subst h; simp [pagesOf]
  · simp at ha
    obtain ⟨rfl, rfl⟩ := ha
    refine .inr ⟨ba, oa + B * 6, rfl, fun i v hv => ?_⟩
    have hi : i < 6 := by
      rcases Nat.lt_or_ge i 6 with h' | h'
      · exact h'
      · have : (pagesOf ps B).length ≤ 6 := by simp [pagesOf]; omega
        rw [List.getElem?_map, List.getElem?_eq_none (by omega)] at hv; simp at hv
    rw [List.getElem?_map, pagesOf_at hi, ← List.getElem?_map] at hv
    have := hc (B * 6 + i) v hv
    rw [show oa + B * 6 + i = oa + (B * 6 + i) by omega]
    exact this

/-- The first i pages of a block are all clear just where so many are. -/
theorem clr_all (ps : List ByteArray) (B : Nat) : ∀ i, ((clr ps B i).1 = i ↔ ∀ j, j < i → ps[B * 6 + j]?.getD ByteArray.empty = ByteArray.empty) := by
  intro i
  induction i with
  | zero => simp [clr]
  | succ i ih =>
    have hb := clr_bd ps B i
    unfold clr
    split
    · rename_i h
      simp only []
      constructor
      · intro he j hj
        by_cases hji : j = i
        · rw [hji]; exact h
        · exact (ih.1 (by omega)) j (by omega)
      · intro hall
        have := ih.2 (fun j hj => hall j (by omega))
        omega
    · rename_i h
      simp only []
      constructor
      · intro he; omega
      · intro hall; exact absurd (hall i (by omega)) h
theorem free_iff {ps : List ByteArray} {B : Nat} (hl : ps.length = 60) (hB : B < 10) : (clr ps B 6).1 = 6 ↔ AllClr (pagesOf ps B) := by
  have := clr_all ps B 6
  rw [show ((6 : Nat) : Int) = 6 from rfl] at this
  rw [this]
  constructor
  · intro h x hx
    obtain ⟨j, hj⟩ := List.mem_iff_getElem?.1 hx
    have hj6 : j < 6 := by
      rcases Nat.lt_or_ge j 6 with h' | h'
      · exact h'
      · rw [List.getElem?_eq_none (by rw [pagesOf_len hl hB]; exact h')] at hj; cases hj
    rw [pagesOf_at hj6] at hj
    have := h j hj6
    rw [hj] at this
    exact this
  · intro h j hj
    have hlt : B * 6 + j < ps.length := by omega
    have : ps[B * 6 + j]? = some ps[B * 6 + j] := by simp [hlt]
    rw [this]
    refine h _ (List.mem_iff_getElem?.2 ⟨j, ?_⟩)
    rw [pagesOf_at hj, this]; rfl

/-- The free ones of some blocks. -/
noncomputable def freeL (ps : List ByteArray) (xs : List (Fin 10)) : List Int := (xs.filter (fun x => allClrB (pagesOf ps x.val))).map (fun x => ((x.val : Nat) : Int))
theorem freeL_hit {ps : List ByteArray} (xs : List (Fin 10)) {x : Fin 10} (h : allClrB (pagesOf ps x.val) = true) : freeL ps (xs ++ [x]) = freeL ps xs ++ [((x.val : Nat) : Int)] := by simp [freeL, h]
theorem freeL_miss {ps : List ByteArray} (xs : List (Fin 10)) {x : Fin 10} (h : allClrB (pagesOf ps x.val) = false) : freeL ps (xs ++ [x]) = freeL ps xs := by simp [freeL, h]
theorem freeL_len (ps : List ByteArray) (xs : List (Fin 10)) : (freeL ps xs).length ≤ xs.length := by
  unfold freeL; rw [List.length_map]; exact List.length_filter_le _ _
theorem freeL_blk {ps : List ByteArray} (hl : ps.length = 60) : ∀ k, k ≤ 10 → freeL ps (blk k) = freeB ps k := by
  intro k
  induction k with
  | zero => intro _; simp [freeL, blk, freeB]
  | succ k ih =>
    intro hk
    have hk' : k < 10 := by omega
    rw [blk_succ hk']
    by_cases h : AllClr (pagesOf ps k)
    · rw [freeL_hit _ (x := ⟨k, hk'⟩) (allClrB_true h), ih (by omega), freeB, if_pos ((free_iff hl hk').2 h)]
    · rw [freeL_miss _ (x := ⟨k, hk'⟩) (allClrB_false h), ih (by omega), freeB, if_neg (fun h' => h ((free_iff hl hk').1 h'))]

end Go.Proofs.YtdicjbabnknjhaaGreat
