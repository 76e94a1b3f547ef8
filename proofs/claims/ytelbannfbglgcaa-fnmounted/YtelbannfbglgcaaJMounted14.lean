/-
  Contract of the program's blocksOf: it tells each block of a chip that is right, with its pages, until it is told to stop.
  The pages of a block, and which blocks are free: as the program and as the specification count.
  The plain mathematics of NextPage: which block is begun, and which free one was cleared the least often.
-/
import Derived.Test.YtelbannfbglgcaaJMounted13
import Derived.RangeFuncBox
import Derived.RangeFuncLeaves
import Derived.Shelf.Abstract
import Derived.OwnWalkIn
import Derived.TacticsInMore
import Derived.LoopNIn
import Derived.LoopIn
import Derived.Maps.AppendAt
import Derived.Test.YtelbannfbglgcaaJMounted11
namespace Go.Proofs.Ytelbannfbglgcaa
open Go.RowKit Go.Shelf

attribute [local go_sem] Oper.semAt_some

/-- The first k blocks. -/
def blk (k : Nat) : List (Fin 10) := (List.finRange 10).take k
theorem blk_succ {k : Nat} (h : k < 10) : blk (k + 1) = blk k ++ [⟨k, h⟩] := by
  unfold blk
  rw [List.take_add_one]
  congr 1
  simp [h]
theorem blk_len {k : Nat} (h : k ≤ 10) : (blk k).length = k := by simp [blk]; omega

/-- What a round is handed: a block's number and its pages. -/
def encB (ba oa c : Nat) (x : Fin 10) : Array Value := #[.int .i64 ((x.val : Nat) : Int), .slice (some ⟨ba, oa + x.val * 6, none⟩) 6 (c - x.val * 6)]

/-- What a round keeps: what lay below n₀, and the block Bn. -/
def KpB (n₀ Bn : Nat) (W W' : World) : Prop := Below n₀ W W' ∧ W'.heap[Bn]? = W.heap[Bn]?
theorem KpB.refl (n₀ Bn : Nat) (W : World) : KpB n₀ Bn W W := ⟨Below.refl _ _, rfl⟩
theorem kpB_t {n₀ Bn : Nat} {A B C : World} (h : KpB n₀ Bn A B) (k : KpB n₀ Bn B C) : KpB n₀ Bn A C := ⟨h.1.trans k.1, k.2.trans h.2⟩
theorem kpB_b {n₀ Bn : Nat} {w : World} (hn : n₀ ≤ w.heap.size) (hB : Bn < w.heap.size) (W : World) (l : Nat) (o o' : Obj) (hl : w.heap.size ≤ l) (h : W.heap[l]? = some o) (h1 : o.isCells = false) (h2 : o.isWalk = false) : KpB n₀ Bn W (W.putObj l o') :=
  ⟨belowK_b hn W l o o' hl h h1 h2, World.putObj_heap_other (by omega)⟩

set_option maxHeartbeats 400000 in
theorem blocksOf_any (a b : Option Addr) (n m c d : Nat) (w : World) : Calls Try.prog 81 #[.agg #[.slice a n c, .slice b m d]] w fun e w' => e = .returned (.func (.func 116) #[] #[.pointer (some ⟨w.heap.size, 0, none⟩)]) ∧ w' = w.alloc (.cells #[.slice a n c, .slice b m d] 27) := by
  have hmf : ∀ (fn : Fn) (first cap : Array Value) (w : World), (Instr.makeFunc fn first cap).run Try.prog w = .ok (.func fn first cap) w := fun _ _ _ _ => rfl
  go_enter Try.func81, Try.ntmps81
  go_wp2
  go_ret
  exact ⟨rfl, rfl⟩

set_option maxRecDepth 100000 in
set_option maxHeartbeats 4000000 in
theorem blocks1_ok (n : Nat) (hn : 1 ≤ n) (l Bn n₀ ba oa : Nat) (b : Option Addr) (ps : List ByteArray) (ws : List Int) (c d : Nat) (J Jx : List (Fin 10) → World → Prop)
    (hY : ∀ pre x W, J pre W → pre.length < 10 → YieldAt Fence.wide (n - 1) Try.prog l (encB ba oa c x) W fun e W' =>
      (e = .returned (.bool true) ∧ J (pre ++ [x]) W' ∧ KpB n₀ Bn W W') ∨ (e = .returned (.bool false) ∧ Jx (pre ++ [x]) W'))
    (W : World) (hJ : AbidesFrom W.heap.size J) (hBn : W.heap[Bn]? = some (.cells #[.slice (some ⟨ba, oa, none⟩) ps.length c, .slice b ws.length d] 27 (0, 0)))
    (hp : Rd W (some ⟨ba, oa, none⟩) (vsString ps)) (hw : Rd W b (vsInt ws)) (hok : chipOkP ps ws) (hc : 60 ≤ c) (h0 : J [] W) :
    CallsIn Fence.wide n Try.prog 116 #[.func (.yield l) #[] #[], .pointer (some ⟨Bn, 0, none⟩)] W fun e W' => (∃ v, e = .returned v) ∧
      ((∃ ys, ys = blk 10 ∧ J ys W') ∨ (∃ pre, (∃ k, k ≤ 10 ∧ pre = blk k) ∧ Jx pre W')) := by
  have hlB : Bn < W.heap.size := (Array.getElem?_eq_some_iff.1 hBn).1
  have c0 : W.cell? ⟨Bn, 0, none⟩ = some (.slice (some ⟨ba, oa, none⟩) ps.length c) := by simp [World.cell?, hBn]
  have c1 : W.cell? ⟨Bn, 1, none⟩ = some (.slice b ws.length d) := by simp [World.cell?, hBn]
  have HB := hide hBn
  have HOK := hide (implChipOk_any (some ⟨ba, oa, none⟩) b ps ws c d W hp hw (by rw [hok.1]; decide) (by rw [hok.2.1]; decide) (fun s h => by have := hok.2.2.1 s h; omega))
  rw [chipOkB_true hok] at HOK
  have hl60 : 60 ≤ ps.length ∧ ps.length ≤ 60 := by have := hok.1; omega
  have HJ := hide hJ
  have H0 := hide h0
  clear hp hw hok hBn hJ h0
  refine callsIn_of_wp Try.func116 rfl trivial ?_ rfl
  simp only [Try.ntmps116, List.size_toArray, List.length_cons, List.length_nil, Nat.reduceAdd, Nat.reduceSub, Array.replicate_succ, Array.replicate_zero, List.push_toArray, List.append_toArray, List.nil_append, List.cons_append]
  gi_wp2_with (first | (refine ⟨trivial, ?_⟩; gi_at_call 12; refine (callsIn_wide.2 HOK.out).mono ?_; rintro e w1 ⟨rfl, hb1⟩) | (gi_at_call 12; refine (callsIn_wide.2 HOK.out).mono ?_; rintro e w1 ⟨rfl, hb1⟩))
  have HJ1 : Hid (J [] w1) := HJ.out [] W w1 none H0.out ⟨hb1.os, hb1.tape, hb1.output, hb1.size, fun i hi _ => hb1.block i hi⟩ (fun r e => by cases e)
  have HB1 : Hid (w1.heap[Bn]? = some (.cells #[.slice (some ⟨ba, oa, none⟩) ps.length c, .slice b ws.length d] 27 (0, 0))) := (hb1.block Bn hlB).trans HB.out
  clear HOK HJ H0 HB c0 c1 hb1
  gi_wp2
  gi_loopw [8] (fun i wr => ∃ k : Nat, k ≤ 10 ∧ i = .int .i64 k ∧ J (blk k) wr ∧ KpB n₀ Bn w1 wr) (fun i _ => 10 - (intOf i).toNat)
  case atStart => exact ⟨0, Nat.zero_le _, rfl, HJ1.out, KpB.refl _ _ _⟩
  case round =>
    obtain ⟨k, hk, rfl, hJs, hnx⟩ := hrel
    by_cases hlt : k < 10
    · obtain ⟨fn, tmps, assign, body, hy, hR⟩ := hY _ ⟨k, hlt⟩ wr hJs (by rw [blk_len hk]; exact hlt)
      have hB2 := hnx.2.trans HB1.out
      have d0 : wr.cell? ⟨Bn, 0, none⟩ = some (.slice (some ⟨ba, oa, none⟩) ps.length c) := by simp [World.cell?, hB2]
      have q1 : (k : Int) * 6 ≤ (k : Int) * 6 + 6 := by omega
      have q2 : (k : Int) * 6 + 6 ≤ (c : Int) := by omega
      have q3 : ¬ c = k * 6 := by omega
      simp only [encB] at hy
      have HJS := hide hJs
      clear hB2 hJs hY
      gi_wp2
      refine hR.mono ?_
      rintro e W3 (⟨rfl, hJ3, hk3⟩ | ⟨rfl, hJx3⟩)
      · gi_wp2
        go_roundw
        case rel => exact ⟨k + 1, by omega, by go_num, by rw [blk_succ hlt]; exact hJ3, kpB_t hnx hk3⟩
        case measure => simp [intOf]; omega
      · gi_wp2
        refine bodyPost_ret (results_none rfl _ _ _) rfl ?_
        exact ⟨⟨_, rfl⟩, .inr ⟨_, ⟨k + 1, by omega, (blk_succ hlt).symm⟩, hJx3⟩⟩
    · obtain rfl : k = 10 := by omega
      clear hY
      gi_wp2
      go_end0
      exact ⟨⟨_, rfl⟩, .inl ⟨_, rfl, hJs⟩⟩

set_option maxRecDepth 100000 in
set_option maxHeartbeats 4000000 in
theorem blocks1_bad (n : Nat) (hn : 1 ≤ n) (l Bn : Nat) (a b : Option Addr) (ps : List ByteArray) (ws : List Int) (c d : Nat) (J : List (Fin 10) → World → Prop)
    (W : World) (hJ : AbidesFrom W.heap.size J) (hBn : W.heap[Bn]? = some (.cells #[.slice a ps.length c, .slice b ws.length d] 27 (0, 0)))
    (hp : Rd W a (vsString ps)) (hw : Rd W b (vsInt ws)) (hl : ps.length ≤ 1048576) (hm : ws.length ≤ 1048576) (hs : ∀ s ∈ ps, s.size ≤ 1048576) (hok : ¬ chipOkP ps ws) (h0 : J [] W) :
    CallsIn Fence.wide n Try.prog 116 #[.func (.yield l) #[] #[], .pointer (some ⟨Bn, 0, none⟩)] W fun e W' => (∃ v, e = .returned v) ∧ J [] W' := by
  have c0 : W.cell? ⟨Bn, 0, none⟩ = some (.slice a ps.length c) := by simp [World.cell?, hBn]
  have c1 : W.cell? ⟨Bn, 1, none⟩ = some (.slice b ws.length d) := by simp [World.cell?, hBn]
  have HOK := hide (implChipOk_any a b ps ws c d W hp hw hl hm hs)
  rw [chipOkB_false hok] at HOK
  have HJ := hide hJ
  have H0 := hide h0
  clear hp hw hok hBn hJ h0 hs
  refine callsIn_of_wp Try.func116 rfl trivial ?_ rfl
  simp only [Try.ntmps116, List.size_toArray, List.length_cons, List.length_nil, Nat.reduceAdd, Nat.reduceSub, Array.replicate_succ, Array.replicate_zero, List.push_toArray, List.append_toArray, List.nil_append, List.cons_append]
  gi_wp2_with (first | (refine ⟨trivial, ?_⟩; gi_at_call 12; refine (callsIn_wide.2 HOK.out).mono ?_; rintro e w1 ⟨rfl, hb1⟩) | (gi_at_call 12; refine (callsIn_wide.2 HOK.out).mono ?_; rintro e w1 ⟨rfl, hb1⟩))
  have HJ1 : Hid (J [] w1) := HJ.out [] W w1 none H0.out ⟨hb1.os, hb1.tape, hb1.output, hb1.size, fun i hi _ => hb1.block i hi⟩ (fun r e => by cases e)
  clear HOK HJ H0 c0 c1 hb1
  gi_wp2
  refine bodyPost_ret (results_none rfl _ _ _) rfl ?_
  exact ⟨⟨_, rfl⟩, HJ1.out⟩

theorem blocks_stops (n : Nat) (hn : 1 ≤ n) (Bn n₀ ba oa : Nat) (b : Option Addr) (ps : List ByteArray) (ws : List Int) (c d : Nat) (w : World)
    (hBn : w.heap[Bn]? = some (.cells #[.slice (some ⟨ba, oa, none⟩) ps.length c, .slice b ws.length d] 27 (0, 0)))
    (hp : Rd w (some ⟨ba, oa, none⟩) (vsString ps)) (hw : Rd w b (vsInt ws)) (hok : chipOkP ps ws) (hc : 60 ≤ c) :
    SeqStopsK Fence.wide n Try.prog 116 #[.pointer (some ⟨Bn, 0, none⟩)] (encB ba oa c) (KpB n₀ Bn) (fun ys => ys = blk 10) (fun pre => ∃ k, k ≤ 10 ∧ pre = blk k) 10 w := fun l J Jx W hW hJ _ hY h0 =>
  blocks1_ok n hn l Bn n₀ ba oa b ps ws c d J Jx hY W hJ ((hW.block Bn (Array.getElem?_eq_some_iff.1 hBn).1).trans hBn) (hp.below hW) (hw.below hW) hok hc h0
theorem blocks_none (n : Nat) (hn : 1 ≤ n) (Bn n₀ ba oa : Nat) (a b : Option Addr) (ps : List ByteArray) (ws : List Int) (c d : Nat) (w : World)
    (hBn : w.heap[Bn]? = some (.cells #[.slice a ps.length c, .slice b ws.length d] 27 (0, 0)))
    (hp : Rd w a (vsString ps)) (hw : Rd w b (vsInt ws)) (hl : ps.length ≤ 1048576) (hm : ws.length ≤ 1048576) (hs : ∀ s ∈ ps, s.size ≤ 1048576) (hok : ¬ chipOkP ps ws) :
    SeqStopsK Fence.wide n Try.prog 116 #[.pointer (some ⟨Bn, 0, none⟩)] (encB ba oa c) (KpB n₀ Bn) (fun ys => ys = []) (fun _ => False) 0 w := fun l J _ W hW hJ _ _ h0 =>
  (blocks1_bad n hn l Bn a b ps ws c d J W hJ ((hW.block Bn (Array.getElem?_eq_some_iff.1 hBn).1).trans hBn) (hp.below hW) (hw.below hW) hl hm hs hok h0).mono fun _ _ h => ⟨h.1, .inl ⟨[], rfl, h.2⟩⟩

end Go.Proofs.Ytelbannfbglgcaa

namespace Go.Proofs.Ytelbannfbglgcaa
open Go.RowKit

/-- The pages of a block. -/
def pagesOf (ps : List ByteArray) (B : Nat) : List ByteArray := (ps.drop (B * 6)).take 6
theorem pagesOf_len {ps : List ByteArray} {B : Nat} (hl : ps.length = 60) (hB : B < 10) : (pagesOf ps B).length = 6 := by simp [pagesOf]; omega
theorem pagesOf_at {ps : List ByteArray} {B j : Nat} (hj : j < 6) : (pagesOf ps B)[j]? = ps[B * 6 + j]? := by
  simp [pagesOf, hj, List.getElem?_drop]
theorem rd_pages {w : World} {ba oa : Nat} {ps : List ByteArray} (B : Nat) (h : Rd w (some ⟨ba, oa, none⟩) (vsString ps)) : Rd w (some ⟨ba, oa + B * 6, none⟩) (vsString (pagesOf ps B)) := by
  rcases h with h | ⟨b, off, ha, hc⟩
  · left; simp at h; subst h; simp [pagesOf]
  · simp at ha
    obtain ⟨rfl, rfl⟩ := ha
    refine .inr ⟨ba, oa + B * 6, rfl, fun i v hv => ?_⟩
    have hi : i < 6 := by
      rcases Nat.lt_or_ge i 6 with h' | h'
      · exact h'
      · have : (pagesOf ps B).length ≤ 6 := by simp [pagesOf]; omega
        rw [List.getElem?_map, List.getElem?_eq_none (by omega)] at hv; simp at hv
    rw [List.getElem?_map, pagesOf_at hi, ← List.getElem?_map] at hv
    have := hc (B * 6 + i) v hv
    rw [show oa + B * 6 + i = oa + (B * 6 + i) by omega]
    exact this

/-- The first i pages of a block are all clear just where so many are. -/
theorem clr_all (ps : List ByteArray) (B : Nat) : ∀ i, ((clr ps B i).1 = i ↔ ∀ j, j < i → ps[B * 6 + j]?.getD ByteArray.empty = ByteArray.empty) := by
  intro i
  induction i with
  | zero => simp [clr]
  | succ i ih =>
    have hb := clr_bd ps B i
    unfold clr
    split
    · rename_i h
      simp only []
      constructor
      · intro he j hj
        by_cases hji : j = i
        · rw [hji]; exact h
        · exact (ih.1 (by omega)) j (by omega)
      · intro hall
        have := ih.2 (fun j hj => hall j (by omega))
        omega
    · rename_i h
      simp only []
      constructor
      · intro he; omega
      · intro hall; exact absurd (hall i (by omega)) h
theorem free_iff {ps : List ByteArray} {B : Nat} (hl : ps.length = 60) (hB : B < 10) : (clr ps B 6).1 = 6 ↔ AllClr (pagesOf ps B) := by
  have := clr_all ps B 6
  rw [show ((6 : Nat) : Int) = 6 from rfl] at this
  rw [this]
  constructor
  · intro h x hx
    obtain ⟨j, hj⟩ := List.mem_iff_getElem?.1 hx
    have hj6 : j < 6 := by
      rcases Nat.lt_or_ge j 6 with h' | h'
      · exact h'
      · rw [List.getElem?_eq_none (by rw [pagesOf_len hl hB]; exact h')] at hj; cases hj
    rw [pagesOf_at hj6] at hj
    have := h j hj6
    rw [hj] at this
    exact this
  · intro h j hj
    have hlt : B * 6 + j < ps.length := by omega
    have : ps[B * 6 + j]? = some ps[B * 6 + j] := by simp [hlt]
    rw [this]
    refine h _ (List.mem_iff_getElem?.2 ⟨j, ?_⟩)
    rw [pagesOf_at hj, this]; rfl

/-- The free ones of some blocks. -/
noncomputable def freeL (ps : List ByteArray) (xs : List (Fin 10)) : List Int := (xs.filter (fun x => allClrB (pagesOf ps x.val))).map (fun x => ((x.val : Nat) : Int))
theorem freeL_hit {ps : List ByteArray} (xs : List (Fin 10)) {x : Fin 10} (h : allClrB (pagesOf ps x.val) = true) : freeL ps (xs ++ [x]) = freeL ps xs ++ [((x.val : Nat) : Int)] := by simp [freeL, h]
theorem freeL_miss {ps : List ByteArray} (xs : List (Fin 10)) {x : Fin 10} (h : allClrB (pagesOf ps x.val) = false) : freeL ps (xs ++ [x]) = freeL ps xs := by simp [freeL, h]
theorem freeL_len (ps : List ByteArray) (xs : List (Fin 10)) : (freeL ps xs).length ≤ xs.length := by
  unfold freeL; rw [List.length_map]; exact List.length_filter_le _ _
theorem freeL_blk {ps : List ByteArray} (hl : ps.length = 60) : ∀ k, k ≤ 10 → freeL ps (blk k) = freeB ps k := by
  intro k
  induction k with
  | zero => intro _; simp [freeL, blk, freeB]
  | succ k ih =>
    intro hk
    have hk' : k < 10 := by omega
    rw [blk_succ hk']
    by_cases h : AllClr (pagesOf ps k)
    · rw [freeL_hit _ (x := ⟨k, hk'⟩) (allClrB_true h), ih (by omega), freeB, if_pos ((free_iff hl hk').2 h)]
    · rw [freeL_miss _ (x := ⟨k, hk'⟩) (allClrB_false h), ih (by omega), freeB, if_neg (fun h' => h ((free_iff hl hk').1 h'))]

end Go.Proofs.Ytelbannfbglgcaa

namespace Go.Proofs.Ytelbannfbglgcaa
open Go.RowKit

/-- A page of a block is clear. -/
def Emp (ps : List ByteArray) (B j : Nat) : Prop := ps[B * 6 + j]?.getD ByteArray.empty = ByteArray.empty

theorem clr_zero (ps : List ByteArray) (B : Nat) : ∀ i, ((clr ps B i).1 = 0 ↔ ∀ j, j < i → ¬ Emp ps B j) := by
  intro i
  induction i with
  | zero => simp [clr]
  | succ i ih =>
    have hb := clr_bd ps B i
    unfold clr
    split
    · rename_i h
      simp only []
      constructor
      · intro he; omega
      · intro hall; exact absurd h (hall i (by omega))
    · rename_i h
      simp only []
      rw [ih]
      constructor
      · intro hall j hj
        by_cases hji : j = i
        · rw [hji]; exact h
        · exact hall j (by omega)
      · intro hall j hj; exact hall j (by omega)

theorem clr_tail (ps : List ByteArray) (B : Nat) : ∀ i, ∃ t : Nat, (clr ps B i).2 = t ∧ t ≤ i ∧ (∀ j, i - t ≤ j → j < i → Emp ps B j) ∧ (t < i → ¬ Emp ps B (i - t - 1)) ∧ ((clr ps B i).1 = t ↔ ∀ j, j < i - t → ¬ Emp ps B j) := by
  intro i
  induction i with
  | zero => exact ⟨0, by simp [clr], by omega, fun j h1 h2 => by omega, fun h => by omega, by simp [clr]⟩
  | succ i ih =>
    obtain ⟨t, h1, h2, h3, h4, h5⟩ := ih
    unfold clr
    split
    · rename_i h
      refine ⟨t + 1, by simp only []; omega, by omega, fun j hj1 hj2 => ?_, fun hlt => ?_, ?_⟩
      · by_cases hji : j = i
        · rw [hji]; exact h
        · exact h3 j (by omega) (by omega)
      · rw [show i + 1 - (t + 1) - 1 = i - t - 1 by omega]; exact h4 (by omega)
      · simp only []
        rw [show i + 1 - (t + 1) = i - t by omega, ← h5]
        omega
    · rename_i h
      refine ⟨0, rfl, by omega, fun j hj1 hj2 => by omega, fun _ => h, ?_⟩
      have := clr_zero ps B i
      simp only [Int.ofNat_zero, Nat.sub_zero] at *
      rw [this]
      constructor
      · intro hall j hj
        by_cases hji : j = i
        · rw [hji]; exact h
        · exact hall j (by omega)
      · intro hall j hj; exact hall j (by omega)

/-- A block that is begun: it has clear pages, and others, all clear ones at its end. -/
def hitP (ps : List ByteArray) (B : Nat) : Prop := 0 < (clr ps B 6).1 ∧ (clr ps B 6).1 < 6 ∧ (clr ps B 6).2 = (clr ps B 6).1

theorem pages_emp {ps : List ByteArray} {B j : Nat} (hl : ps.length = 60) (hB : B < 10) (hj : j < 6) : (pagesOf ps B)[j]? = some ByteArray.empty ↔ Emp ps B j := by
  rw [pagesOf_at hj]
  have hlt : B * 6 + j < ps.length := by omega
  have e : ps[B * 6 + j]? = some ps[B * 6 + j] := by simp [hlt]
  unfold Emp
  rw [e]
  simp

/-- The first clear page of a block that is begun. -/
theorem hit_of {ps : List ByteArray} {B i : Nat} (hi : 0 < i) (h6 : i < 6) (he : ∀ j, i ≤ j → j < 6 → Emp ps B j) (hn : ∀ j, j < i → ¬ Emp ps B j) : hitP ps B ∧ (B : Int) * 6 + 6 - (clr ps B 6).1 = (B : Int) * 6 + i := by
  obtain ⟨t, h1, h2, h3, h4, h5⟩ := clr_tail ps B 6
  have ht : t = 6 - i := by
    rcases Nat.lt_trichotomy t (6 - i) with h | h | h
    · exact absurd (he (6 - t - 1) (by omega) (by omega)) (h4 (by omega))
    · exact h
    · exact absurd (h3 (i - 1) (by omega) (by omega)) (hn (i - 1) (by omega))
  have hN : (clr ps B 6).1 = t := h5.2 (fun j hj => hn j (by omega))
  refine ⟨⟨?_, ?_, ?_⟩, ?_⟩ <;> omega
theorem hit_not {ps : List ByteArray} {B : Nat} (h : hitP ps B) : ∃ i : Nat, 0 < i ∧ i < 6 ∧ (∀ j, i ≤ j → j < 6 → Emp ps B j) ∧ ∀ j, j < i → ¬ Emp ps B j := by
  obtain ⟨t, h1, h2, h3, h4, h5⟩ := clr_tail ps B 6
  obtain ⟨k1, k2, k3⟩ := h
  refine ⟨6 - t, by omega, by omega, fun j hj1 hj2 => h3 j (by omega) hj2, h5.1 (by omega)⟩

/-- What the program sees of a block: where its first clear page is, and whether all behind it are clear. -/
theorem hit_yes {ps : List ByteArray} {B i : Nat} (hl : ps.length = 60) (hB : B < 10) (hi : 0 < i) (hf : FirstAt (pagesOf ps B) ByteArray.empty (i : Int)) (hc : AllClr ((pagesOf ps B).drop i)) : hitP ps B ∧ (B : Int) * 6 + 6 - (clr ps B 6).1 = (B : Int) * 6 + i := by
  rcases hf with ⟨h, -⟩ | ⟨i', h, hat, hnot⟩
  · omega
  obtain rfl : i' = i := by omega
  have hi6 : i' < 6 := by
    rcases Nat.lt_or_ge i' 6 with h' | h'
    · exact h'
    · rw [List.getElem?_eq_none (by rw [pagesOf_len hl hB]; exact h')] at hat; cases hat
  refine hit_of hi hi6 (fun j hj1 hj2 => ?_) (fun j hj he => ?_)
  · have hm : (pagesOf ps B)[j]? = some ((pagesOf ps B)[j]?.getD ByteArray.empty) := by
      rw [pagesOf_at hj2]; simp [show B * 6 + j < ps.length by omega]
    have : (pagesOf ps B)[j]?.getD ByteArray.empty = ByteArray.empty := by
      refine hc _ (List.mem_iff_getElem?.2 ⟨j - i', ?_⟩)
      rw [List.getElem?_drop, show i' + (j - i') = j by omega]; exact hm
    rw [this] at hm
    exact (pages_emp hl hB hj2).1 hm
  · refine hnot (List.mem_iff_getElem?.2 ⟨j, ?_⟩)
    rw [List.getElem?_take_of_lt hj]
    exact (pages_emp hl hB (by omega)).2 he
theorem hit_no {ps : List ByteArray} {B : Nat} {r : Int} (hl : ps.length = 60) (hB : B < 10) (hf : FirstAt (pagesOf ps B) ByteArray.empty r) (hc : r ≤ 0 ∨ ¬ AllClr ((pagesOf ps B).drop r.toNat)) : ¬ hitP ps B := by
  intro hh
  obtain ⟨i, hi, hi6, he, hn⟩ := hit_not hh
  have hat : (pagesOf ps B)[i]? = some ByteArray.empty := (pages_emp hl hB hi6).2 (he i (Nat.le_refl _) hi6)
  rcases hf with ⟨rfl, hno⟩ | ⟨k, rfl, hk, hknot⟩
  · exact hno (List.mem_of_getElem? hat)
  · have hk6 : k < 6 := by
      rcases Nat.lt_or_ge k 6 with h' | h'
      · exact h'
      · rw [List.getElem?_eq_none (by rw [pagesOf_len hl hB]; exact h')] at hk; cases hk
    have hki : k = i := by
      rcases Nat.lt_trichotomy k i with h | h | h
      · exact absurd ((pages_emp hl hB hk6).1 hk) (hn k h)
      · exact h
      · exact absurd (List.mem_iff_getElem?.2 ⟨i, by rw [List.getElem?_take_of_lt h]; exact hat⟩) hknot
    subst hki
    rcases hc with hc | hc
    · omega
    · refine hc (fun x hx => ?_)
      rw [Int.toNat_natCast] at hx
      obtain ⟨j, hj⟩ := List.mem_iff_getElem?.1 hx
      rw [List.getElem?_drop] at hj
      have hkj : k + j < 6 := by
        rcases Nat.lt_or_ge (k + j) 6 with h' | h'
        · exact h'
        · rw [List.getElem?_eq_none (by rw [pagesOf_len hl hB]; exact h')] at hj; cases hj
      have := (pages_emp hl hB hkj).2 (he (k + j) (by omega) hkj)
      rw [this] at hj
      exact (Option.some.inj hj).symm

/-- The best free block of the first k. -/
noncomputable def bestU (ps : List ByteArray) (ws : List Int) : Nat → Int
  | 0 => -1
  | k + 1 => if (clr ps k 6).1 = 6 ∧ (bestU ps ws k < 0 ∨ ws[k]?.getD 0 < ws[(bestU ps ws k).toNat]?.getD 0) then (k : Int) else bestU ps ws k

theorem nxt_hit {ps : List ByteArray} {ws : List Int} {B : Nat} (hh : hitP ps B) : ∀ (f b : Nat) (best : Int), b ≤ B → B < b + f → (∀ b', b ≤ b' → b' < B → ¬ hitP ps b') → nxt ps ws f b best = (B : Int) * 6 + 6 - (clr ps B 6).1 := by
  intro f
  induction f with
  | zero => intro b best h1 h2; omega
  | succ f ih =>
    intro b best h1 h2 hno
    by_cases hb : b = B
    · subst hb
      exact nxt_here rfl rfl hh
    · have hnb := hno b (Nat.le_refl _) (by omega)
      by_cases h2' : (clr ps b 6).1 = 6 ∧ (best < 0 ∨ ws[b]?.getD 0 < ws[best.toNat]?.getD 0)
      · rw [nxt_take rfl rfl hnb h2']
        exact ih (b + 1) _ (by omega) (by omega) (fun b' h h' => hno b' (by omega) h')
      · rw [nxt_pass rfl rfl hnb h2']
        exact ih (b + 1) _ (by omega) (by omega) (fun b' h h' => hno b' (by omega) h')

theorem nxt_none {ps : List ByteArray} {ws : List Int} (hno : ∀ b, b < 10 → ¬ hitP ps b) : ∀ (f k : Nat), k + f = 10 → nxt ps ws f k (bestU ps ws k) = if bestU ps ws 10 < 0 then -1 else bestU ps ws 10 * 6 := by
  intro f
  induction f with
  | zero => intro k hk; obtain rfl : k = 10 := by omega
            rfl
  | succ f ih =>
    intro k hk
    have hnb := hno k (by omega)
    by_cases h2 : (clr ps k 6).1 = 6 ∧ (bestU ps ws k < 0 ∨ ws[k]?.getD 0 < ws[(bestU ps ws k).toNat]?.getD 0)
    · rw [nxt_take rfl rfl hnb h2, ← ih (k + 1) (by omega), bestU, if_pos h2]
    · rw [nxt_pass rfl rfl hnb h2, ← ih (k + 1) (by omega), bestU, if_neg h2]

/-- One more free block. -/
def minS (ws : List Int) (m x : Int) : Int := if m < 0 ∨ ws[x.toNat]?.getD 0 < ws[m.toNat]?.getD 0 then x else m
def minF (ws : List Int) (L : List Int) : Int := L.foldl (minS ws) (-1)
theorem minF_snoc (ws : List Int) (L : List Int) (x : Int) : minF ws (L ++ [x]) = minS ws (minF ws L) x := by simp [minF]
theorem bestU_min (ps : List ByteArray) (ws : List Int) : ∀ k, bestU ps ws k = minF ws (freeB ps k) := by
  intro k
  induction k with
  | zero => rfl
  | succ k ih =>
    unfold bestU freeB
    by_cases h : (clr ps k 6).1 = 6
    · rw [if_pos h, minF_snoc, ← ih]
      unfold minS
      simp only [h, true_and, Int.toNat_natCast]
    · rw [if_neg h, if_neg (fun h' => h h'.1), ih]
theorem freeB_bd (ps : List ByteArray) : ∀ k, ∀ x ∈ freeB ps k, 0 ≤ x ∧ x < k := by
  intro k
  induction k with
  | zero => simp [freeB]
  | succ k ih =>
    intro x hx
    unfold freeB at hx
    split at hx
    · rw [List.mem_append] at hx
      rcases hx with hx | hx
      · have := ih x hx; omega
      · simp at hx; omega
    · have := ih x hx; omega
theorem minF_take {ws L : List Int} {k : Nat} {x : Int} (h : L[k]? = some x) : minF ws (L.take (k + 1)) = minS ws (minF ws (L.take k)) x := by
  rw [List.take_add_one, h]
  exact minF_snoc ws _ x
theorem minF_mem {ws : List Int} : ∀ (L : List Int), (∀ x ∈ L, 0 ≤ x ∧ x < 10) → L ≠ [] → 0 ≤ minF ws L ∧ minF ws L < 10 := by
  intro L hL hne
  have key : ∀ (L : List Int) (m : Int), (∀ x ∈ L, 0 ≤ x ∧ x < 10) → ((0 ≤ m ∧ m < 10) ∨ L ≠ []) → (m < 0 ∨ (0 ≤ m ∧ m < 10)) → 0 ≤ L.foldl (minS ws) m ∧ L.foldl (minS ws) m < 10 := by
    intro L
    induction L with
    | nil => intro m _ h _; rcases h with h | h; exact h; exact absurd rfl h
    | cons y ys ih =>
      intro m hy h hm
      rw [List.foldl_cons]
      have hyb := hy y (by simp)
      have : 0 ≤ minS ws m y ∧ minS ws m y < 10 := by
        unfold minS
        split
        · exact hyb
        · rename_i hh
          rcases hm with hm | hm
          · exact absurd (Or.inl hm) hh
          · exact hm
      exact ih _ (fun x hx => hy x (by simp [hx])) (.inl this) (.inr this)
  exact key L (-1) hL (.inr hne) (.inl (by omega))

theorem nextP_hit {ps : List ByteArray} {ws : List Int} {B : Nat} (hB : B < 10) (hh : hitP ps B) (hno : ∀ b, b < B → ¬ hitP ps b) : nextP ps ws = (B : Int) * 6 + 6 - (clr ps B 6).1 :=
  nxt_hit hh 10 0 (-1) (by omega) (by omega) (fun b' _ h => hno b' h)
theorem nextP_none {ps : List ByteArray} {ws : List Int} (hno : ∀ b, b < 10 → ¬ hitP ps b) : nextP ps ws = if freeB ps 10 = [] then -1 else minF ws (freeB ps 10) * 6 := by
  have := nxt_none (ws := ws) hno 10 0 rfl
  rw [bestU_min ps ws 10] at this
  show nxt ps ws 10 0 (bestU ps ws 0) = _
  rw [this]
  by_cases h : freeB ps 10 = []
  · rw [if_pos h, h]; rfl
  · have := minF_mem (ws := ws) (freeB ps 10) (fun x hx => by have := freeB_bd ps 10 x hx; omega) h
    rw [if_neg h, if_neg (by omega)]

end Go.Proofs.Ytelbannfbglgcaa
