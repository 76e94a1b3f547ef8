/-
  Contracts of the laws' helpers over chips: toChip, eqChip, markChip, heldChip, szChip.
-/
import Derived.Test.YtmolhhljodlhaaaMarks
import Derived.Laws.ResultCell
namespace Go.Proofs.Ytmolhhljodlhaaa
open Go.RowKit

/-- A chip whose two rows can be read. -/
def ChipRd (w : World) (v : Value) (ps : List ByteArray) (ws : List Int) : Prop :=
  ∃ a c b d, v = .agg #[.slice a ps.length c, .slice b ws.length d] ∧ Rd w a (vsString ps) ∧ Rd w b (vsInt ws)
/-- A chip whose two rows are the call's own, in two blocks. -/
def ChipOwn (w : World) (base : Nat) (v : Value) (ps : List ByteArray) (ws : List Int) : Prop :=
  ∃ v1 v2, v = .agg #[v1, v2] ∧ w.ownsRow base 9 1 v1 ps.length (vsString ps) ∧ w.ownsRow base 3 1 v2 ws.length (vsInt ws) ∧ (∀ k, v1.ownBlock = some k → v2.ownBlock ≠ some k)

/-- Nothing old has turned but in the listed blocks. -/
structure OnlyIn (w w' : World) (L : List (Option Nat)) : Prop where
  os : w'.os = w.os
  tape : w'.tape = w.tape
  output : w'.output = w.output
  size : w.heap.size ≤ w'.heap.size
  block : ∀ i, i < w.heap.size → some i ∉ L → w'.heap[i]? = w.heap[i]?
theorem OnlyIn.of_grown {w w' : World} {r : Option Nat} (h : w.grownBy w' r) : OnlyIn w w' [r] := ⟨h.os, h.tape, h.output, h.size, fun i hi hn => h.block i hi (by simpa using hn)⟩
theorem OnlyIn.of_below {w w' : World} (h : Below w.heap.size w w') (L : List (Option Nat)) : OnlyIn w w' L := ⟨h.os, h.tape, h.output, h.size, fun i hi _ => h.block i hi⟩
theorem OnlyIn.trans {w w1 w2 : World} {L M : List (Option Nat)} (h : OnlyIn w w1 L) (k : OnlyIn w1 w2 M) : OnlyIn w w2 (L ++ M) :=
  ⟨k.os.trans h.os, k.tape.trans h.tape, k.output.trans h.output, Nat.le_trans h.size k.size, fun i hi hn => by
    simp only [List.mem_append, not_or] at hn
    exact (k.block i (Nat.lt_of_lt_of_le hi h.size) hn.2).trans (h.block i hi hn.1)⟩
theorem OnlyIn.below {w w' : World} {L : List (Option Nat)} {base : Nat} (h : OnlyIn w w' L) (hB : base ≤ w.heap.size) (hL : ∀ k, some k ∈ L → base ≤ k) : Below base w w' :=
  ⟨h.os, h.tape, h.output, h.size, fun i hi => h.block i (by omega) (fun hm => by have := hL i hm; omega)⟩
theorem OnlyIn.owns {w w' : World} {L : List (Option Nat)} {base : Nat} {e : TypeId} {size : Nat} {v : Value} {n : Nat} {xs : List Value} (ho : w.ownsRow base e size v n xs) (h : OnlyIn w w' L) (hn : ∀ k, v.ownBlock = some k → some k ∉ L) : w'.ownsRow base e size v n xs := by
  obtain ⟨h1, h2⟩ := id ho
  refine ⟨h1, ?_⟩
  rcases h2 with h2 | ⟨g, cap, cur, hv, hg, hh, r⟩
  · exact .inl h2
  · refine .inr ⟨g, cap, cur, hv, hg, ?_, r⟩
    have hlt : g < w.heap.size := (ho.lt g (by rw [hv]; rfl)).2
    rw [h.block g hlt (hn g (by rw [hv]; rfl))]
    exact hh

set_option maxHeartbeats 800000 in
theorem szStringS_any (a : Option Addr) (ps : List ByteArray) (c : Nat) (l : Nat) (w : World) (hp : Rd w a (vsString ps)) (hm : ps.length ≤ maxLen) (hs : ∀ s ∈ ps, s.size ≤ maxLen) (hl : l ≤ 1048576) :
    Calls Try.prog 27 #[.slice a ps.length c, .int .i64 l] w fun e w' => (∃ r : Int, e = .returned (.int .i64 r) ∧ -1 ≤ r ∧ r ≤ l ∧ (0 ≤ r → ps.length ≤ l ∧ ∀ s ∈ ps, s.size ≤ l)) ∧ w' = w := by
  unfold maxLen at hm hs
  by_cases hbig : (l : Int) - ps.length < 0
  · clear hp
    go_enter Try.func27, Try.ntmps27
    go_wp2
    go_ret
    exact ⟨⟨-1, rfl, by omega, by omega, by omega⟩, rfl⟩
  · go_enter Try.func27, Try.ntmps27
    go_wp2
    go_loop [1, 5] (fun q i => ∃ (k : Nat) (r : Int), k ≤ ps.length ∧ i = .int .i64 k ∧ q = .int .i64 r ∧ 0 ≤ r ∧ r ≤ l ∧ Hid (∀ s ∈ ps.take k, s.size ≤ l)) (fun _ i => ps.length - (intOf i).toNat)
    case atStart => exact ⟨0, _, Nat.zero_le _, rfl, rfl, by omega, by omega, by show ∀ _, _; simp⟩
    case round =>
      obtain ⟨k, r, hk, rfl, rfl, hr0, hr1, hall⟩ := hrel
      by_cases hlt : k < ps.length
      · obtain ⟨b, off, x, rfl, hck, HX⟩ := rdString_at hp hlt
        have hx : x.size ≤ 9223372036854775807 := by
          have := hs x (List.mem_of_getElem? HX.out)
          omega
        clear hp
        by_cases hneg : r - (x.size : Int) < 0
        · go_wp2
          go_ret
          exact ⟨⟨-1, rfl, by omega, by omega, by omega⟩, rfl⟩
        · have hall' : Hid (∀ s ∈ ps.take (k + 1), s.size ≤ l) := by
            show ∀ _, _
            intro s hs'
            rw [List.take_add_one, HX.out] at hs'
            simp only [Option.toList_some, List.mem_append, List.mem_singleton] at hs'
            rcases hs' with h | rfl
            · exact hall.out s h
            · omega
          go_wp2
          go_round
          case rel => exact ⟨k + 1, _, by omega, by go_num, rfl, by omega, by omega, hall'⟩
          case measure => simp [intOf]; omega
      · have hall' : Hid (∀ s ∈ ps, s.size ≤ l) := by
          have := hall.out
          rw [List.take_of_length_le (by omega)] at this
          exact this
        clear hp
        go_wp2
        go_ret
        exact ⟨⟨r, rfl, by omega, hr1, fun _ => ⟨by omega, hall'.out⟩⟩, rfl⟩

theorem szIntS_any (a : Option Addr) (n c : Nat) (l : Nat) (w : World) (hm : n ≤ maxLen) (hl : l ≤ 1048576) :
    Calls Try.prog 28 #[.slice a n c, .int .i64 l] w fun e w' => (∃ r : Int, e = .returned (.int .i64 r) ∧ -1 ≤ r ∧ r ≤ l ∧ (0 ≤ r → n ≤ l)) ∧ w' = w := by
  unfold maxLen at hm
  by_cases hbig : (l : Int) - n < 0
  · go_enter Try.func28, Try.ntmps28
    go_wp2
    go_ret
    exact ⟨⟨-1, rfl, by omega, by omega, by omega⟩, rfl⟩
  · go_enter Try.func28, Try.ntmps28
    go_wp2
    go_ret
    exact ⟨⟨_, rfl, by omega, by omega, fun _ => by omega⟩, rfl⟩

end Go.Proofs.Ytmolhhljodlhaaa
