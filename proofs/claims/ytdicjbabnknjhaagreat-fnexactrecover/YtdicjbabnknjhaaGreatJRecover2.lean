/-
  A chip that came in as an argument: its two rows, as lists of texts and numbers.
  Contract of the specification's l1In.
  Contracts of the specification's chips: ChipOk, l2Copy.
-/
import Derived.Test.YtdicjbabnknjhaaGreatJRecover1
import Derived.Lib.SmallJoins
import Derived.SliceStrings
import Derived.Test.YtdicjbabnknjhaaGreatChecked
import Derived.Test.YtdicjbabnknjhaaGreatJRecover0
import Derived.Deep.RegionLaw
namespace Go.Proofs.YtdicjbabnknjhaaGreat
open Go.RowKit Go.ChangeShapes Go.WideShapes Go.ChangeAt Go.Joins
set_option maxRecDepth 100000

/-- A slice of texts that came in. -/
theorem rdStrings_of {H : Type} {enc : TypeId × Value → H} {W : World} {fuel : Nat} {v : Value} {y : DataW H × List MemPlace} (h : DataW.trod enc Tryz.prog W 0 (fun _ => true) true fuel 22 [v] = some y) :
    ∃ a ps c, v = .slice a (List.length ps) c ∧ Rd W a (vsString ps) ∧ ps.length ≤ maxLen ∧ ∀ s ∈ ps, s.size ≤ maxLen := by
  rcases open_strings Tryz.underlying22 Tryz.underlying9 (by kernel_rfl) h with ⟨hcs, _⟩ | ⟨x, l, c, ss, hcs, _, hl, hm, hz, _, hcell, hws⟩
  · simp at hcs; subst hcs
    exact ⟨none, [], 0, rfl, .inl rfl, by simp, by simp⟩
  · simp at hcs; subst hcs
    simp at hz
    have hlen : (ss.take l).length = l := by simp; omega
    refine ⟨some x, ss.take l, c, by rw [hlen], ?_, by omega, fun s hs => hws s (List.mem_of_mem_take hs)⟩
    by_cases h0 : l = 0
    · subst h0; left; simp
    · obtain ⟨b, off, spot⟩ := x
      have hspot : spot = none := by
        have := hcell 0 (by omega)
        simpa [Addr.add] using World.cell?_spot this
      subst hspot
      refine .inr ⟨b, off, rfl, fun i v hv => ?_⟩
      have hi : i < l := by
        rcases Nat.lt_or_ge i l with h' | h'
        · exact h'
        · simp [List.getElem?_take, show ¬ i < l by omega] at hv
      have hiz : i < ss.length := by omega
      have e := hcell i hiz
      have ea : (⟨b, off, none⟩ : Addr).add i = ⟨b, off + i, none⟩ := by
        by_cases h0 : i = 0
        · subst h0; simp [Addr.add]
        · simp [Addr.add, h0]
      rw [ea] at e
      simp [hi, hiz] at hv
      subst hv
      simpa [hiz] using e

/-- A slice of ints that came in. -/
theorem rdInts_of {H : Type} {enc : TypeId × Value → H} {W : World} {fuel : Nat} {v : Value} {y : DataW H × List MemPlace} (h : DataW.trod enc Tryz.prog W 0 (fun _ => true) true fuel 23 [v] = some y) :
    ∃ a ws c, v = .slice a (List.length ws) c ∧ Rd W a (vsInt ws) ∧ ws.length ≤ maxLen := by
  rcases open_ints Tryz.underlying23 Tryz.underlying3 (by kernel_rfl) h with ⟨hcs, _⟩ | ⟨x, l, c, ss, hcs, _, hl, hm, hz, _, hcell, hws⟩
  · simp at hcs; subst hcs
    exact ⟨none, [], 0, rfl, .inl rfl, by simp⟩
  · simp at hcs; subst hcs
    simp at hz
    have hlen : (ss.take l).length = l := by simp; omega
    refine ⟨some x, ss.take l, c, by rw [hlen], ?_, by omega⟩
    by_cases h0 : l = 0
    · subst h0; left; simp
    · obtain ⟨b, off, spot⟩ := x
      have hspot : spot = none := by
        have := hcell 0 (by omega)
        simpa [Addr.add] using World.cell?_spot this
      subst hspot
      refine .inr ⟨b, off, rfl, fun i v hv => ?_⟩
      have hi : i < l := by
        rcases Nat.lt_or_ge i l with h' | h'
        · exact h'
        · simp [List.getElem?_take, show ¬ i < l by omega] at hv
      have hiz : i < ss.length := by omega
      have e := hcell i hiz
      have ea : (⟨b, off, none⟩ : Addr).add i = ⟨b, off + i, none⟩ := by
        by_cases h0 : i = 0
        · subst h0; simp [Addr.add]
        · simp [Addr.add, h0]
      rw [ea] at e
      simp [hi, hiz] at hv
      subst hv
      simpa [hiz] using e

/-- A chip that came in. -/
theorem chip_of {H : Type} {enc : TypeId × Value → H} {W : World} {r : Reach} {base : Nat} {v : Value} {d : DataW H} {p : List MemPlace} (hv : Value.okWide Tryz.prog W r base 25 v) (h : DataW.Trod enc Tryz.prog W 0 (fun _ => true) true 25 v d p) :
    ∃ a ps c b ws e, v = .agg #[.slice a (List.length ps) c, .slice b (List.length ws) e] ∧ Rd W a (vsString ps) ∧ Rd W b (vsInt ws) ∧ ps.length ≤ maxLen ∧ ws.length ≤ maxLen ∧ ∀ s ∈ ps, s.size ≤ maxLen := by
  obtain ⟨c0, c1, y0, y1, m, rfl, rfl, rfl, hy0, hy1⟩ := open_agg2 Tryz.underlying25 (by kernel_rfl) (by kernel_rfl) hv h
  obtain ⟨a, ps, c, rfl, hp, hl, hs⟩ := rdStrings_of hy0
  obtain ⟨b, ws, e, rfl, hw, hm⟩ := rdInts_of hy1
  exact ⟨a, ps, c, b, ws, e, rfl, hp, hw, hl, hm, hs⟩

/-- A chip of the call's own, its value written out. -/
theorem own_open {w : World} {base : Nat} {v : Value} {ps : List ByteArray} {ws : List Int} (h : ChipOwn w base v ps ws) :
    ∃ a c b d, v = .agg #[.slice a ps.length c, .slice b ws.length d] ∧ w.ownsRow base 9 1 (.slice a ps.length c) ps.length (vsString ps) ∧ w.ownsRow base 3 1 (.slice b ws.length d) ws.length (vsInt ws) ∧
      (∀ k, (Value.slice a ps.length c).ownBlock = some k → (Value.slice b ws.length d).ownBlock ≠ some k) := by
  obtain ⟨v1, v2, rfl, h1, h2, hne⟩ := h
  have f : ∀ {e : TypeId} {v : Value} {n : Nat} {xs : List Value}, w.ownsRow base e 1 v n xs → ∃ a c, v = .slice a n c := by
    intro e v n xs h
    rcases h with ⟨_, ⟨rfl, rfl⟩ | ⟨g, cap, cur, rfl, -⟩⟩
    · exact ⟨_, _, rfl⟩
    · exact ⟨_, _, rfl⟩
  obtain ⟨a, c, rfl⟩ := f h1
  obtain ⟨b, d, rfl⟩ := f h2
  exact ⟨a, c, b, d, rfl, h1, h2, hne⟩

theorem rd_of_own {w : World} {base : Nat} {e : TypeId} {a : Option Addr} {n c : Nat} {xs : List Value} (h : w.ownsRow base e 1 (.slice a n c) n xs) : Rd w a xs := by
  rcases id h with ⟨hl, ⟨_, rfl⟩ | ⟨g, cap, cur, he, -⟩⟩
  · left; simpa using hl
  · simp at he; obtain ⟨rfl, rfl⟩ := he; exact Rd.of_owns h

theorem eqChip_same (a b a' b' : Option Addr) (ps : List ByteArray) (ws : List Int) (c d c' d' : Nat) (w : World) (hp : Rd w a (vsString ps)) (hw : Rd w b (vsInt ws)) (hp' : Rd w a' (vsString ps)) (hw' : Rd w b' (vsInt ws)) (hl : ps.length ≤ 1048576) (hm : ws.length ≤ 1048576) :
    Calls Tryz.prog 39 #[.agg #[.slice a ps.length c, .slice b ws.length d], .agg #[.slice a' ps.length c', .slice b' ws.length d']] w fun e w' => e = .returned (.bool true) ∧ Below w.heap.size w w' := by
  refine (eqChip_any a b a' b' ps ps ws ws c d c' d' w hp hw hp' hw' hl hm hl hm).mono ?_
  rintro e w' ⟨rfl, h⟩
  exact ⟨ret_bool (by simp), h⟩

end Go.Proofs.YtdicjbabnknjhaaGreat

namespace Go.Proofs.YtdicjbabnknjhaaGreat
open Go.RowKit

theorem in_any (x lo hi : Int) (w : World) : Calls Tryz.prog 80 #[.int .i64 x, .int .i64 lo, .int .i64 hi] w fun e w' => e = .returned (.bool (decide (lo ≤ x ∧ x ≤ hi))) ∧ w' = w := by
  by_cases h1 : lo ≤ x
  · by_cases h2 : x ≤ hi
    · go_enter Tryz.func80, Tryz.ntmps80
      go_wp2
      go_ret
      exact ⟨ret_bool (by simp [h1, h2]), rfl⟩
    · go_enter Tryz.func80, Tryz.ntmps80
      go_wp2
      go_ret
      exact ⟨ret_bool (by simp; omega), rfl⟩
  · go_enter Tryz.func80, Tryz.ntmps80
    go_wp2
    go_ret
    exact ⟨ret_bool (by simp; omega), rfl⟩

end Go.Proofs.YtdicjbabnknjhaaGreat

namespace Go.Proofs.YtdicjbabnknjhaaGreat
open Go.RowKit
attribute [local go_sem ↓] Go.wp_at_zero Go.wp_at_succ

/-- A chip is right. -/
def chipOkP (ps : List ByteArray) (ws : List Int) : Prop := ps.length = 60 ∧ ws.length = 10 ∧ (∀ s ∈ ps, s.size ≤ 800) ∧ ∀ x ∈ ws, 0 ≤ x ∧ x ≤ 1000000000
/-- The same, as a flag that the walk does not open. -/
def chipOkB (ps : List ByteArray) (ws : List Int) : Bool := decide (ps.length = 60) && decide (ws.length = 10) && ps.all (fun s => decide (s.size ≤ 800)) && ws.all (fun x => decide (0 ≤ x ∧ x ≤ 1000000000))
theorem chipOkB_iff {ps : List ByteArray} {ws : List Int} : chipOkB ps ws = true ↔ chipOkP ps ws := by
  simp [chipOkB, chipOkP, and_assoc]
theorem chipOkB_true {ps : List ByteArray} {ws : List Int} (h : chipOkP ps ws) : chipOkB ps ws = true := chipOkB_iff.2 h
theorem chipOkB_false {ps : List ByteArray} {ws : List Int} (h : ¬ chipOkP ps ws) : chipOkB ps ws = false := by
  cases hb : chipOkB ps ws with
  | false => rfl
  | true => exact absurd (chipOkB_iff.1 hb) h

set_option maxHeartbeats 1600000 in
theorem specChipOk_any (a b : Option Addr) (ps : List ByteArray) (ws : List Int) (c d : Nat) (w : World) (hp : Rd w a (vsString ps)) (hw : Rd w b (vsInt ws)) (hl : ps.length ≤ 1048576) (hm : ws.length ≤ 1048576) (hs : ∀ s ∈ ps, s.size ≤ 1048576) :
    Calls Tryz.prog 52 #[.agg #[.slice a ps.length c, .slice b ws.length d]] w fun e w' => e = .returned (.bool (chipOkB ps ws)) ∧ Below w.heap.size w w' := by
  obtain ⟨X, hX⟩ : ∃ X, X = Obj.cells #[.slice a ps.length c, .slice b ws.length d] 32 := ⟨_, rfl⟩
  have hbW : Below w.heap.size w (w.alloc X) := (Below.refl _ _).alloc (Nat.le_refl _) _
  have hp' := hp.below hbW
  have hw' := hw.below hbW
  clear hp hw
  subst hX
  by_cases hn : ps.length = 60 ∧ ws.length = 10
  · have t1 : ((ps.length : Int) != 60) = false := by simp; omega
    have t2 : ((ws.length : Int) != 10) = false := by simp; omega
    have hn1 : ps.length ≤ 60 := by omega
    have HN : Hid (ps.length = 60 ∧ ws.length = 10) := hn
    clear hn
    go_enter Tryz.func52, Tryz.ntmps52
    go_wp2
    go_loop [3] (fun i => ∃ k : Nat, k ≤ ps.length ∧ i = .int .i64 k ∧ Hid (∀ s ∈ ps.take k, s.size ≤ 800)) (fun i => ps.length - (intOf i).toNat)
    case atStart => exact ⟨0, Nat.zero_le _, rfl, by show ∀ _, _; simp⟩
    case round =>
      obtain ⟨k, hk, rfl, hall⟩ := hrel
      by_cases hlt : k < ps.length
      · obtain ⟨b1, o1, x, rfl, hck, HX⟩ := rdString_at hp' hlt
        have hx := hs x (List.mem_of_getElem? HX.out)
        clear hp' hw'
        by_cases hbig : (800 : Int) < (x.size : Int)
        · have hf : Hid (chipOkB ps ws = false) := chipOkB_false (fun h => by have := h.2.2.1 x (List.mem_of_getElem? HX.out); omega)
          clear hs
          go_wp2
          go_ret
          exact ⟨ret_bool hf.out.symm, hbW⟩
        · have hall' : Hid (∀ s ∈ ps.take (k + 1), s.size ≤ 800) := by
            show ∀ _, _
            intro s hs'
            rw [List.take_add_one, HX.out] at hs'
            simp only [Option.toList_some, List.mem_append, List.mem_singleton] at hs'
            rcases hs' with h | rfl
            · exact hall.out s h
            · omega
          clear hs
          go_wp2
          go_round
          case rel => exact ⟨k + 1, by omega, by go_num, hall'⟩
          case measure => simp [intOf]; omega
      · have hall' : Hid (∀ s ∈ ps, s.size ≤ 800) := by
          have := hall.out
          rw [List.take_of_length_le (by omega)] at this
          exact this
        clear hs hp' hall
        go_wp2
        go_loop [4] (fun i => ∃ k : Nat, k ≤ ws.length ∧ i = .int .i64 k ∧ Hid (∀ x ∈ ws.take k, 0 ≤ x ∧ x ≤ 1000000000)) (fun i => ws.length - (intOf i).toNat)
        case atStart => exact ⟨0, Nat.zero_le _, rfl, by show ∀ _, _; simp⟩
        case round =>
          obtain ⟨j, hj, rfl, hallw⟩ := hrel
          by_cases hlj : j < ws.length
          · obtain ⟨b2, o2, x, rfl, hck, HX⟩ := rdInt_at hw' hlj
            clear hw'
            by_cases hin : 0 ≤ x ∧ x ≤ 1000000000
            · have hd : decide (0 ≤ x ∧ x ≤ 1000000000) = true := by simp [hin]
              have hallw' : Hid (∀ y ∈ ws.take (j + 1), 0 ≤ y ∧ y ≤ 1000000000) := by
                show ∀ _, _
                intro s hs'
                rw [List.take_add_one, HX.out] at hs'
                simp only [Option.toList_some, List.mem_append, List.mem_singleton] at hs'
                rcases hs' with h | rfl
                · exact hallw.out s h
                · exact hin
              clear hin
              go_wp2_with (go_at_call 80; go_must (refine (in_any _ _ _ _).mono ?_); rw [hd]; rintro e w' ⟨rfl, rfl⟩)
              go_round
              case rel => exact ⟨j + 1, by omega, by go_num, hallw'⟩
              case measure => simp [intOf]; omega
            · have hd : decide (0 ≤ x ∧ x ≤ 1000000000) = false := by simp [hin]
              have hf : Hid (chipOkB ps ws = false) := chipOkB_false (fun h => hin (h.2.2.2 x (List.mem_of_getElem? HX.out)))
              clear hin
              go_wp2_with (go_at_call 80; go_must (refine (in_any _ _ _ _).mono ?_); rw [hd]; rintro e w' ⟨rfl, rfl⟩)
              go_ret
              exact ⟨ret_bool hf.out.symm, hbW⟩
          · have ht : Hid (chipOkB ps ws = true) := chipOkB_true ⟨HN.out.1, HN.out.2, hall'.out, by
              have := hallw.out
              rw [List.take_of_length_le (by omega)] at this
              exact this⟩
            clear hw'
            go_wp2
            go_ret
            exact ⟨ret_bool ht.out.symm, hbW⟩
  · have hf : Hid (chipOkB ps ws = false) := chipOkB_false (fun h => hn ⟨h.1, h.2.1⟩)
    clear hp' hw' hs
    by_cases h60 : ps.length = 60
    · have t1 : ((ps.length : Int) != 60) = false := by simp; omega
      have t2 : ((ws.length : Int) != 10) = true := by simp; omega
      clear hn h60
      go_enter Tryz.func52, Tryz.ntmps52
      go_wp2
      go_ret
      exact ⟨ret_bool hf.out.symm, hbW⟩
    · have t1 : ((ps.length : Int) != 60) = true := by simp; omega
      clear hn h60
      go_enter Tryz.func52, Tryz.ntmps52
      go_wp2
      go_ret
      exact ⟨ret_bool hf.out.symm, hbW⟩

end Go.Proofs.YtdicjbabnknjhaaGreat
