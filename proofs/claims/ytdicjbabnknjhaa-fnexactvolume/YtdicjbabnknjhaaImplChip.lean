/-
  Contract of the program's ChipOk.
-/
import Derived.Test.YtdicjbabnknjhaaSpecChip
namespace Go.Proofs.Ytdicjbabnknjhaa
open Go.RowKit
attribute [local go_sem ↓] Go.wp_at_zero Go.wp_at_succ

set_option maxHeartbeats 1600000 in
theorem implChipOk_any (a b : Option Addr) (ps : List ByteArray) (ws : List Int) (c d : Nat) (w : World) (hp : Rd w a (vsString ps)) (hw : Rd w b (vsInt ws)) (hl : ps.length ≤ 1048576) (hm : ws.length ≤ 1048576) (hs : ∀ s ∈ ps, s.size ≤ 1048576) :
    Calls Try.prog 62 #[.agg #[.slice a ps.length c, .slice b ws.length d]] w fun e w' => e = .returned (.bool (chipOkB ps ws)) ∧ Below w.heap.size w w' := by
  obtain ⟨X, hX⟩ : ∃ X, X = Obj.cells #[.slice a ps.length c, .slice b ws.length d] 41 := ⟨_, rfl⟩
  have hbW : Below w.heap.size w (w.alloc X) := (Below.refl _ _).alloc (Nat.le_refl _) _
  have hp' := hp.below hbW
  have hw' := hw.below hbW
  clear hp hw
  subst hX
  by_cases hn : ps.length = 60 ∧ ws.length = 10
  · have t1 : ((ps.length : Int) != 60) = false := by simp; omega
    have t2 : ((ws.length : Int) != 10) = false := by simp; omega
    have hn1 : ps.length ≤ 60 := by omega
    have HN : Hid (ps.length = 60 ∧ ws.length = 10) := hn
    clear hn
    go_enter Try.func62, Try.ntmps62
    go_wp2
    go_loop [20] (fun i => ∃ k : Nat, k ≤ ps.length ∧ i = .int .i64 k ∧ Hid (∀ s ∈ ps.take k, s.size ≤ 800)) (fun i => ps.length - (intOf i).toNat)
    case atStart => exact ⟨0, Nat.zero_le _, rfl, by show ∀ _, _; simp⟩
    case round =>
      obtain ⟨k, hk, rfl, hall⟩ := hrel
      by_cases hlt : k < ps.length
      · obtain ⟨b1, o1, x, rfl, hck, HX⟩ := rdString_at hp' hlt
        have hx := hs x (List.mem_of_getElem? HX.out)
        clear hp' hw'
        by_cases hbig : (800 : Int) < (x.size : Int)
        · have hf : Hid (chipOkB ps ws = false) := chipOkB_false (fun h => by have := h.2.2.1 x (List.mem_of_getElem? HX.out); omega)
          clear hs
          go_wp2
          go_ret
          exact ⟨ret_bool hf.out.symm, hbW⟩
        · have hall' : Hid (∀ s ∈ ps.take (k + 1), s.size ≤ 800) := by
            show ∀ _, _
            intro s hs'
            rw [List.take_add_one, HX.out] at hs'
            simp only [Option.toList_some, List.mem_append, List.mem_singleton] at hs'
            rcases hs' with h | rfl
            · exact hall.out s h
            · omega
          clear hs
          go_wp2
          go_round
          case rel => exact ⟨k + 1, by omega, by go_num, hall'⟩
          case measure => simp [intOf]; omega
      · have hall' : Hid (∀ s ∈ ps, s.size ≤ 800) := by
          have := hall.out
          rw [List.take_of_length_le (by omega)] at this
          exact this
        clear hs hp' hall
        go_wp2
        go_loop [31] (fun i => ∃ k : Nat, k ≤ ws.length ∧ i = .int .i64 k ∧ Hid (∀ x ∈ ws.take k, 0 ≤ x ∧ x ≤ 1000000000)) (fun i => ws.length - (intOf i).toNat)
        case atStart => exact ⟨0, Nat.zero_le _, rfl, by show ∀ _, _; simp⟩
        case round =>
          obtain ⟨j, hj, rfl, hallw⟩ := hrel
          by_cases hlj : j < ws.length
          · obtain ⟨b2, o2, x, rfl, hck, HX⟩ := rdInt_at hw' hlj
            clear hw'
            by_cases hin : 0 ≤ x ∧ x ≤ 1000000000
            · have hallw' : Hid (∀ y ∈ ws.take (j + 1), 0 ≤ y ∧ y ≤ 1000000000) := by
                show ∀ _, _
                intro s hs'
                rw [List.take_add_one, HX.out] at hs'
                simp only [Option.toList_some, List.mem_append, List.mem_singleton] at hs'
                rcases hs' with h | rfl
                · exact hallw.out s h
                · exact hin
              have q1 : ¬ x < 0 := by omega
              have q2 : ¬ 1000000000 < x := by omega
              clear hin
              go_wp2
              go_round
              case rel => exact ⟨j + 1, by omega, by go_num, hallw'⟩
              case measure => simp [intOf]; omega
            · have hf : Hid (chipOkB ps ws = false) := chipOkB_false (fun h => hin (h.2.2.2 x (List.mem_of_getElem? HX.out)))
              by_cases q1 : x < 0
              · clear hin
                go_wp2
                go_ret
                exact ⟨ret_bool hf.out.symm, hbW⟩
              · have q2 : 1000000000 < x := by omega
                clear hin
                go_wp2
                go_ret
                exact ⟨ret_bool hf.out.symm, hbW⟩
          · have ht : Hid (chipOkB ps ws = true) := chipOkB_true ⟨HN.out.1, HN.out.2, hall'.out, by
              have := hallw.out
              rw [List.take_of_length_le (by omega)] at this
              exact this⟩
            clear hw'
            go_wp2
            go_ret
            exact ⟨ret_bool ht.out.symm, hbW⟩
  · have hf : Hid (chipOkB ps ws = false) := chipOkB_false (fun h => hn ⟨h.1, h.2.1⟩)
    clear hp' hw' hs
    by_cases h60 : ps.length = 60
    · have t1 : ((ps.length : Int) != 60) = false := by simp; omega
      have t2 : ((ws.length : Int) != 10) = true := by simp; omega
      clear hn h60
      go_enter Try.func62, Try.ntmps62
      go_wp2
      go_ret
      exact ⟨ret_bool hf.out.symm, hbW⟩
    · have t1 : ((ps.length : Int) != 60) = true := by simp; omega
      clear hn h60
      go_enter Try.func62, Try.ntmps62
      go_wp2
      go_ret
      exact ⟨ret_bool hf.out.symm, hbW⟩

end Go.Proofs.Ytdicjbabnknjhaa
