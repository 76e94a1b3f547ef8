/-
  Contracts of the laws' helpers over chips: toChip, eqChip, markChip, heldChip, szChip.
  Contracts of the specification's chips: ChipOk, l2Copy.
  Contract of the specification's l2Copy: a chip of sixty pages and ten numbers is copied into rows of its own.
-/
import Derived.Test.YtelbannfbglgcaaJMounted6
import Derived.Laws.ResultCell
import Derived.Test.YtelbannfbglgcaaJMounted1
import Derived.Deep.RegionLaw
import Derived.Deep.RegionHeldLaw
import Derived.Deep.RegionLawGrows
namespace Go.Proofs.Ytelbannfbglgcaa
open Go.RowKit

/-- A chip whose two rows can be read. -/
def ChipRd (w : World) (v : Value) (ps : List ByteArray) (ws : List Int) : Prop :=
  ∃ a c b d, v = .agg #[.slice a ps.length c, .slice b ws.length d] ∧ Rd w a (vsString ps) ∧ Rd w b (vsInt ws)
/-- A chip whose two rows are the call's own, in two blocks. -/
def ChipOwn (w : World) (base : Nat) (v : Value) (ps : List ByteArray) (ws : List Int) : Prop :=
  ∃ v1 v2, v = .agg #[v1, v2] ∧ w.ownsRow base 9 1 v1 ps.length (vsString ps) ∧ w.ownsRow base 3 1 v2 ws.length (vsInt ws) ∧ (∀ k, v1.ownBlock = some k → v2.ownBlock ≠ some k)

/-- Nothing old has turned but in the listed blocks. -/
structure OnlyIn (w w' : World) (L : List (Option Nat)) : Prop where
  os : w'.os = w.os
  tape : w'.tape = w.tape
  output : w'.output = w.output
  size : w.heap.size ≤ w'.heap.size
  block : ∀ i, i < w.heap.size → some i ∉ L → w'.heap[i]? = w.heap[i]?
theorem OnlyIn.of_grown {w w' : World} {r : Option Nat} (h : w.grownBy w' r) : OnlyIn w w' [r] := ⟨h.os, h.tape, h.output, h.size, fun i hi hn => h.block i hi (by simpa using hn)⟩
theorem OnlyIn.of_below {w w' : World} (h : Below w.heap.size w w') (L : List (Option Nat)) : OnlyIn w w' L := ⟨h.os, h.tape, h.output, h.size, fun i hi _ => h.block i hi⟩
theorem OnlyIn.trans {w w1 w2 : World} {L M : List (Option Nat)} (h : OnlyIn w w1 L) (k : OnlyIn w1 w2 M) : OnlyIn w w2 (L ++ M) :=
  ⟨k.os.trans h.os, k.tape.trans h.tape, k.output.trans h.output, Nat.le_trans h.size k.size, fun i hi hn => by
    simp only [List.mem_append, not_or] at hn
    exact (k.block i (Nat.lt_of_lt_of_le hi h.size) hn.2).trans (h.block i hi hn.1)⟩
theorem OnlyIn.below {w w' : World} {L : List (Option Nat)} {base : Nat} (h : OnlyIn w w' L) (hB : base ≤ w.heap.size) (hL : ∀ k, some k ∈ L → base ≤ k) : Below base w w' :=
  ⟨h.os, h.tape, h.output, h.size, fun i hi => h.block i (by omega) (fun hm => by have := hL i hm; omega)⟩
theorem OnlyIn.owns {w w' : World} {L : List (Option Nat)} {base : Nat} {e : TypeId} {size : Nat} {v : Value} {n : Nat} {xs : List Value} (ho : w.ownsRow base e size v n xs) (h : OnlyIn w w' L) (hn : ∀ k, v.ownBlock = some k → some k ∉ L) : w'.ownsRow base e size v n xs := by
  obtain ⟨h1, h2⟩ := id ho
  refine ⟨h1, ?_⟩
  rcases h2 with h2 | ⟨g, cap, cur, hv, hg, hh, r⟩
  · exact .inl h2
  · refine .inr ⟨g, cap, cur, hv, hg, ?_, r⟩
    have hlt : g < w.heap.size := (ho.lt g (by rw [hv]; rfl)).2
    rw [h.block g hlt (hn g (by rw [hv]; rfl))]
    exact hh

end Go.Proofs.Ytelbannfbglgcaa

namespace Go.Proofs.Ytelbannfbglgcaa
open Go.RowKit
attribute [local go_sem ↓] Go.wp_at_zero Go.wp_at_succ

/-- A chip is right. -/
def chipOkP (ps : List ByteArray) (ws : List Int) : Prop := ps.length = 60 ∧ ws.length = 10 ∧ (∀ s ∈ ps, s.size ≤ 800) ∧ ∀ x ∈ ws, 0 ≤ x ∧ x ≤ 1000000000
/-- The same, as a flag that the walk does not open. -/
def chipOkB (ps : List ByteArray) (ws : List Int) : Bool := decide (ps.length = 60) && decide (ws.length = 10) && ps.all (fun s => decide (s.size ≤ 800)) && ws.all (fun x => decide (0 ≤ x ∧ x ≤ 1000000000))
theorem chipOkB_iff {ps : List ByteArray} {ws : List Int} : chipOkB ps ws = true ↔ chipOkP ps ws := by
  simp [chipOkB, chipOkP, and_assoc]
theorem chipOkB_true {ps : List ByteArray} {ws : List Int} (h : chipOkP ps ws) : chipOkB ps ws = true := chipOkB_iff.2 h
theorem chipOkB_false {ps : List ByteArray} {ws : List Int} (h : ¬ chipOkP ps ws) : chipOkB ps ws = false := by
  cases hb : chipOkB ps ws with
  | false => rfl
  | true => exact absurd (chipOkB_iff.1 hb) h

set_option maxHeartbeats 1600000 in
theorem specChipOk_any (a b : Option Addr) (ps : List ByteArray) (ws : List Int) (c d : Nat) (w : World) (hp : Rd w a (vsString ps)) (hw : Rd w b (vsInt ws)) (hl : ps.length ≤ 1048576) (hm : ws.length ≤ 1048576) (hs : ∀ s ∈ ps, s.size ≤ 1048576) :
    Calls Try.prog 13 #[.agg #[.slice a ps.length c, .slice b ws.length d]] w fun e w' => e = .returned (.bool (chipOkB ps ws)) ∧ Below w.heap.size w w' := by
  obtain ⟨X, hX⟩ : ∃ X, X = Obj.cells #[.slice a ps.length c, .slice b ws.length d] 27 := ⟨_, rfl⟩
  have hbW : Below w.heap.size w (w.alloc X) := (Below.refl _ _).alloc (Nat.le_refl _) _
  have hp' := hp.below hbW
  have hw' := hw.below hbW
  clear hp hw
  subst hX
  by_cases hn : ps.length = 60 ∧ ws.length = 10
  · have t1 : ((ps.length : Int) != 60) = false := by simp; omega
    have t2 : ((ws.length : Int) != 10) = false := by simp; omega
    have hn1 : ps.length ≤ 60 := by omega
    have HN : Hid (ps.length = 60 ∧ ws.length = 10) := hn
    clear hn
    go_enter Try.func13, Try.ntmps13
    go_wp2
    go_loop [3] (fun i => ∃ k : Nat, k ≤ ps.length ∧ i = .int .i64 k ∧ Hid (∀ s ∈ ps.take k, s.size ≤ 800)) (fun i => ps.length - (intOf i).toNat)
    case atStart => exact ⟨0, Nat.zero_le _, rfl, by show ∀ _, _; simp⟩
    case round =>
      obtain ⟨k, hk, rfl, hall⟩ := hrel
      by_cases hlt : k < ps.length
      · obtain ⟨b1, o1, x, rfl, hck, HX⟩ := rdString_at hp' hlt
        have hx := hs x (List.mem_of_getElem? HX.out)
        clear hp' hw'
        by_cases hbig : (800 : Int) < (x.size : Int)
        · have hf : Hid (chipOkB ps ws = false) := chipOkB_false (fun h => by have := h.2.2.1 x (List.mem_of_getElem? HX.out); omega)
          clear hs
          go_wp2
          go_ret
          exact ⟨ret_bool hf.out.symm, hbW⟩
        · have hall' : Hid (∀ s ∈ ps.take (k + 1), s.size ≤ 800) := by
            show ∀ _, _
            intro s hs'
            rw [List.take_add_one, HX.out] at hs'
            simp only [Option.toList_some, List.mem_append, List.mem_singleton] at hs'
            rcases hs' with h | rfl
            · exact hall.out s h
            · omega
          clear hs
          go_wp2
          go_round
          case rel => exact ⟨k + 1, by omega, by go_num, hall'⟩
          case measure => simp [intOf]; omega
      · have hall' : Hid (∀ s ∈ ps, s.size ≤ 800) := by
          have := hall.out
          rw [List.take_of_length_le (by omega)] at this
          exact this
        clear hs hp' hall
        go_wp2
        go_loop [4] (fun i => ∃ k : Nat, k ≤ ws.length ∧ i = .int .i64 k ∧ Hid (∀ x ∈ ws.take k, 0 ≤ x ∧ x ≤ 1000000000)) (fun i => ws.length - (intOf i).toNat)
        case atStart => exact ⟨0, Nat.zero_le _, rfl, by show ∀ _, _; simp⟩
        case round =>
          obtain ⟨j, hj, rfl, hallw⟩ := hrel
          by_cases hlj : j < ws.length
          · obtain ⟨b2, o2, x, rfl, hck, HX⟩ := rdInt_at hw' hlj
            clear hw'
            by_cases hin : 0 ≤ x ∧ x ≤ 1000000000
            · have hd : decide (0 ≤ x ∧ x ≤ 1000000000) = true := by simp [hin]
              have hallw' : Hid (∀ y ∈ ws.take (j + 1), 0 ≤ y ∧ y ≤ 1000000000) := by
                show ∀ _, _
                intro s hs'
                rw [List.take_add_one, HX.out] at hs'
                simp only [Option.toList_some, List.mem_append, List.mem_singleton] at hs'
                rcases hs' with h | rfl
                · exact hallw.out s h
                · exact hin
              clear hin
              go_wp2_with (go_at_call 63; go_must (refine (in_any _ _ _ _).mono ?_); rw [hd]; rintro e w' ⟨rfl, rfl⟩)
              go_round
              case rel => exact ⟨j + 1, by omega, by go_num, hallw'⟩
              case measure => simp [intOf]; omega
            · have hd : decide (0 ≤ x ∧ x ≤ 1000000000) = false := by simp [hin]
              have hf : Hid (chipOkB ps ws = false) := chipOkB_false (fun h => hin (h.2.2.2 x (List.mem_of_getElem? HX.out)))
              clear hin
              go_wp2_with (go_at_call 63; go_must (refine (in_any _ _ _ _).mono ?_); rw [hd]; rintro e w' ⟨rfl, rfl⟩)
              go_ret
              exact ⟨ret_bool hf.out.symm, hbW⟩
          · have ht : Hid (chipOkB ps ws = true) := chipOkB_true ⟨HN.out.1, HN.out.2, hall'.out, by
              have := hallw.out
              rw [List.take_of_length_le (by omega)] at this
              exact this⟩
            clear hw'
            go_wp2
            go_ret
            exact ⟨ret_bool ht.out.symm, hbW⟩
  · have hf : Hid (chipOkB ps ws = false) := chipOkB_false (fun h => hn ⟨h.1, h.2.1⟩)
    clear hp' hw' hs
    by_cases h60 : ps.length = 60
    · have t1 : ((ps.length : Int) != 60) = false := by simp; omega
      have t2 : ((ws.length : Int) != 10) = true := by simp; omega
      clear hn h60
      go_enter Try.func13, Try.ntmps13
      go_wp2
      go_ret
      exact ⟨ret_bool hf.out.symm, hbW⟩
    · have t1 : ((ps.length : Int) != 60) = true := by simp; omega
      clear hn h60
      go_enter Try.func13, Try.ntmps13
      go_wp2
      go_ret
      exact ⟨ret_bool hf.out.symm, hbW⟩

end Go.Proofs.Ytelbannfbglgcaa

namespace Go.Proofs.Ytelbannfbglgcaa
open Go.RowKit
attribute [local go_sem ↓] Go.wp_at_zero Go.wp_at_succ

/-- What a cell holds, behind a name that the walk does not open. -/
def cellOr (w : World) (b o : Nat) : Value := (w.cell? ⟨b, o, none⟩).getD undef
theorem cellOr_eq {w : World} {b o : Nat} (h : (w.cell? ⟨b, o, none⟩).isSome = true) : w.cell? ⟨b, o, none⟩ = some (cellOr w b o) := by
  obtain ⟨v, hv⟩ := Option.isSome_iff_exists.1 h
  simp [cellOr, hv]

/-- What stays while the copies are made: the boxed chip, the place of the answer, all that is older. -/
abbrev CopyS (w : World) (p q : Value) (w' : World) : Prop :=
  w'.cell? ⟨w.heap.size, 0, none⟩ = some p ∧ w'.cell? ⟨w.heap.size, 1, none⟩ = some q ∧ w'.cell? ⟨w.heap.size + 1, 0, none⟩ = some (cellOr w' (w.heap.size + 1) 0) ∧ w'.cell? ⟨w.heap.size + 1, 1, none⟩ = some (cellOr w' (w.heap.size + 1) 1) ∧
    w'.frozen? ⟨w.heap.size + 1, 0, none⟩ = false ∧ w'.frozen? ⟨w.heap.size + 1, 1, none⟩ = false ∧ Below w.heap.size w w' ∧ w.heap.size + 1 < w'.heap.size
theorem copyS_step {w : World} {p q : Value} {w' w'' : World} (h : CopyS w p q w') (hb : Below w'.heap.size w' w'') : CopyS w p q w'' := by
  obtain ⟨h1, h2, h3, h4, h5, h6, h7, h8⟩ := h
  refine ⟨?_, ?_, ?_, ?_, ?_, ?_, h7.trans (hb.mono h7.size), Nat.lt_of_lt_of_le h8 hb.size⟩
  · rw [hb.cell (p := ⟨w.heap.size, 0, none⟩) (by show _ < _; simp; omega)]; exact h1
  · rw [hb.cell (p := ⟨w.heap.size, 1, none⟩) (by show _ < _; simp; omega)]; exact h2
  · exact cellOr_eq (by rw [hb.cell (p := ⟨w.heap.size + 1, 0, none⟩) (by show _ < _; simp; omega), h3]; rfl)
  · exact cellOr_eq (by rw [hb.cell (p := ⟨w.heap.size + 1, 1, none⟩) (by show _ < _; simp; omega), h4]; rfl)
  · rw [hb.frozen (p := ⟨w.heap.size + 1, 0, none⟩) (by show _ < _; simp; omega)]; exact h5
  · rw [hb.frozen (p := ⟨w.heap.size + 1, 1, none⟩) (by show _ < _; simp; omega)]; exact h6
theorem copyS_store {w : World} {p q : Value} {w' : World} (h : CopyS w p q w') (x y : Value) : CopyS w p q ((w'.setCell ⟨w.heap.size + 1, 0, none⟩ x).setCell ⟨w.heap.size + 1, 1, none⟩ y) := by
  obtain ⟨h1, h2, h3, h4, h5, h6, h7, h8⟩ := h
  have k0 : ((w'.setCell ⟨w.heap.size + 1, 0, none⟩ x).setCell ⟨w.heap.size + 1, 1, none⟩ y).cell? ⟨w.heap.size + 1, 0, none⟩ = some x := by simp [go_sem, h3]
  have k1 : ((w'.setCell ⟨w.heap.size + 1, 0, none⟩ x).setCell ⟨w.heap.size + 1, 1, none⟩ y).cell? ⟨w.heap.size + 1, 1, none⟩ = some y := by simp [go_sem, h4]
  refine ⟨by simpa [go_sem] using h1, by simpa [go_sem] using h2, cellOr_eq (by rw [k0]; rfl), cellOr_eq (by rw [k1]; rfl), by simpa using h5, by simpa using h6, (h7.setCell (by show _ ≤ _; simp) _).setCell (by show _ ≤ _; simp) _, by simpa [World.setCell] using h8⟩
theorem copyS_alloc {w : World} {p q : Value} {w' : World} (h : CopyS w p q w') (o : Obj) : CopyS w p q (w'.alloc o) := copyS_step h ((Below.refl _ _).alloc (Nat.le_refl _) o)

theorem owns_form {w : World} {base : Nat} {e : TypeId} {v : Value} {n : Nat} {xs : List Value} (h : w.ownsRow base e 1 v n xs) (hn : 0 < n) : ∃ g cap, v = .slice (some ⟨g, 0, none⟩) n cap ∧ base ≤ g ∧ g < w.heap.size := by
  rcases id h with ⟨_, ⟨_, h0⟩ | ⟨g, cap, cur, hv, hg, -⟩⟩
  · omega
  · exact ⟨g, cap, hv, hg, (h.lt g (by rw [hv]; rfl)).2⟩
theorem copyS_below {w : World} (p q : Value) {w' : World} (h : CopyS w p q w') : Below w.heap.size w w' := h.2.2.2.2.2.2.1
theorem copyS_drew {w : World} {p q : Value} {w' : World} (h : CopyS w p q w') : CopyS w p q w'.drew := copyS_step h (after_drew (Below.refl _ _) 1)

theorem copy_fin {w : World} {p q : Value} {wF : World} (h : CopyS w p q wF) {ps : List ByteArray} {ws : List Int} {gA kA gB kB N M bA bB : Nat} (hN : N = ps.length) (hM : M = ws.length)
    (hA : wF.ownsRow bA 9 1 (.slice (some ⟨gA, 0, none⟩) N kA) N (vsString ps)) (hB : wF.ownsRow bB 3 1 (.slice (some ⟨gB, 0, none⟩) M kB) M (vsInt ws)) (hbA : w.heap.size + 1 < bA) (hbB : w.heap.size + 1 < bB) (hne : gA ≠ gB) :
    ChipOwn ((wF.setCell ⟨w.heap.size + 1, 0, none⟩ (.slice (some ⟨gA, 0, none⟩) N kA)).setCell ⟨w.heap.size + 1, 1, none⟩ (.slice (some ⟨gB, 0, none⟩) M kB)) w.heap.size (.agg #[.slice (some ⟨gA, 0, none⟩) N kA, .slice (some ⟨gB, 0, none⟩) M kB]) ps ws ∧
      Below w.heap.size w ((wF.setCell ⟨w.heap.size + 1, 0, none⟩ (.slice (some ⟨gA, 0, none⟩) N kA)).setCell ⟨w.heap.size + 1, 1, none⟩ (.slice (some ⟨gB, 0, none⟩) M kB)) := by
  subst hN hM
  refine ⟨⟨_, _, rfl, ?_, ?_, ?_⟩, (copyS_store h _ _).2.2.2.2.2.2.1⟩
  · refine owns_mono (ownsRow_setCell_below (ownsRow_setCell_below hA ?_ _) ?_ _) (by omega) <;> (show _ < _; simpa using hbA)
  · refine owns_mono (ownsRow_setCell_below (ownsRow_setCell_below hB ?_ _) ?_ _) (by omega) <;> (show _ < _; simpa using hbB)
  · intro k hk
    simp [Value.ownBlock] at hk ⊢
    omega

set_option maxRecDepth 100000 in
set_option maxHeartbeats 3200000 in
theorem copy_any (a b : Option Addr) (ps : List ByteArray) (ws : List Int) (c d : Nat) (w : World) (hp : Rd w a (vsString ps)) (hw : Rd w b (vsInt ws)) (hl : ps.length = 60) (hm : ws.length = 10) :
    Calls Try.prog 62 #[.agg #[.slice a ps.length c, .slice b ws.length d]] w fun e w' => ∃ v, e = .returned v ∧ ChipOwn w' w.heap.size v ps ws ∧ Below w.heap.size w w' := by
  obtain ⟨i1, hi1, hy0, hy1, hy2⟩ := info_parts infoString
  obtain ⟨i2, hi2, hz0, hz1, hz2⟩ := info_parts infoInt
  obtain ⟨N, hN⟩ : ∃ N, N = ps.length := ⟨_, rfl⟩
  obtain ⟨M, hM⟩ : ∃ M, M = ws.length := ⟨_, rfl⟩
  obtain ⟨b1, o1, rfl, -⟩ := rd_at (k := 0) hp (by simp; omega)
  obtain ⟨b2, o2, rfl, -⟩ := rd_at (k := 0) hw (by simp; omega)
  rw [← hN, ← hM]
  have HN : Hid (N = ps.length ∧ M = ws.length ∧ N = 60 ∧ M = 10) := ⟨hN, hM, by omega, by omega⟩
  have hN0 : 0 < N := by omega
  have hM0 : 0 < M := by omega
  have hN1 : N ≤ 100 := by omega
  have hM1 : M ≤ 100 := by omega
  have hs0 : CopyS w (.slice (some ⟨b1, o1, none⟩) N c) (.slice (some ⟨b2, o2, none⟩) M d) ((w.alloc (Obj.cells #[.slice (some ⟨b1, o1, none⟩) N c, .slice (some ⟨b2, o2, none⟩) M d] 27)).alloc (Obj.cells #[.slice none 0 0, .slice none 0 0] 27)) := by
    refine ⟨?_, ?_, cellOr_eq ?_, cellOr_eq ?_, ?_, ?_, ((Below.refl _ _).alloc (Nat.le_refl _) _).alloc (by simp) _, ?_⟩ <;> simp [go_sem]
  have hcp : ∀ w', Below w.heap.size w w' → Hid (∀ j u, (vsString ps)[j]? = some u → w'.cell? ((⟨b1, o1, none⟩ : Addr).add j) = some u) := by
    intro w' hb j u hu
    rcases hp.below hb with h | ⟨b, o, he, hc⟩
    · rw [h] at hu; simp at hu
    · simp at he; obtain ⟨rfl, rfl⟩ := he; rw [add_at]; exact hc j u hu
  have hcw : ∀ w', Below w.heap.size w w' → Hid (∀ j u, (vsInt ws)[j]? = some u → w'.cell? ((⟨b2, o2, none⟩ : Addr).add j) = some u) := by
    intro w' hb j u hu
    rcases hw.below hb with h | ⟨b, o, he, hc⟩
    · rw [h] at hu; simp at hu
    · simp at he; obtain ⟨rfl, rfl⟩ := he; rw [add_at]; exact hc j u hu
  have HCP : Hid _ := hcp
  have HCW : Hid _ := hcw
  have hlp : Hid ((vsString ps).length = N * 1) := by show _ = _; simp [hN]
  have hlw : Hid ((vsInt ws).length = M * 1) := by show _ = _; simp [hM]
  have HS0 : Hid _ := hs0
  clear hcp hcw hp hw hN hM hl hm hs0
  go_enter Try.func62, Try.ntmps62
  go_wp2_with fail
  go_region_held_law (fun w' => w'.cell? ⟨w.heap.size, 0, none⟩ = some (.slice (some ⟨b1, o1, none⟩) N c) ∧ w'.cell? ⟨w.heap.size, 1, none⟩ = some (.slice (some ⟨b2, o2, none⟩) M d) ∧ w'.cell? ⟨w.heap.size + 1, 0, none⟩ = some (cellOr w' (w.heap.size + 1) 0) ∧ w'.cell? ⟨w.heap.size + 1, 1, none⟩ = some (cellOr w' (w.heap.size + 1) 1) ∧
    w'.frozen? ⟨w.heap.size + 1, 0, none⟩ = false ∧ w'.frozen? ⟨w.heap.size + 1, 1, none⟩ = false ∧ Below w.heap.size w w' ∧ w.heap.size + 1 < w'.heap.size)
    (first | (exact copyS_drew HS0.out) | (refine copyS_step (by assumption) (by assumption)) | (refine copyS_alloc (by assumption) _) | (refine copyS_store (by assumption) _ _) | go_keep)
    ((first | (refine step_append_grows (by rfl) (.tmp 3) (.tmp 5) 24 (by rfl) 9 i1 (.string ⟨#[]⟩) 1 16 Try.underlying24 hi1 hy0 hy1 hy2 rfl (by decide) _ 0 0 [] (by rfl) (by simp) (by simp) (by simp) ⟨b1, o1, none⟩ N c (vsString ps) (by rfl) hlp.out ((HCP.out _ (copyS_below (.slice (some ⟨b1, o1, none⟩) N c) (.slice (some ⟨b2, o2, none⟩) M d) (by assumption))).out) (by intro u hu; simp at hu; obtain ⟨x, -, rfl⟩ := hu; rfl) (by omega) (by unfold maxLen; omega) (by omega) ?_; intro vA wA hoA hgA; have hbA := (Below.refl _ _).grown hgA (Nat.le_refl _) (by simp); simp only [Nat.zero_add, List.nil_append] at hoA; obtain ⟨gA, kA, hvA, hlA, hgA'⟩ := owns_form hoA hN0; subst hvA) | (refine step_append_grows (by rfl) (.tmp 7) (.tmp 9) 25 (by rfl) 3 i2 (.int .i64 0) 1 8 Try.underlying25 hi2 hz0 hz1 hz2 rfl (by decide) _ 0 0 [] (by rfl) (by simp) (by simp) (by simp) ⟨b2, o2, none⟩ M d (vsInt ws) (by rfl) hlw.out ((HCW.out _ (copyS_below (.slice (some ⟨b1, o1, none⟩) N c) (.slice (some ⟨b2, o2, none⟩) M d) (by assumption))).out) (by intro u hu; simp at hu; obtain ⟨x, -, rfl⟩ := hu; rfl) (by omega) (by unfold maxLen; omega) (by omega) ?_; intro vB wB hoB hgB; have hbB := (Below.refl _ _).grown hgB (Nat.le_refl _) (by simp); simp only [Nat.zero_add, List.nil_append] at hoB; obtain ⟨gB, kB, hvB, hlB, hgB'⟩ := owns_form hoB hM0; subst hvB)))
  all_goals go_wp2
  all_goals
    have hSF : CopyS w (.slice (some ⟨b1, o1, none⟩) N c) (.slice (some ⟨b2, o2, none⟩) M d) wB := by
      first
      | exact copyS_step (copyS_alloc (copyS_step (copyS_drew (copyS_alloc HS0.out _)) hbA) _) hbB
      | exact copyS_step (copyS_step (copyS_drew (copyS_alloc (copyS_alloc HS0.out _) _)) hbA) hbB
    obtain ⟨bA, hA', hbA'⟩ : ∃ bA, wB.ownsRow bA 9 1 (.slice (some ⟨gA, 0, none⟩) N kA) N (vsString ps) ∧ w.heap.size + 1 < bA := by
      first
      | exact ⟨_, owns_below hoA hbB, by simp; omega⟩
      | exact ⟨_, owns_below (hoA.alloc _) hbB, by simp; omega⟩
      | exact ⟨_, owns_below hoA hbB, by simp⟩
      | exact ⟨_, owns_below (hoA.alloc _) hbB, by simp⟩
    have hSA : w.heap.size + 1 < gB := by
      have := hSF.2.2.2.2.2.2.2
      have := hbA'
      simp at hlA hlB hgA'; omega
    have hne : gA ≠ gB := by first | omega | (simp at hlB; omega)
    have hbB' : w.heap.size + 1 < gB := hSA
    have hB' : wB.ownsRow gB 3 1 (.slice (some ⟨gB, 0, none⟩) M kB) M (vsInt ws) := by
      rcases hoB with ⟨q1, ⟨q2, -⟩ | ⟨g, cap', cur, q2, q3, q4⟩⟩
      · simp at q2
      · refine ⟨q1, .inr ⟨g, cap', cur, q2, ?_, q4⟩⟩
        simp at q2; omega
    have fin := copy_fin hSF HN.out.1 HN.out.2.1 hA' hB' hbA' hbB' hne
    obtain ⟨k1, k2, k3, k4, -⟩ := hSF
    exact bodyPost_ret (v := .agg #[.slice (some ⟨gA, 0, none⟩) N kA, .slice (some ⟨gB, 0, none⟩) M kB]) (by simp [results, Try.results62, go_sem, k3, k4]) rfl ⟨_, rfl, fin⟩

end Go.Proofs.Ytelbannfbglgcaa
