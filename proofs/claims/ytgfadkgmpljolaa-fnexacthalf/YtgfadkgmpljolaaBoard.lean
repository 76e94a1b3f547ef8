/-
  A board: a chip as two arrays in one block. Contract of the program's (*board).chip: what is on the board, in rows of the call's own.
-/
import Derived.Test.YtgfadkgmpljolaaClone
import Derived.Test.YtgfadkgmpljolaaSpecBurn
import Derived.Laws.Rows
import Derived.Laws.Tables
import Derived.Deep.MidRow
import Derived.Deep.RegionHeld
import Derived.Deep.RegionWith
namespace Go.Proofs.Ytgfadkgmpljolaa
open Go.RowKit

theorem OnlyIn.drewN {w w' : World} {L : List (Option Nat)} (h : OnlyIn w w' L) (n : Nat) : OnlyIn w (w'.drewN n) L := ⟨h.os, h.tape, h.output, h.size, h.block⟩

/-- The cells of a board. -/
def bd (ps : List ByteArray) (ws : List Int) : Array Value := (vsString ps ++ vsInt ws).toArray
/-- Block g is a board. -/
def Board (w : World) (g : Nat) (ps : List ByteArray) (ws : List Int) : Prop := w.heap[g]? = some (.cells (bd ps ws) 55 (0, 0))

theorem bd_size (ps : List ByteArray) (ws : List Int) : (bd ps ws).size = ps.length + ws.length := by simp [bd]
theorem bd_page {ps : List ByteArray} {ws : List Int} {j : Nat} (h : j < ps.length) : (bd ps ws)[j]? = (vsString ps)[j]? := by
  simp only [bd, List.getElem?_toArray]
  rw [List.getElem?_append_left (by simpa using h)]
theorem bd_wear {ps : List ByteArray} {ws : List Int} (hl : ps.length = 60) (j : Nat) : (bd ps ws)[60 + j]? = (vsInt ws)[j]? := by
  simp only [bd, List.getElem?_toArray]
  rw [List.getElem?_append_right (by simp; omega)]
  simp [hl]
theorem bd_setPage {ps : List ByteArray} {ws : List Int} {j : Nat} (h : j < ps.length) (t : ByteArray) : (bd ps ws).setIfInBounds j (.string t) = bd (ps.set j t) ws := by
  apply Array.ext'
  simp only [bd, Array.toList_setIfInBounds]
  rw [List.set_append_left _ _ (by simpa using h)]
  simp [List.map_set]
theorem bd_setWear {ps : List ByteArray} {ws : List Int} (hl : ps.length = 60) (j : Nat) (x : Int) : (bd ps ws).setIfInBounds (60 + j) (.int .i64 x) = bd ps (ws.set j x) := by
  apply Array.ext'
  simp only [bd, Array.toList_setIfInBounds]
  rw [List.set_append_right _ _ (by simp; omega)]
  simp [List.map_set, hl]

theorem Board.lt {w : World} {g : Nat} {ps : List ByteArray} {ws : List Int} (h : Board w g ps ws) : g < w.heap.size := (Array.getElem?_eq_some_iff.1 h).1
theorem Board.cell {w : World} {g : Nat} {ps : List ByteArray} {ws : List Int} (h : Board w g ps ws) (j : Nat) : w.cell? ⟨g, j, none⟩ = (bd ps ws)[j]? := cell_of_row w g j _ _ _ h
theorem Board.frozen {w : World} {g : Nat} {ps : List ByteArray} {ws : List Int} (h : Board w g ps ws) (j : Nat) : w.frozen? ⟨g, j, none⟩ = false := frozen_of_row w g j _ _ h
theorem Board.pages {w : World} {g : Nat} {ps : List ByteArray} {ws : List Int} (h : Board w g ps ws) : Rd w (some ⟨g, 0, none⟩) (vsString ps) := by
  refine .inr ⟨g, 0, rfl, fun i v hv => ?_⟩
  have hi : i < ps.length := by
    rcases Nat.lt_or_ge i ps.length with h' | h'
    · exact h'
    · simp [h'] at hv
  rw [Nat.zero_add, h.cell, bd_page hi]; exact hv
theorem Board.wear {w : World} {g : Nat} {ps : List ByteArray} {ws : List Int} (h : Board w g ps ws) (hl : ps.length = 60) : Rd w (some ⟨g, 60, none⟩) (vsInt ws) := by
  refine .inr ⟨g, 60, rfl, fun i v hv => ?_⟩
  rw [h.cell, bd_wear hl]; exact hv
theorem Board.below {w w' : World} {g : Nat} {ps : List ByteArray} {ws : List Int} (h : Board w g ps ws) (hb : Below w.heap.size w w') : Board w' g ps ws := (hb.block g h.lt).trans h
theorem Board.other {w w' : World} {g : Nat} {L : List (Option Nat)} {ps : List ByteArray} {ws : List Int} (h : Board w g ps ws) (hb : OnlyIn w w' L) (hn : some g ∉ L) : Board w' g ps ws := (hb.block g h.lt hn).trans h
theorem Board.setPage {w : World} {g : Nat} {ps : List ByteArray} {ws : List Int} (h : Board w g ps ws) {j : Nat} (hj : j < ps.length) (t : ByteArray) : Board (w.setCell ⟨g, j, none⟩ (.string t)) g (ps.set j t) ws := by
  unfold Board
  rw [heap_setCell_same w g j _ _ _ h, bd_setPage hj]
theorem Board.setWear {w : World} {g : Nat} {ps : List ByteArray} {ws : List Int} (h : Board w g ps ws) (hl : ps.length = 60) (j : Nat) (x : Int) : Board (w.setCell ⟨g, 60 + j, none⟩ (.int .i64 x)) g ps (ws.set j x) := by
  unfold Board
  rw [heap_setCell_same w g (60 + j) _ _ _ h, bd_setWear hl]

theorem clonePages {w : World} {g : Nat} {ps : List ByteArray} {ws : List Int} (h : Board w g ps ws) (hl : ps.length = 60) :
    Calls Try.prog 45 #[.slice (some ⟨g, 0, none⟩) 60 60] w fun e w' => ∃ v, e = .returned v ∧ w'.ownsRow w.heap.size 9 1 v ps.length (vsString ps) ∧ Below w.heap.size w w' := by
  have k := cloneString_any g 0 60 ps w h.pages (by omega)
  rw [hl] at k ⊢
  exact k
theorem cloneWear {w : World} {g : Nat} {ps : List ByteArray} {ws : List Int} (h : Board w g ps ws) (hl : ps.length = 60) (hm : ws.length = 10) :
    Calls Try.prog 46 #[.slice (some ⟨g, 60, none⟩) 10 10] w fun e w' => ∃ v, e = .returned v ∧ w'.ownsRow w.heap.size 3 1 v ws.length (vsInt ws) ∧ Below w.heap.size w w' := by
  have k := cloneInt_any g 60 10 ws w (h.wear hl) (by omega)
  rw [hm] at k ⊢
  exact k

set_option maxHeartbeats 3200000 in
theorem chip_any (g : Nat) (ps : List ByteArray) (ws : List Int) (w : World) (h : Board w g ps ws) (hl : ps.length = 60) (hm : ws.length = 10) :
    Calls Try.prog 33 #[.pointer (some ⟨g, 0, none⟩)] w fun e w' => ∃ v, e = .returned v ∧ ChipOwn w' w.heap.size v ps ws ∧ Below w.heap.size w w' := by
  obtain ⟨W, hW⟩ : ∃ W, W = w.alloc (Obj.cells #[.slice none 0 0, .slice none 0 0] 28) := ⟨_, rfl⟩
  have hbW : Below w.heap.size w W := by subst hW; exact (Below.refl _ _).alloc (Nat.le_refl _) _
  have c0 : W.cell? ⟨w.heap.size, 0, none⟩ = some (.slice none 0 0) := by subst hW; simp
  have c1 : W.cell? ⟨w.heap.size, 1, none⟩ = some (.slice none 0 0) := by subst hW; simp
  have f0 : W.frozen? ⟨w.heap.size, 0, none⟩ = false := by subst hW; simp
  have f1 : W.frozen? ⟨w.heap.size, 1, none⟩ = false := by subst hW; simp
  have hsW : w.heap.size < W.heap.size := by subst hW; simp
  have hdr : Below W.heap.size W W.drew := after_drew (Below.refl _ _) 1
  have HB : Hid (Board W.drew g ps ws) := (h.below hbW).below hdr
  have HL : Hid (ps.length = 60 ∧ ws.length = 10) := ⟨hl, hm⟩
  have hl0 : 0 < ps.length := by omega
  have hm0 : 0 < ws.length := by omega
  have HBW : Hid (Below w.heap.size w W.drew) := after hbW hdr
  have HC : Hid (∀ u, Below W.drew.heap.size W.drew u → (u.cell? ⟨w.heap.size, 0, none⟩ = some (.slice none 0 0) ∧ u.cell? ⟨w.heap.size, 1, none⟩ = some (.slice none 0 0)) ∧ u.frozen? ⟨w.heap.size, 0, none⟩ = false ∧ u.frozen? ⟨w.heap.size, 1, none⟩ = false) := fun u hu =>
    ⟨⟨(hu.cell (p := ⟨w.heap.size, 0, none⟩) (by show _ < _; exact hsW)).trans (by simpa using c0), (hu.cell (p := ⟨w.heap.size, 1, none⟩) (by show _ < _; exact hsW)).trans (by simpa using c1)⟩, (hu.frozen (p := ⟨w.heap.size, 0, none⟩) (by show _ < _; exact hsW)).trans (by simpa using f0), (hu.frozen (p := ⟨w.heap.size, 1, none⟩) (by show _ < _; exact hsW)).trans (by simpa using f1)⟩
  clear h hbW c0 c1 f0 f1 hl hm hdr
  go_enter Try.func33, Try.ntmps33
  go_wp2_with fail
  rw [← hW]
  clear hW
  go_region_with (first
    | (go_at_call 45; refine (clonePages HB.out HL.out.1).mono ?_; rintro e w1 ⟨v1, rfl, ho1, hb1⟩; obtain ⟨g1, k1, hv1, hg1, hg1'⟩ := owns_form ho1 hl0; subst hv1; have HO1 : Hid _ := ho1; have HB1 : Hid (Board w1 g ps ws) := HB.out.below hb1; have HBW1 : Hid _ := hb1; clear ho1 hb1)
    | (go_at_call 46; refine (cloneWear HB1.out HL.out.1 HL.out.2).mono ?_; rintro e w2 ⟨v2, rfl, ho2, hb2⟩; obtain ⟨g2, k2, hv2, hg2, hg2'⟩ := owns_form ho2 hm0; subst hv2; have HO2 : Hid _ := ho2; have HO1' : Hid _ := owns_below HO1.out hb2; have HBW2 : Hid (Below W.drew.heap.size W.drew w2) := after HBW1.out hb2; obtain ⟨⟨c0, c1⟩, f0, f1⟩ := HC.out w2 HBW2.out; clear ho2 hb2))
  all_goals go_wp2
  have HW2 : Hid (Below w.heap.size w w2) := HBW.out.trans (HBW2.out.mono HBW.out.size)
  refine bodyPost_ret (v := .agg #[.slice (some ⟨g1, 0, none⟩) ps.length k1, .slice (some ⟨g2, 0, none⟩) ws.length k2]) (by simp [results, Try.results33, go_sem, c0, c1]) rfl ⟨_, rfl, ⟨_, _, rfl, ?_, ?_, ?_⟩, (HW2.out.setCell (by show _ ≤ _; simp) _).setCell (by show _ ≤ _; simp) _⟩
  · exact owns_mono (ownsRow_setCell_below (ownsRow_setCell_below HO1'.out (show w.heap.size < W.drew.heap.size from hsW) _) (show w.heap.size < W.drew.heap.size from hsW) _) (show w.heap.size ≤ W.drew.heap.size from Nat.le_of_lt hsW)
  · exact owns_mono (ownsRow_setCell_below (ownsRow_setCell_below HO2.out (show w.heap.size < w1.heap.size by have := HBW1.out.size; simp at this; omega) _) (show w.heap.size < w1.heap.size by have := HBW1.out.size; simp at this; omega) _) (show w.heap.size ≤ w1.heap.size by have := HBW1.out.size; simp at this; omega)
  · intro k hk
    simp [Value.ownBlock] at hk ⊢
    omega

end Go.Proofs.Ytgfadkgmpljolaa
