/-
  A board: a chip as two arrays in one block. Contract of the program's (*board).chip: what is on the board, in rows of the call's own.
  Contracts of ChipNew, the specification's and the program's: sixty clear pages and ten noughts, in rows of the call's own.
  Contract of the program's boardOf: a chip of sixty pages and ten numbers as a board.
-/
import Derived.Test.YtdicjbabnknjhaaGreatJRecover17
import Derived.Test.YtdicjbabnknjhaaGreatJRecover3
import Derived.Laws.Rows
import Derived.Laws.Tables
import Derived.Deep.MidRow
import Derived.Deep.RegionHeld
import Derived.Deep.RegionWith
import Derived.Deep.WholeRow
import Derived.Laws.CopyOwn
import Derived.Deep.RegionLaw
namespace Go.Proofs.YtdicjbabnknjhaaGreat
open Go.RowKit

theorem OnlyIn.drewN {w w' : World} {L : List (Option Nat)} (h : OnlyIn w w' L) (n : Nat) : OnlyIn w (w'.drewN n) L := ⟨h.os, h.tape, h.output, h.size, h.block⟩

/-- The cells of a board. -/
def bd (ps : List ByteArray) (ws : List Int) : Array Value := (vsString ps ++ vsInt ws).toArray
/-- Block g is a board. -/
def Board (w : World) (g : Nat) (ps : List ByteArray) (ws : List Int) : Prop := w.heap[g]? = some (.cells (bd ps ws) 165 (0, 0))

theorem bd_size (ps : List ByteArray) (ws : List Int) : (bd ps ws).size = ps.length + ws.length := by simp [bd]
theorem bd_page {ps : List ByteArray} {ws : List Int} {j : Nat} (h : j < ps.length) : (bd ps ws)[j]? = (vsString ps)[j]? := by
  simp only [bd, List.getElem?_toArray]
  rw [List.getElem?_append_left (by simpa using h)]
theorem bd_wear {ps : List ByteArray} {ws : List Int} (hl : ps.length = 60) (j : Nat) : (bd ps ws)[60 + j]? = (vsInt ws)[j]? := by
  simp only [bd, List.getElem?_toArray]
  rw [List.getElem?_append_right (by simp; omega)]
  simp [hl]
theorem bd_setPage {ps : List ByteArray} {ws : List Int} {j : Nat} (h : j < ps.length) (t : ByteArray) : (bd ps ws).setIfInBounds j (.string t) = bd (ps.set j t) ws := by
  apply Array.ext'
  simp only [bd, Array.toList_setIfInBounds]
  rw [List.set_append_left _ _ (by simpa using h)]
  simp [List.map_set]
theorem bd_setWear {ps : List ByteArray} {ws : List Int} (hl : ps.length = 60) (j : Nat) (x : Int) : (bd ps ws).setIfInBounds (60 + j) (.int .i64 x) = bd ps (ws.set j x) := by
  apply Array.ext'
  simp only [bd, Array.toList_setIfInBounds]
  rw [List.set_append_right _ _ (by simp; omega)]
  simp [List.map_set, hl]

theorem Board.lt {w : World} {g : Nat} {ps : List ByteArray} {ws : List Int} (h : Board w g ps ws) : g < w.heap.size := (Array.getElem?_eq_some_iff.1 h).1
theorem Board.cell {w : World} {g : Nat} {ps : List ByteArray} {ws : List Int} (h : Board w g ps ws) (j : Nat) : w.cell? ⟨g, j, none⟩ = (bd ps ws)[j]? := cell_of_row w g j _ _ _ h
theorem Board.frozen {w : World} {g : Nat} {ps : List ByteArray} {ws : List Int} (h : Board w g ps ws) (j : Nat) : w.frozen? ⟨g, j, none⟩ = false := frozen_of_row w g j _ _ h
theorem Board.pages {w : World} {g : Nat} {ps : List ByteArray} {ws : List Int} (h : Board w g ps ws) : Rd w (some ⟨g, 0, none⟩) (vsString ps) := by
  refine .inr ⟨g, 0, rfl, fun i v hv => ?_⟩
  have hi : i < ps.length := by
    rcases Nat.lt_or_ge i ps.length with h' | h'
    · exact h'
    · simp [h'] at hv
  rw [Nat.zero_add, h.cell, bd_page hi]; exact hv
theorem Board.wear {w : World} {g : Nat} {ps : List ByteArray} {ws : List Int} (h : Board w g ps ws) (hl : ps.length = 60) : Rd w (some ⟨g, 60, none⟩) (vsInt ws) := by
  refine .inr ⟨g, 60, rfl, fun i v hv => ?_⟩
  rw [h.cell, bd_wear hl]; exact hv
theorem Board.below {w w' : World} {g : Nat} {ps : List ByteArray} {ws : List Int} (h : Board w g ps ws) (hb : Below w.heap.size w w') : Board w' g ps ws := (hb.block g h.lt).trans h
theorem Board.other {w w' : World} {g : Nat} {L : List (Option Nat)} {ps : List ByteArray} {ws : List Int} (h : Board w g ps ws) (hb : OnlyIn w w' L) (hn : some g ∉ L) : Board w' g ps ws := (hb.block g h.lt hn).trans h
theorem Board.setPage {w : World} {g : Nat} {ps : List ByteArray} {ws : List Int} (h : Board w g ps ws) {j : Nat} (hj : j < ps.length) (t : ByteArray) : Board (w.setCell ⟨g, j, none⟩ (.string t)) g (ps.set j t) ws := by
  unfold Board
  rw [heap_setCell_same w g j _ _ _ h, bd_setPage hj]
theorem Board.setWear {w : World} {g : Nat} {ps : List ByteArray} {ws : List Int} (h : Board w g ps ws) (hl : ps.length = 60) (j : Nat) (x : Int) : Board (w.setCell ⟨g, 60 + j, none⟩ (.int .i64 x)) g ps (ws.set j x) := by
  unfold Board
  rw [heap_setCell_same w g (60 + j) _ _ _ h, bd_setWear hl]

theorem clonePages {w : World} {g : Nat} {ps : List ByteArray} {ws : List Int} (h : Board w g ps ws) (hl : ps.length = 60) :
    Calls Tryz.prog 106 #[.slice (some ⟨g, 0, none⟩) 60 60] w fun e w' => ∃ v, e = .returned v ∧ w'.ownsRow w.heap.size 9 1 v ps.length (vsString ps) ∧ Below w.heap.size w w' := by
  have k := cloneString_any g 0 60 ps w h.pages (by omega)
  rw [hl] at k ⊢
  exact k
theorem cloneWear {w : World} {g : Nat} {ps : List ByteArray} {ws : List Int} (h : Board w g ps ws) (hl : ps.length = 60) (hm : ws.length = 10) :
    Calls Tryz.prog 107 #[.slice (some ⟨g, 60, none⟩) 10 10] w fun e w' => ∃ v, e = .returned v ∧ w'.ownsRow w.heap.size 3 1 v ws.length (vsInt ws) ∧ Below w.heap.size w w' := by
  have k := cloneInt_any g 60 10 ws w (h.wear hl) (by omega)
  rw [hm] at k ⊢
  exact k

set_option maxHeartbeats 3200000 in
theorem chip_any (g : Nat) (ps : List ByteArray) (ws : List Int) (w : World) (h : Board w g ps ws) (hl : ps.length = 60) (hm : ws.length = 10) :
    Calls Tryz.prog 146 #[.pointer (some ⟨g, 0, none⟩)] w fun e w' => ∃ v, e = .returned v ∧ ChipOwn w' w.heap.size v ps ws ∧ Below w.heap.size w w' := by
  obtain ⟨W, hW⟩ : ∃ W, W = w.alloc (Obj.cells #[.slice none 0 0, .slice none 0 0] 32) := ⟨_, rfl⟩
  have hbW : Below w.heap.size w W := by subst hW; exact (Below.refl _ _).alloc (Nat.le_refl _) _
  have c0 : W.cell? ⟨w.heap.size, 0, none⟩ = some (.slice none 0 0) := by subst hW; simp
  have c1 : W.cell? ⟨w.heap.size, 1, none⟩ = some (.slice none 0 0) := by subst hW; simp
  have f0 : W.frozen? ⟨w.heap.size, 0, none⟩ = false := by subst hW; simp
  have f1 : W.frozen? ⟨w.heap.size, 1, none⟩ = false := by subst hW; simp
  have hsW : w.heap.size < W.heap.size := by subst hW; simp
  have hdr : Below W.heap.size W W.drew := after_drew (Below.refl _ _) 1
  have HB : Hid (Board W.drew g ps ws) := (h.below hbW).below hdr
  have HL : Hid (ps.length = 60 ∧ ws.length = 10) := ⟨hl, hm⟩
  have hl0 : 0 < ps.length := by omega
  have hm0 : 0 < ws.length := by omega
  have HBW : Hid (Below w.heap.size w W.drew) := after hbW hdr
  have HC : Hid (∀ u, Below W.drew.heap.size W.drew u → (u.cell? ⟨w.heap.size, 0, none⟩ = some (.slice none 0 0) ∧ u.cell? ⟨w.heap.size, 1, none⟩ = some (.slice none 0 0)) ∧ u.frozen? ⟨w.heap.size, 0, none⟩ = false ∧ u.frozen? ⟨w.heap.size, 1, none⟩ = false) := fun u hu =>
    ⟨⟨(hu.cell (p := ⟨w.heap.size, 0, none⟩) (by show _ < _; exact hsW)).trans (by simpa using c0), (hu.cell (p := ⟨w.heap.size, 1, none⟩) (by show _ < _; exact hsW)).trans (by simpa using c1)⟩, (hu.frozen (p := ⟨w.heap.size, 0, none⟩) (by show _ < _; exact hsW)).trans (by simpa using f0), (hu.frozen (p := ⟨w.heap.size, 1, none⟩) (by show _ < _; exact hsW)).trans (by simpa using f1)⟩
  clear h hbW c0 c1 f0 f1 hl hm hdr
  go_enter Tryz.func146, Tryz.ntmps146
  go_wp2_with fail
  rw [← hW]
  clear hW
  go_region_with (first
    | (go_at_call 106; refine (clonePages HB.out HL.out.1).mono ?_; rintro e w1 ⟨v1, rfl, ho1, hb1⟩; obtain ⟨g1, k1, hv1, hg1, hg1'⟩ := owns_form ho1 hl0; subst hv1; have HO1 : Hid _ := ho1; have HB1 : Hid (Board w1 g ps ws) := HB.out.below hb1; have HBW1 : Hid _ := hb1; clear ho1 hb1)
    | (go_at_call 107; refine (cloneWear HB1.out HL.out.1 HL.out.2).mono ?_; rintro e w2 ⟨v2, rfl, ho2, hb2⟩; obtain ⟨g2, k2, hv2, hg2, hg2'⟩ := owns_form ho2 hm0; subst hv2; have HO2 : Hid _ := ho2; have HO1' : Hid _ := owns_below HO1.out hb2; have HBW2 : Hid (Below W.drew.heap.size W.drew w2) := after HBW1.out hb2; obtain ⟨⟨c0, c1⟩, f0, f1⟩ := HC.out w2 HBW2.out; clear ho2 hb2))
  all_goals go_wp2
  have HW2 : Hid (Below w.heap.size w w2) := HBW.out.trans (HBW2.out.mono HBW.out.size)
  refine bodyPost_ret (v := .agg #[.slice (some ⟨g1, 0, none⟩) ps.length k1, .slice (some ⟨g2, 0, none⟩) ws.length k2]) (by simp [results, Tryz.results146, go_sem, c0, c1]) rfl ⟨_, rfl, ⟨_, _, rfl, ?_, ?_, ?_⟩, (HW2.out.setCell (by show _ ≤ _; simp) _).setCell (by show _ ≤ _; simp) _⟩
  · exact owns_mono (ownsRow_setCell_below (ownsRow_setCell_below HO1'.out (show w.heap.size < W.drew.heap.size from hsW) _) (show w.heap.size < W.drew.heap.size from hsW) _) (show w.heap.size ≤ W.drew.heap.size from Nat.le_of_lt hsW)
  · exact owns_mono (ownsRow_setCell_below (ownsRow_setCell_below HO2.out (show w.heap.size < w1.heap.size by have := HBW1.out.size; simp at this; omega) _) (show w.heap.size < w1.heap.size by have := HBW1.out.size; simp at this; omega) _) (show w.heap.size ≤ w1.heap.size by have := HBW1.out.size; simp at this; omega)
  · intro k hk
    simp [Value.ownBlock] at hk ⊢
    omega

end Go.Proofs.YtdicjbabnknjhaaGreat

namespace Go.Proofs.YtdicjbabnknjhaaGreat
open Go.RowKit

/-- No page is written. -/
def ps0 : List ByteArray := List.replicate 60 ByteArray.empty
/-- No block was cleared. -/
def ws0 : List Int := List.replicate 10 0
theorem ps0_len : ps0.length = 60 := by simp [ps0]
theorem ws0_len : ws0.length = 10 := by simp [ws0]

set_option maxRecDepth 100000 in
theorem infoBoard : (Tryz.prog.info? 165).map (fun i => (i.zero, i.size)) = some (some (Value.agg (bd ps0 ws0)), 70) := by kernel_rfl

theorem made_one (v : Value) (n : Nat) : madeCells #[v] n = (List.replicate n v).toArray :=
  Array.ext (by simp [madeCells]) (fun i h1 h2 => by simp [madeCells, Nat.mod_one])
theorem vs0 : madeCells (Value.string ⟨#[]⟩).cells 60 = (vsString ps0).toArray := by
  have e : vsString ps0 = List.replicate 60 (Value.string ByteArray.empty) := List.map_replicate
  rw [e]; exact made_one _ 60
theorem vi0 : madeCells (Value.int .i64 0).cells 10 = (vsInt ws0).toArray := by
  have e : vsInt ws0 = List.replicate 10 (Value.int .i64 0) := List.map_replicate
  rw [e]; exact made_one _ 10

theorem laid1 (w : World) (A B C : Obj) : ((((w.alloc A).alloc B).alloc C).drew).heap[w.heap.size + 1]? = some B := by
  show (((w.alloc A).alloc B).alloc C).heap[w.heap.size + 1]? = some B
  rw [Go.heap_alloc_old _ _ (by simp)]
  exact heap_alloc2_new w A B
theorem laid2 (w : World) (A B C : Obj) : ((((w.alloc A).alloc B).alloc C).drew).heap[w.heap.size + 1 + 1]? = some C := by
  have h := Go.heap_alloc_new ((w.alloc A).alloc B) C
  show (((w.alloc A).alloc B).alloc C).heap[w.heap.size + 1 + 1]? = some C
  simpa using h

/-- A row that was laid whole. -/
theorem owns_laid {w : World} {base g n : Nat} {e : TypeId} {xs : List Value} (hg : w.heap[g]? = some (.cells xs.toArray e (0, 0))) (hb : base ≤ g) (hn : xs.length = n) (hm : n ≤ 1048576) : w.ownsRow base e 1 (.slice (some ⟨g, 0, none⟩) n n) n xs :=
  ⟨by omega, .inr ⟨g, n, xs.toArray, rfl, hb, hg, Nat.le_refl _, by unfold maxLen; omega, by simp; omega, by rw [List.take_of_length_le (by simp; omega)]⟩⟩

end Go.Proofs.YtdicjbabnknjhaaGreat

namespace Go.Proofs.YtdicjbabnknjhaaGreat
open Go.RowKit

theorem splice_pages (ps : List ByteArray) (hl : ps.length = 60) : splice (vsString ps0 ++ vsInt ws0) 0 (vsString ps) = vsString ps ++ vsInt ws0 := by
  simp only [splice, List.take_zero, List.nil_append, Nat.zero_add, List.length_map, hl]
  rw [List.drop_append_of_le_length (by simp [ps0]), List.drop_of_length_le (by simp [ps0]), List.nil_append]
theorem splice_wear (ps : List ByteArray) (ws : List Int) (hl : ps.length = 60) (hm : ws.length = 10) : splice (vsString ps ++ vsInt ws0) 60 (vsInt ws) = vsString ps ++ vsInt ws := by
  simp only [splice, List.length_map, hm]
  rw [List.take_append_of_le_length (by simp [hl]), List.take_of_length_le (by simp [hl]), List.drop_of_length_le (by simp [hl, ws0]), List.append_nil]

theorem one_pages (ps : List ByteArray) : ∀ v ∈ vsString ps, v.oneCell' = true := by intro u hu; simp at hu; obtain ⟨x, _, rfl⟩ := hu; rfl
theorem one_wear (ws : List Int) : ∀ v ∈ vsInt ws, v.oneCell' = true := by intro u hu; simp at hu; obtain ⟨x, _, rfl⟩ := hu; rfl
theorem one_bd (ps : List ByteArray) (ws : List Int) : (bd ps ws).all (·.oneCell') = true := by
  refine all_oneCell_toArray (fun v hv => ?_)
  rcases List.mem_append.1 hv with h | h
  · exact one_pages ps v h
  · exact one_wear ws v h

theorem szString : (Tryz.prog.info? 9).map (·.size) = some 1 := by kernel_rfl
theorem szInt : (Tryz.prog.info? 3).map (·.size) = some 1 := by kernel_rfl
theorem szBoard : (Tryz.prog.info? 165).map (·.size) = some 70 := by kernel_rfl

/-- A whole board is read. -/
theorem load_board {w : World} {g : Nat} {ps : List ByteArray} {ws : List Int} (h : Board w g ps ws) (hl : ps.length = 60) (hm : ws.length = 10) :
    (Instr.loadAt 165 (.pointer (some ⟨g, 0, none⟩))).run Tryz.prog w = .ok (.agg (bd ps ws)) w := by
  simp only [Instr.loadAt, Instr.sureAddr, Sem.run_bind, Sem.run_pure, Result.andThen_ok]
  exact run_loadVar_row w g 165 165 (bd ps ws) (0, 0) _ h Tryz.underlying165 rfl (by rw [szBoard, bd_size, hl, hm])
/-- A whole board is written. -/
theorem store_board {w : World} {g : Nat} {ps qs : List ByteArray} {ws us : List Int} (h : Board w g qs us) (hl : ps.length = 60) (hm : ws.length = 10) (hl' : qs.length = 60) (hm' : us.length = 10) :
    (Instr.storeAt 165 (.pointer (some ⟨g, 0, none⟩)) (.agg (bd ps ws))).run Tryz.prog w = .ok () (w.setRow g (bd ps ws)) := by
  simp only [Instr.storeAt, Instr.sureAddr, Sem.run_bind, Sem.run_pure, Result.andThen_ok]
  exact run_storeVar_row w g 165 165 (bd qs us) (bd ps ws) h (by rw [szBoard, bd_size, hl, hm]) (by rw [bd_size, bd_size, hl, hm, hl', hm']) (one_bd ps ws)

set_option maxHeartbeats 3200000 in
theorem boardOf_any (a b : Option Addr) (ps : List ByteArray) (ws : List Int) (c d : Nat) (w : World) (hp : Rd w a (vsString ps)) (hw : Rd w b (vsInt ws)) (hl : ps.length = 60) (hm : ws.length = 10) :
    Calls Tryz.prog 145 #[.agg #[.slice a ps.length c, .slice b ws.length d]] w fun e w' => e = .returned (.agg (bd ps ws)) ∧ Below w.heap.size w w' := by
  obtain ⟨b1, o1, rfl, -⟩ := rd_at (k := 0) hp (by simp; omega)
  obtain ⟨b2, o2, rfl, -⟩ := rd_at (k := 0) hw (by simp; omega)
  obtain ⟨N, hN⟩ : ∃ N, N = ps.length := ⟨_, rfl⟩
  obtain ⟨M, hM⟩ : ∃ M, M = ws.length := ⟨_, rfl⟩
  rw [← hN, ← hM]
  obtain ⟨hz, _⟩ := zero_of_info infoBoard
  obtain ⟨W, hW⟩ : ∃ W, W = ((w.alloc (Obj.cells #[.slice (some ⟨b1, o1, none⟩) N c, .slice (some ⟨b2, o2, none⟩) M d] 32)).alloc (Obj.cells (bd ps0 ws0) 165)).alloc (Obj.cells (bd ps0 ws0) 165) := ⟨_, rfl⟩
  have hbW : Below w.heap.size w W := by subst hW; exact (((Below.refl _ _).alloc (Nat.le_refl _) _).alloc (by simp) _).alloc (by simp; omega) _
  have c0 : W.cell? ⟨w.heap.size, 0, none⟩ = some (.slice (some ⟨b1, o1, none⟩) N c) := by subst hW; simp [go_sem]
  have c1 : W.cell? ⟨w.heap.size, 1, none⟩ = some (.slice (some ⟨b2, o2, none⟩) M d) := by subst hW; simp [go_sem]
  have B1 : Board W (w.heap.size + 1) ps0 ws0 := by subst hW; exact laid1 w _ _ _
  have B2 : Board W (w.heap.size + 1 + 1) ps0 ws0 := by subst hW; exact laid2 w _ _ _
  have hsW : w.heap.size + 1 + 1 < W.heap.size := by subst hW; simp
  have HL : Hid (ps.length = 60 ∧ ws.length = 10 ∧ N = 60 ∧ M = 10) := ⟨hl, hm, by omega, by omega⟩
  have hN1 : N ≤ 60 := by omega
  have hM1 : M ≤ 10 := by omega
  have HP : Hid (Rd W (some ⟨b1, o1, none⟩) (vsString ps)) := hp.below hbW
  have HW : Hid (Rd W (some ⟨b2, o2, none⟩) (vsInt ws)) := hw.below hbW
  have HB2 : Hid (W.drew.heap[w.heap.size + 1 + 1]? = some (.cells (vsString ps0 ++ vsInt ws0).toArray 165 (0, 0))) := B2
  have HDR : Hid (Below (w.heap.size + 1 + 1) W.drew W.drew) := Below.refl _ _
  have HC : Hid (∀ j v, (vsString ps)[j]? = some v → W.drew.cell? ((⟨b1, o1, none⟩ : Addr).add j) = some v) := fun j v hv => by
    have := rd_cells HP.out j v hv
    simpa using this
  have HN1 : Hid ((vsString ps).length = Nat.min N 60) := by show _ = _; rw [List.length_map, HL.out.1, HL.out.2.2.1]; rfl
  have HF1 : Hid (0 + (vsString ps).length ≤ (vsString ps0 ++ vsInt ws0).length) := by show _ ≤ _; simp [HL.out.1, ps0]
  have HWw : Hid (Rd w (some ⟨b2, o2, none⟩) (vsInt ws)) := hw
  clear hp hw hl hm hN hM B2 HW
  go_enter Tryz.func145, Tryz.ntmps145
  go_wp2_with fail
  rw [← hW]
  clear hW hz
  go_region_law (refine step_copy_splice rfl (.tmp 5) (.tmp 7) 22 22 rfl 9 Tryz.underlying22 szString _ _ _ _ _ _ (by rfl) (by rfl) (w.heap.size + 1 + 1) 0 (vsString ps0 ++ vsInt ws0) 165 HB2.out (vsString ps) HN1.out (fun _ => ⟨rfl, _, rfl, HC.out⟩) HF1.out (one_pages ps) (w.heap.size + 1 + 1) W.drew HDR.out (Nat.le_refl _) ?_; intro w2 HG2 hB2)
  have hbw2 : Below w.heap.size w w2 := (after_drew hbW 1).trans (hB2.mono (by omega))
  have d1 : w2.cell? ⟨w.heap.size, 1, none⟩ = some (.slice (some ⟨b2, o2, none⟩) M d) := (hB2.cell (p := ⟨w.heap.size, 1, none⟩) (by show _ < _; simp; omega)).trans (by simpa using c1)
  have B12 : Board w2 (w.heap.size + 1) ps0 ws0 := (hB2.block _ (by omega)).trans B1
  have HG3 : Hid (w2.drew.heap[w.heap.size + 1 + 1]? = some (.cells (vsString ps ++ vsInt ws0).toArray 165 (0, 0))) := by
    have := HG2.out
    rw [splice_pages ps HL.out.1] at this
    exact this
  have HC2 : Hid (∀ j v, (vsInt ws)[j]? = some v → w2.drew.cell? ((⟨b2, o2, none⟩ : Addr).add j) = some v) := fun j v hv => by
    have := rd_cells (HWw.out.below hbw2) j v hv
    simpa using this
  have HDR2 : Hid (Below (w.heap.size + 1 + 1) w2.drew w2.drew) := Below.refl _ _
  have HN2 : Hid ((vsInt ws).length = Nat.min M 10) := by show _ = _; rw [List.length_map, HL.out.2.1, HL.out.2.2.2]; rfl
  have HF2 : Hid (60 + (vsInt ws).length ≤ (vsString ps ++ vsInt ws0).length) := by show _ ≤ _; simp [HL.out.1, HL.out.2.1, ws0]
  clear hB2 HG2 c0 c1 HC HN1 HF1 HDR HB2 HP B1 hbW
  go_wp2_with fail
  go_region_law (refine step_copy_splice rfl (.tmp 10) (.tmp 12) 23 23 rfl 3 Tryz.underlying23 szInt _ _ _ _ _ _ (by rfl) (by rfl) (w.heap.size + 1 + 1) 60 (vsString ps ++ vsInt ws0) 165 HG3.out (vsInt ws) HN2.out (fun _ => ⟨rfl, _, rfl, HC2.out⟩) HF2.out (one_wear ws) (w.heap.size + 1 + 1) w2.drew HDR2.out (Nat.le_refl _) ?_; intro w4 HG4 hB4)
  have hbw4 : Below w.heap.size w w4 := (after_drew hbw2 1).trans (hB4.mono (by omega))
  have B14 : Board w4 (w.heap.size + 1) ps0 ws0 := (hB4.block _ (by omega)).trans B12
  have B24 : Board w4 (w.heap.size + 1 + 1) ps ws := by
    have := HG4.out
    rw [splice_wear ps ws HL.out.1 HL.out.2.1] at this
    exact this
  have hi : (Tryz.prog.info? 165).map (·.size) = some (bd ps ws).size := by rw [szBoard, bd_size, HL.out.1, HL.out.2.1]
  have ho : (bd ps0 ws0).size = (bd ps ws).size := by rw [bd_size, bd_size, HL.out.1, HL.out.2.1, ps0_len, ws0_len]
  have HI : Hid _ := hide hi
  have HO : Hid _ := hide ho
  have HB14 := hide B14
  have HB24 := hide B24
  have B15 : Board (w4.setRow (w.heap.size + 1) (bd ps ws)) (w.heap.size + 1) ps ws := setRow_heap w4 _ _ _ _ _ B14
  have hbw5 : Below w.heap.size w (w4.setRow (w.heap.size + 1) (bd ps ws)) := below_setRow hbw4 (by omega) _
  clear hB4 HG4 HG3 HC2 HN2 HF2 HDR2 d1 B12 hbw2 hbw4 HWw B14 B24 hi ho
  go_wp2_with (first
    | (refine wpList_load_row rfl 165 (.tmp 3) rfl (w.heap.size + 1 + 1) rfl 165 (bd ps ws) (0, 0) _ HB24.out Tryz.underlying165 rfl HI.out ?_)
    | (refine wpList_store_row rfl 165 (.tmp 2) (.tmp 14) rfl (w.heap.size + 1) (bd ps ws) rfl rfl 165 (bd ps0 ws0) HB14.out HI.out HO.out (one_bd ps ws) ?_))
  exact bodyPost_ret (v := .agg (bd ps ws)) (results_cell_row Tryz.results145 _ _ (w.heap.size + 1) 165 (bd ps ws) (0, 0) _ rfl B15 Tryz.underlying165 rfl HI.out) rfl ⟨rfl, hbw5⟩

end Go.Proofs.YtdicjbabnknjhaaGreat
