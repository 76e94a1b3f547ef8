/-
  Contract of the program's boardOf: a chip of sixty pages and ten numbers as a board.
-/
import Derived.Test.YtgfadkgmpljolaaChipNew
import Derived.Laws.CopyOwn
import Derived.Deep.RegionLaw
namespace Go.Proofs.Ytgfadkgmpljolaa
open Go.RowKit

theorem splice_pages (ps : List ByteArray) (hl : ps.length = 60) : splice (vsString ps0 ++ vsInt ws0) 0 (vsString ps) = vsString ps ++ vsInt ws0 := by
  simp only [splice, List.take_zero, List.nil_append, Nat.zero_add, List.length_map, hl]
  rw [List.drop_append_of_le_length (by simp [ps0]), List.drop_of_length_le (by simp [ps0]), List.nil_append]
theorem splice_wear (ps : List ByteArray) (ws : List Int) (hl : ps.length = 60) (hm : ws.length = 10) : splice (vsString ps ++ vsInt ws0) 60 (vsInt ws) = vsString ps ++ vsInt ws := by
  simp only [splice, List.length_map, hm]
  rw [List.take_append_of_le_length (by simp [hl]), List.take_of_length_le (by simp [hl]), List.drop_of_length_le (by simp [hl, ws0]), List.append_nil]

theorem one_pages (ps : List ByteArray) : ∀ v ∈ vsString ps, v.oneCell' = true := by intro u hu; simp at hu; obtain ⟨x, _, rfl⟩ := hu; rfl
theorem one_wear (ws : List Int) : ∀ v ∈ vsInt ws, v.oneCell' = true := by intro u hu; simp at hu; obtain ⟨x, _, rfl⟩ := hu; rfl
theorem one_bd (ps : List ByteArray) (ws : List Int) : (bd ps ws).all (·.oneCell') = true := by
  refine all_oneCell_toArray (fun v hv => ?_)
  rcases List.mem_append.1 hv with h | h
  · exact one_pages ps v h
  · exact one_wear ws v h

theorem szString : (Try.prog.info? 9).map (·.size) = some 1 := by kernel_rfl
theorem szInt : (Try.prog.info? 3).map (·.size) = some 1 := by kernel_rfl
theorem szBoard : (Try.prog.info? 55).map (·.size) = some 70 := by kernel_rfl

/-- A whole board is read. -/
theorem load_board {w : World} {g : Nat} {ps : List ByteArray} {ws : List Int} (h : Board w g ps ws) (hl : ps.length = 60) (hm : ws.length = 10) :
    (Instr.loadAt 55 (.pointer (some ⟨g, 0, none⟩))).run Try.prog w = .ok (.agg (bd ps ws)) w := by
  simp only [Instr.loadAt, Instr.sureAddr, Sem.run_bind, Sem.run_pure, Result.andThen_ok]
  exact run_loadVar_row w g 55 55 (bd ps ws) (0, 0) _ h Try.underlying55 rfl (by rw [szBoard, bd_size, hl, hm])
/-- A whole board is written. -/
theorem store_board {w : World} {g : Nat} {ps qs : List ByteArray} {ws us : List Int} (h : Board w g qs us) (hl : ps.length = 60) (hm : ws.length = 10) (hl' : qs.length = 60) (hm' : us.length = 10) :
    (Instr.storeAt 55 (.pointer (some ⟨g, 0, none⟩)) (.agg (bd ps ws))).run Try.prog w = .ok () (w.setRow g (bd ps ws)) := by
  simp only [Instr.storeAt, Instr.sureAddr, Sem.run_bind, Sem.run_pure, Result.andThen_ok]
  exact run_storeVar_row w g 55 55 (bd qs us) (bd ps ws) h (by rw [szBoard, bd_size, hl, hm]) (by rw [bd_size, bd_size, hl, hm, hl', hm']) (one_bd ps ws)

set_option maxHeartbeats 3200000 in
theorem boardOf_any (a b : Option Addr) (ps : List ByteArray) (ws : List Int) (c d : Nat) (w : World) (hp : Rd w a (vsString ps)) (hw : Rd w b (vsInt ws)) (hl : ps.length = 60) (hm : ws.length = 10) :
    Calls Try.prog 48 #[.agg #[.slice a ps.length c, .slice b ws.length d]] w fun e w' => e = .returned (.agg (bd ps ws)) ∧ Below w.heap.size w w' := by
  obtain ⟨b1, o1, rfl, -⟩ := rd_at (k := 0) hp (by simp; omega)
  obtain ⟨b2, o2, rfl, -⟩ := rd_at (k := 0) hw (by simp; omega)
  obtain ⟨N, hN⟩ : ∃ N, N = ps.length := ⟨_, rfl⟩
  obtain ⟨M, hM⟩ : ∃ M, M = ws.length := ⟨_, rfl⟩
  rw [← hN, ← hM]
  obtain ⟨hz, _⟩ := zero_of_info infoBoard
  obtain ⟨W, hW⟩ : ∃ W, W = ((w.alloc (Obj.cells #[.slice (some ⟨b1, o1, none⟩) N c, .slice (some ⟨b2, o2, none⟩) M d] 28)).alloc (Obj.cells (bd ps0 ws0) 55)).alloc (Obj.cells (bd ps0 ws0) 55) := ⟨_, rfl⟩
  have hbW : Below w.heap.size w W := by subst hW; exact (((Below.refl _ _).alloc (Nat.le_refl _) _).alloc (by simp) _).alloc (by simp; omega) _
  have c0 : W.cell? ⟨w.heap.size, 0, none⟩ = some (.slice (some ⟨b1, o1, none⟩) N c) := by subst hW; simp [go_sem]
  have c1 : W.cell? ⟨w.heap.size, 1, none⟩ = some (.slice (some ⟨b2, o2, none⟩) M d) := by subst hW; simp [go_sem]
  have B1 : Board W (w.heap.size + 1) ps0 ws0 := by subst hW; exact laid1 w _ _ _
  have B2 : Board W (w.heap.size + 1 + 1) ps0 ws0 := by subst hW; exact laid2 w _ _ _
  have hsW : w.heap.size + 1 + 1 < W.heap.size := by subst hW; simp
  have HL : Hid (ps.length = 60 ∧ ws.length = 10 ∧ N = 60 ∧ M = 10) := ⟨hl, hm, by omega, by omega⟩
  have hN1 : N ≤ 60 := by omega
  have hM1 : M ≤ 10 := by omega
  have HP : Hid (Rd W (some ⟨b1, o1, none⟩) (vsString ps)) := hp.below hbW
  have HW : Hid (Rd W (some ⟨b2, o2, none⟩) (vsInt ws)) := hw.below hbW
  have HB2 : Hid (W.drew.heap[w.heap.size + 1 + 1]? = some (.cells (vsString ps0 ++ vsInt ws0).toArray 55 (0, 0))) := B2
  have HDR : Hid (Below (w.heap.size + 1 + 1) W.drew W.drew) := Below.refl _ _
  have HC : Hid (∀ j v, (vsString ps)[j]? = some v → W.drew.cell? ((⟨b1, o1, none⟩ : Addr).add j) = some v) := fun j v hv => by
    have := rd_cells HP.out j v hv
    simpa using this
  have HN1 : Hid ((vsString ps).length = Nat.min N 60) := by show _ = _; rw [List.length_map, HL.out.1, HL.out.2.2.1]; rfl
  have HF1 : Hid (0 + (vsString ps).length ≤ (vsString ps0 ++ vsInt ws0).length) := by show _ ≤ _; simp [HL.out.1, ps0]
  have HWw : Hid (Rd w (some ⟨b2, o2, none⟩) (vsInt ws)) := hw
  clear hp hw hl hm hN hM B2 HW
  go_enter Try.func48, Try.ntmps48
  go_wp2_with fail
  rw [← hW]
  clear hW hz
  go_region_law (refine step_copy_splice rfl (.tmp 5) (.tmp 7) 22 22 rfl 9 Try.underlying22 szString _ _ _ _ _ _ (by rfl) (by rfl) (w.heap.size + 1 + 1) 0 (vsString ps0 ++ vsInt ws0) 55 HB2.out (vsString ps) HN1.out (fun _ => ⟨rfl, _, rfl, HC.out⟩) HF1.out (one_pages ps) (w.heap.size + 1 + 1) W.drew HDR.out (Nat.le_refl _) ?_; intro w2 HG2 hB2)
  have hbw2 : Below w.heap.size w w2 := (after_drew hbW 1).trans (hB2.mono (by omega))
  have d1 : w2.cell? ⟨w.heap.size, 1, none⟩ = some (.slice (some ⟨b2, o2, none⟩) M d) := (hB2.cell (p := ⟨w.heap.size, 1, none⟩) (by show _ < _; simp; omega)).trans (by simpa using c1)
  have B12 : Board w2 (w.heap.size + 1) ps0 ws0 := (hB2.block _ (by omega)).trans B1
  have HG3 : Hid (w2.drew.heap[w.heap.size + 1 + 1]? = some (.cells (vsString ps ++ vsInt ws0).toArray 55 (0, 0))) := by
    have := HG2.out
    rw [splice_pages ps HL.out.1] at this
    exact this
  have HC2 : Hid (∀ j v, (vsInt ws)[j]? = some v → w2.drew.cell? ((⟨b2, o2, none⟩ : Addr).add j) = some v) := fun j v hv => by
    have := rd_cells (HWw.out.below hbw2) j v hv
    simpa using this
  have HDR2 : Hid (Below (w.heap.size + 1 + 1) w2.drew w2.drew) := Below.refl _ _
  have HN2 : Hid ((vsInt ws).length = Nat.min M 10) := by show _ = _; rw [List.length_map, HL.out.2.1, HL.out.2.2.2]; rfl
  have HF2 : Hid (60 + (vsInt ws).length ≤ (vsString ps ++ vsInt ws0).length) := by show _ ≤ _; simp [HL.out.1, HL.out.2.1, ws0]
  clear hB2 HG2 c0 c1 HC HN1 HF1 HDR HB2 HP B1 hbW
  go_wp2_with fail
  go_region_law (refine step_copy_splice rfl (.tmp 10) (.tmp 12) 23 23 rfl 3 Try.underlying23 szInt _ _ _ _ _ _ (by rfl) (by rfl) (w.heap.size + 1 + 1) 60 (vsString ps ++ vsInt ws0) 55 HG3.out (vsInt ws) HN2.out (fun _ => ⟨rfl, _, rfl, HC2.out⟩) HF2.out (one_wear ws) (w.heap.size + 1 + 1) w2.drew HDR2.out (Nat.le_refl _) ?_; intro w4 HG4 hB4)
  have hbw4 : Below w.heap.size w w4 := (after_drew hbw2 1).trans (hB4.mono (by omega))
  have B14 : Board w4 (w.heap.size + 1) ps0 ws0 := (hB4.block _ (by omega)).trans B12
  have B24 : Board w4 (w.heap.size + 1 + 1) ps ws := by
    have := HG4.out
    rw [splice_wear ps ws HL.out.1 HL.out.2.1] at this
    exact this
  have hi : (Try.prog.info? 55).map (·.size) = some (bd ps ws).size := by rw [szBoard, bd_size, HL.out.1, HL.out.2.1]
  have ho : (bd ps0 ws0).size = (bd ps ws).size := by rw [bd_size, bd_size, HL.out.1, HL.out.2.1, ps0_len, ws0_len]
  have HI : Hid _ := hide hi
  have HO : Hid _ := hide ho
  have HB14 := hide B14
  have HB24 := hide B24
  have B15 : Board (w4.setRow (w.heap.size + 1) (bd ps ws)) (w.heap.size + 1) ps ws := setRow_heap w4 _ _ _ _ _ B14
  have hbw5 : Below w.heap.size w (w4.setRow (w.heap.size + 1) (bd ps ws)) := below_setRow hbw4 (by omega) _
  clear hB4 HG4 HG3 HC2 HN2 HF2 HDR2 d1 B12 hbw2 hbw4 HWw B14 B24 hi ho
  go_wp2_with (first
    | (refine wpList_load_row rfl 55 (.tmp 3) rfl (w.heap.size + 1 + 1) rfl 55 (bd ps ws) (0, 0) _ HB24.out Try.underlying55 rfl HI.out ?_)
    | (refine wpList_store_row rfl 55 (.tmp 2) (.tmp 14) rfl (w.heap.size + 1) (bd ps ws) rfl rfl 55 (bd ps0 ws0) HB14.out HI.out HO.out (one_bd ps ws) ?_))
  exact bodyPost_ret (v := .agg (bd ps ws)) (results_cell_row Try.results48 _ _ (w.heap.size + 1) 55 (bd ps ws) (0, 0) _ rfl B15 Try.underlying55 rfl HI.out) rfl ⟨rfl, hbw5⟩

end Go.Proofs.Ytgfadkgmpljolaa
