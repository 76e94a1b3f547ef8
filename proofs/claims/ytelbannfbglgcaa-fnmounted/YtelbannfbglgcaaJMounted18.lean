/-
  Contracts of ChipNew, the specification's and the program's: sixty clear pages and ten noughts, in rows of the call's own.
  Contract of the program's boardOf: a chip of sixty pages and ten numbers as a board.
  Arrays of texts and of numbers, compared as a whole.
-/
import Derived.Test.YtelbannfbglgcaaJMounted17
import Derived.Deep.WholeRow
import Derived.Laws.CopyOwn
import Derived.Deep.RegionLaw
import Derived.ChangeKeysEq
import Derived.Laws.StructEq
namespace Go.Proofs.Ytelbannfbglgcaa
open Go.RowKit

/-- No page is written. -/
def ps0 : List ByteArray := List.replicate 60 ByteArray.empty
/-- No block was cleared. -/
def ws0 : List Int := List.replicate 10 0
theorem ps0_len : ps0.length = 60 := by simp [ps0]
theorem ws0_len : ws0.length = 10 := by simp [ws0]

set_option maxRecDepth 100000 in
theorem infoBoard : (Try.prog.info? 93).map (fun i => (i.zero, i.size)) = some (some (Value.agg (bd ps0 ws0)), 70) := by kernel_rfl

theorem made_one (v : Value) (n : Nat) : madeCells #[v] n = (List.replicate n v).toArray :=
  Array.ext (by simp [madeCells]) (fun i h1 h2 => by simp [madeCells, Nat.mod_one])
theorem vs0 : madeCells (Value.string ⟨#[]⟩).cells 60 = (vsString ps0).toArray := by
  have e : vsString ps0 = List.replicate 60 (Value.string ByteArray.empty) := List.map_replicate
  rw [e]; exact made_one _ 60
theorem vi0 : madeCells (Value.int .i64 0).cells 10 = (vsInt ws0).toArray := by
  have e : vsInt ws0 = List.replicate 10 (Value.int .i64 0) := List.map_replicate
  rw [e]; exact made_one _ 10

theorem laid1 (w : World) (A B C : Obj) : ((((w.alloc A).alloc B).alloc C).drew).heap[w.heap.size + 1]? = some B := by
  show (((w.alloc A).alloc B).alloc C).heap[w.heap.size + 1]? = some B
  rw [Go.heap_alloc_old _ _ (by simp)]
  exact heap_alloc2_new w A B
theorem laid2 (w : World) (A B C : Obj) : ((((w.alloc A).alloc B).alloc C).drew).heap[w.heap.size + 1 + 1]? = some C := by
  have h := Go.heap_alloc_new ((w.alloc A).alloc B) C
  show (((w.alloc A).alloc B).alloc C).heap[w.heap.size + 1 + 1]? = some C
  simpa using h

/-- A row that was laid whole. -/
theorem owns_laid {w : World} {base g n : Nat} {e : TypeId} {xs : List Value} (hg : w.heap[g]? = some (.cells xs.toArray e (0, 0))) (hb : base ≤ g) (hn : xs.length = n) (hm : n ≤ 1048576) : w.ownsRow base e 1 (.slice (some ⟨g, 0, none⟩) n n) n xs :=
  ⟨by omega, .inr ⟨g, n, xs.toArray, rfl, hb, hg, Nat.le_refl _, by unfold maxLen; omega, by simp; omega, by rw [List.take_of_length_le (by simp; omega)]⟩⟩

set_option maxHeartbeats 1600000 in
theorem implChipNew_any (w : World) : Calls Try.prog 17 #[] w fun e w' => ∃ v, e = .returned v ∧ ChipOwn w' w.heap.size v ps0 ws0 ∧ Below w.heap.size w w' := by
  obtain ⟨hz, _⟩ := zero_of_info infoBoard
  obtain ⟨W, hW⟩ : ∃ W, W = (w.alloc (Obj.cells #[.slice none 0 0, .slice none 0 0] 27)).alloc (Obj.cells (bd ps0 ws0) 93) := ⟨_, rfl⟩
  have hbW : Below w.heap.size w W := by subst hW; exact ((Below.refl _ _).alloc (Nat.le_refl _) _).alloc (by simp) _
  have c0 : W.cell? ⟨w.heap.size, 0, none⟩ = some (.slice none 0 0) := by subst hW; simp [go_sem]
  have c1 : W.cell? ⟨w.heap.size, 1, none⟩ = some (.slice none 0 0) := by subst hW; simp [go_sem]
  have f0 : W.frozen? ⟨w.heap.size, 0, none⟩ = false := by subst hW; simp [go_sem]
  have f1 : W.frozen? ⟨w.heap.size, 1, none⟩ = false := by subst hW; simp [go_sem]
  have hsW : w.heap.size + 1 < W.heap.size := by subst hW; simp
  have hBd : Board W (w.heap.size + 1) ps0 ws0 := by subst hW; exact heap_alloc2_new _ _ _
  go_enter Try.func17, Try.ntmps17
  go_wp2_with fail
  rw [← hW]
  clear hW hz
  refine (chip_any _ ps0 ws0 W hBd ps0_len ws0_len).mono ?_
  rintro e w1 ⟨v, rfl, hown, hb1⟩
  obtain ⟨g, kg, g', kg', rfl, ho1, ho2, hne, hg1, hg2, hg3, hg4⟩ := own_form hown (by rw [ps0_len]; decide) (by rw [ws0_len]; decide)
  have j0 := (hb1.cell (p := ⟨w.heap.size, 0, none⟩) (by show _ < _; simp; omega)).trans c0
  have j1 := (hb1.cell (p := ⟨w.heap.size, 1, none⟩) (by show _ < _; simp; omega)).trans c1
  have m0 := (hb1.frozen (p := ⟨w.heap.size, 0, none⟩) (by show _ < _; simp; omega)).trans f0
  have m1 := (hb1.frozen (p := ⟨w.heap.size, 1, none⟩) (by show _ < _; simp; omega)).trans f1
  have hbw1 := after hbW hb1
  clear c0 c1 f0 f1 hBd hb1 hbW ho1 ho2
  go_wp2
  refine bodyPost_ret (v := .agg #[.slice (some ⟨g, 0, none⟩) ps0.length kg, .slice (some ⟨g', 0, none⟩) ws0.length kg']) (by simp [results, Try.results17, go_sem, j0, j1]) rfl ⟨_, rfl, ?_, (hbw1.setCell (by show _ ≤ _; simp) _).setCell (by show _ ≤ _; simp) _⟩
  exact own_mono (own_set (own_set hown (show w.heap.size < W.heap.size by omega) _) (show w.heap.size < W.heap.size by omega) _) (by omega)

set_option maxHeartbeats 1600000 in
theorem specChipNew_any (w : World) : Calls Try.prog 119 #[] w fun e w' => ∃ v, e = .returned v ∧ ChipOwn w' w.heap.size v ps0 ws0 ∧ Below w.heap.size w w' := by
  obtain ⟨i1, hi1, hy0, hy1, hy2⟩ := info_parts infoString
  obtain ⟨i2, hi2, hz0, hz1, hz2⟩ := info_parts infoInt
  have k1 : ∀ w, (Instr.makeSlice 24 (.int .i64 60) (.int .i64 60)).run Try.prog w = .ok (.slice (some ⟨w.heap.size, 0, none⟩) 60 60) (w.alloc (.cells (vsString ps0).toArray 9)) := by
    intro w
    have := run_make (P := Try.prog) w 24 9 i1 _ Try.underlying24 hi1 hy0 .i64 .i64 60 60 (by decide) (by decide) (by rw [hy2]; decide) (by decide)
    rw [hy1, show Int.toNat 60 * 1 = 60 from rfl, vs0] at this
    exact this
  have k2 : ∀ w, (Instr.makeSlice 25 (.int .i64 10) (.int .i64 10)).run Try.prog w = .ok (.slice (some ⟨w.heap.size, 0, none⟩) 10 10) (w.alloc (.cells (vsInt ws0).toArray 3)) := by
    intro w
    have := run_make (P := Try.prog) w 25 3 i2 _ Try.underlying25 hi2 hz0 .i64 .i64 10 10 (by decide) (by decide) (by rw [hz2]; decide) (by decide)
    rw [hz1, show Int.toNat 10 * 1 = 10 from rfl, vi0] at this
    exact this
  obtain ⟨P, hP⟩ : ∃ P, P = (vsString ps0).toArray := ⟨_, rfl⟩
  obtain ⟨M, hM⟩ : ∃ M, M = (vsInt ws0).toArray := ⟨_, rfl⟩
  rw [← hP] at k1
  rw [← hM] at k2
  have HP : Hid _ := hP
  have HM : Hid _ := hM
  clear hP hM
  go_enter Try.func119, Try.ntmps119
  go_wp2_with fail
  go_region
  · go_wp2
    have hP := HP.out
    have hM := HM.out
    subst hP hM
    refine bodyPost_ret (v := .agg #[.slice (some ⟨w.heap.size + 1, 0, none⟩) 60 60, .slice (some ⟨w.heap.size + 1 + 1, 0, none⟩) 10 10]) (by simp [results, Try.results119, go_sem]) rfl ⟨_, rfl, ⟨_, _, rfl, ?_, ?_, ?_⟩, after_drew ((((Below.refl _ _).alloc (Nat.le_refl _) _).alloc (by simp) _).alloc (by simp; omega) _) 1⟩
    · exact owns_laid (laid1 _ _ _ _) (by omega) (by simp [ps0]) (by decide)
    · exact owns_laid (laid2 _ _ _ _) (by omega) (by simp [ws0]) (by decide)
    · intro k hk
      simp [Value.ownBlock] at hk ⊢
      omega
  · go_wp2
    have hP := HP.out
    have hM := HM.out
    subst hP hM
    refine bodyPost_ret (v := .agg #[.slice (some ⟨w.heap.size + 1 + 1, 0, none⟩) 60 60, .slice (some ⟨w.heap.size + 1, 0, none⟩) 10 10]) (by simp [results, Try.results119, go_sem]) rfl ⟨_, rfl, ⟨_, _, rfl, ?_, ?_, ?_⟩, after_drew ((((Below.refl _ _).alloc (Nat.le_refl _) _).alloc (by simp) _).alloc (by simp; omega) _) 1⟩
    · exact owns_laid (laid2 _ _ _ _) (by omega) (by simp [ps0]) (by decide)
    · exact owns_laid (laid1 _ _ _ _) (by omega) (by simp [ws0]) (by decide)
    · intro k hk
      simp [Value.ownBlock] at hk ⊢
      omega

end Go.Proofs.Ytelbannfbglgcaa

namespace Go.Proofs.Ytelbannfbglgcaa
open Go.RowKit

theorem splice_pages (ps : List ByteArray) (hl : ps.length = 60) : splice (vsString ps0 ++ vsInt ws0) 0 (vsString ps) = vsString ps ++ vsInt ws0 := by
  simp only [splice, List.take_zero, List.nil_append, Nat.zero_add, List.length_map, hl]
  rw [List.drop_append_of_le_length (by simp [ps0]), List.drop_of_length_le (by simp [ps0]), List.nil_append]
theorem splice_wear (ps : List ByteArray) (ws : List Int) (hl : ps.length = 60) (hm : ws.length = 10) : splice (vsString ps ++ vsInt ws0) 60 (vsInt ws) = vsString ps ++ vsInt ws := by
  simp only [splice, List.length_map, hm]
  rw [List.take_append_of_le_length (by simp [hl]), List.take_of_length_le (by simp [hl]), List.drop_of_length_le (by simp [hl, ws0]), List.append_nil]

theorem one_pages (ps : List ByteArray) : ∀ v ∈ vsString ps, v.oneCell' = true := by intro u hu; simp at hu; obtain ⟨x, _, rfl⟩ := hu; rfl
theorem one_wear (ws : List Int) : ∀ v ∈ vsInt ws, v.oneCell' = true := by intro u hu; simp at hu; obtain ⟨x, _, rfl⟩ := hu; rfl
theorem one_bd (ps : List ByteArray) (ws : List Int) : (bd ps ws).all (·.oneCell') = true := by
  refine all_oneCell_toArray (fun v hv => ?_)
  rcases List.mem_append.1 hv with h | h
  · exact one_pages ps v h
  · exact one_wear ws v h

theorem szString : (Try.prog.info? 9).map (·.size) = some 1 := by kernel_rfl
theorem szInt : (Try.prog.info? 3).map (·.size) = some 1 := by kernel_rfl
theorem szBoard : (Try.prog.info? 93).map (·.size) = some 70 := by kernel_rfl

/-- A whole board is read. -/
theorem load_board {w : World} {g : Nat} {ps : List ByteArray} {ws : List Int} (h : Board w g ps ws) (hl : ps.length = 60) (hm : ws.length = 10) :
    (Instr.loadAt 93 (.pointer (some ⟨g, 0, none⟩))).run Try.prog w = .ok (.agg (bd ps ws)) w := by
  simp only [Instr.loadAt, Instr.sureAddr, Sem.run_bind, Sem.run_pure, Result.andThen_ok]
  exact run_loadVar_row w g 93 93 (bd ps ws) (0, 0) _ h Try.underlying93 rfl (by rw [szBoard, bd_size, hl, hm])
/-- A whole board is written. -/
theorem store_board {w : World} {g : Nat} {ps qs : List ByteArray} {ws us : List Int} (h : Board w g qs us) (hl : ps.length = 60) (hm : ws.length = 10) (hl' : qs.length = 60) (hm' : us.length = 10) :
    (Instr.storeAt 93 (.pointer (some ⟨g, 0, none⟩)) (.agg (bd ps ws))).run Try.prog w = .ok () (w.setRow g (bd ps ws)) := by
  simp only [Instr.storeAt, Instr.sureAddr, Sem.run_bind, Sem.run_pure, Result.andThen_ok]
  exact run_storeVar_row w g 93 93 (bd qs us) (bd ps ws) h (by rw [szBoard, bd_size, hl, hm]) (by rw [bd_size, bd_size, hl, hm, hl', hm']) (one_bd ps ws)

set_option maxHeartbeats 3200000 in
theorem boardOf_any (a b : Option Addr) (ps : List ByteArray) (ws : List Int) (c d : Nat) (w : World) (hp : Rd w a (vsString ps)) (hw : Rd w b (vsInt ws)) (hl : ps.length = 60) (hm : ws.length = 10) :
    Calls Try.prog 102 #[.agg #[.slice a ps.length c, .slice b ws.length d]] w fun e w' => e = .returned (.agg (bd ps ws)) ∧ Below w.heap.size w w' := by
  obtain ⟨b1, o1, rfl, -⟩ := rd_at (k := 0) hp (by simp; omega)
  obtain ⟨b2, o2, rfl, -⟩ := rd_at (k := 0) hw (by simp; omega)
  obtain ⟨N, hN⟩ : ∃ N, N = ps.length := ⟨_, rfl⟩
  obtain ⟨M, hM⟩ : ∃ M, M = ws.length := ⟨_, rfl⟩
  rw [← hN, ← hM]
  obtain ⟨hz, _⟩ := zero_of_info infoBoard
  obtain ⟨W, hW⟩ : ∃ W, W = ((w.alloc (Obj.cells #[.slice (some ⟨b1, o1, none⟩) N c, .slice (some ⟨b2, o2, none⟩) M d] 27)).alloc (Obj.cells (bd ps0 ws0) 93)).alloc (Obj.cells (bd ps0 ws0) 93) := ⟨_, rfl⟩
  have hbW : Below w.heap.size w W := by subst hW; exact (((Below.refl _ _).alloc (Nat.le_refl _) _).alloc (by simp) _).alloc (by simp; omega) _
  have c0 : W.cell? ⟨w.heap.size, 0, none⟩ = some (.slice (some ⟨b1, o1, none⟩) N c) := by subst hW; simp [go_sem]
  have c1 : W.cell? ⟨w.heap.size, 1, none⟩ = some (.slice (some ⟨b2, o2, none⟩) M d) := by subst hW; simp [go_sem]
  have B1 : Board W (w.heap.size + 1) ps0 ws0 := by subst hW; exact laid1 w _ _ _
  have B2 : Board W (w.heap.size + 1 + 1) ps0 ws0 := by subst hW; exact laid2 w _ _ _
  have hsW : w.heap.size + 1 + 1 < W.heap.size := by subst hW; simp
  have HL : Hid (ps.length = 60 ∧ ws.length = 10 ∧ N = 60 ∧ M = 10) := ⟨hl, hm, by omega, by omega⟩
  have hN1 : N ≤ 60 := by omega
  have hM1 : M ≤ 10 := by omega
  have HP : Hid (Rd W (some ⟨b1, o1, none⟩) (vsString ps)) := hp.below hbW
  have HW : Hid (Rd W (some ⟨b2, o2, none⟩) (vsInt ws)) := hw.below hbW
  have HB2 : Hid (W.drew.heap[w.heap.size + 1 + 1]? = some (.cells (vsString ps0 ++ vsInt ws0).toArray 93 (0, 0))) := B2
  have HDR : Hid (Below (w.heap.size + 1 + 1) W.drew W.drew) := Below.refl _ _
  have HC : Hid (∀ j v, (vsString ps)[j]? = some v → W.drew.cell? ((⟨b1, o1, none⟩ : Addr).add j) = some v) := fun j v hv => by
    have := rd_cells HP.out j v hv
    simpa using this
  have HN1 : Hid ((vsString ps).length = Nat.min N 60) := by show _ = _; rw [List.length_map, HL.out.1, HL.out.2.2.1]; rfl
  have HF1 : Hid (0 + (vsString ps).length ≤ (vsString ps0 ++ vsInt ws0).length) := by show _ ≤ _; simp [HL.out.1, ps0]
  have HWw : Hid (Rd w (some ⟨b2, o2, none⟩) (vsInt ws)) := hw
  clear hp hw hl hm hN hM B2 HW
  go_enter Try.func102, Try.ntmps102
  go_wp2_with fail
  rw [← hW]
  clear hW hz
  go_region_law (refine step_copy_splice rfl (.tmp 5) (.tmp 7) 24 24 rfl 9 Try.underlying24 szString _ _ _ _ _ _ (by rfl) (by rfl) (w.heap.size + 1 + 1) 0 (vsString ps0 ++ vsInt ws0) 93 HB2.out (vsString ps) HN1.out (fun _ => ⟨rfl, _, rfl, HC.out⟩) HF1.out (one_pages ps) (w.heap.size + 1 + 1) W.drew HDR.out (Nat.le_refl _) ?_; intro w2 HG2 hB2)
  have hbw2 : Below w.heap.size w w2 := (after_drew hbW 1).trans (hB2.mono (by omega))
  have d1 : w2.cell? ⟨w.heap.size, 1, none⟩ = some (.slice (some ⟨b2, o2, none⟩) M d) := (hB2.cell (p := ⟨w.heap.size, 1, none⟩) (by show _ < _; simp; omega)).trans (by simpa using c1)
  have B12 : Board w2 (w.heap.size + 1) ps0 ws0 := (hB2.block _ (by omega)).trans B1
  have HG3 : Hid (w2.drew.heap[w.heap.size + 1 + 1]? = some (.cells (vsString ps ++ vsInt ws0).toArray 93 (0, 0))) := by
    have := HG2.out
    rw [splice_pages ps HL.out.1] at this
    exact this
  have HC2 : Hid (∀ j v, (vsInt ws)[j]? = some v → w2.drew.cell? ((⟨b2, o2, none⟩ : Addr).add j) = some v) := fun j v hv => by
    have := rd_cells (HWw.out.below hbw2) j v hv
    simpa using this
  have HDR2 : Hid (Below (w.heap.size + 1 + 1) w2.drew w2.drew) := Below.refl _ _
  have HN2 : Hid ((vsInt ws).length = Nat.min M 10) := by show _ = _; rw [List.length_map, HL.out.2.1, HL.out.2.2.2]; rfl
  have HF2 : Hid (60 + (vsInt ws).length ≤ (vsString ps ++ vsInt ws0).length) := by show _ ≤ _; simp [HL.out.1, HL.out.2.1, ws0]
  clear hB2 HG2 c0 c1 HC HN1 HF1 HDR HB2 HP B1 hbW
  go_wp2_with fail
  go_region_law (refine step_copy_splice rfl (.tmp 10) (.tmp 12) 25 25 rfl 3 Try.underlying25 szInt _ _ _ _ _ _ (by rfl) (by rfl) (w.heap.size + 1 + 1) 60 (vsString ps ++ vsInt ws0) 93 HG3.out (vsInt ws) HN2.out (fun _ => ⟨rfl, _, rfl, HC2.out⟩) HF2.out (one_wear ws) (w.heap.size + 1 + 1) w2.drew HDR2.out (Nat.le_refl _) ?_; intro w4 HG4 hB4)
  have hbw4 : Below w.heap.size w w4 := (after_drew hbw2 1).trans (hB4.mono (by omega))
  have B14 : Board w4 (w.heap.size + 1) ps0 ws0 := (hB4.block _ (by omega)).trans B12
  have B24 : Board w4 (w.heap.size + 1 + 1) ps ws := by
    have := HG4.out
    rw [splice_wear ps ws HL.out.1 HL.out.2.1] at this
    exact this
  have hi : (Try.prog.info? 93).map (·.size) = some (bd ps ws).size := by rw [szBoard, bd_size, HL.out.1, HL.out.2.1]
  have ho : (bd ps0 ws0).size = (bd ps ws).size := by rw [bd_size, bd_size, HL.out.1, HL.out.2.1, ps0_len, ws0_len]
  have HI : Hid _ := hide hi
  have HO : Hid _ := hide ho
  have HB14 := hide B14
  have HB24 := hide B24
  have B15 : Board (w4.setRow (w.heap.size + 1) (bd ps ws)) (w.heap.size + 1) ps ws := setRow_heap w4 _ _ _ _ _ B14
  have hbw5 : Below w.heap.size w (w4.setRow (w.heap.size + 1) (bd ps ws)) := below_setRow hbw4 (by omega) _
  clear hB4 HG4 HG3 HC2 HN2 HF2 HDR2 d1 B12 hbw2 hbw4 HWw B14 B24 hi ho
  go_wp2_with (first
    | (refine wpList_load_row rfl 93 (.tmp 3) rfl (w.heap.size + 1 + 1) rfl 93 (bd ps ws) (0, 0) _ HB24.out Try.underlying93 rfl HI.out ?_)
    | (refine wpList_store_row rfl 93 (.tmp 2) (.tmp 14) rfl (w.heap.size + 1) (bd ps ws) rfl rfl 93 (bd ps0 ws0) HB14.out HI.out HO.out (one_bd ps ws) ?_))
  exact bodyPost_ret (v := .agg (bd ps ws)) (results_cell_row Try.results102 _ _ (w.heap.size + 1) 93 (bd ps ws) (0, 0) _ rfl B15 Try.underlying93 rfl HI.out) rfl ⟨rfl, hbw5⟩

end Go.Proofs.Ytelbannfbglgcaa

namespace Go.Proofs.Ytelbannfbglgcaa
open Go.RowKit

theorem cellsString : Try.prog.cellsOf 9 = 1 := by kernel_rfl
theorem cellsInt : Try.prog.cellsOf 3 = 1 := by kernel_rfl

theorem eqItems_string (d : Nat) (w : World) (xs ys : List ByteArray) : ∀ (is : List Nat), (∀ i ∈ is, i < xs.length ∧ i < ys.length) →
    (Op.eqItems (d + 1) 9 1 (vsString xs).toArray (vsString ys).toArray is).run Try.prog w = .ok (is.all fun i => (xs.getD i ByteArray.empty).toList == (ys.getD i ByteArray.empty).toList) w
  | [], _ => by simp [Op.eqItems]
  | i :: is, h => by
    obtain ⟨h1, h2⟩ := h i (by simp)
    have px : (part 9 (vsString xs).toArray (i * 1)).run Try.prog w = .ok (.string (xs.getD i ByteArray.empty)) w := by
      simp [part, isAgg, run_underlying Try.underlying9, List.getElem?_eq_getElem h1]
    have py : (part 9 (vsString ys).toArray (i * 1)).run Try.prog w = .ok (.string (ys.getD i ByteArray.empty)) w := by
      simp [part, isAgg, run_underlying Try.underlying9, List.getElem?_eq_getElem h2]
    have pe := run_equalIn_string (P := Try.prog) (w := w) d 9 (xs.getD i ByteArray.empty) (ys.getD i ByteArray.empty) Try.underlying9
    simp only [Op.eqItems, Sem.run_bind, px, py, pe, Result.andThen_ok, List.all_cons]
    cases hb : ((xs.getD i ByteArray.empty).toList == (ys.getD i ByteArray.empty).toList)
    · simp
    · simpa using eqItems_string d w xs ys is (fun j hj => h j (by simp [hj]))
theorem eqItems_int (d : Nat) (w : World) (xs ys : List Int) : ∀ (is : List Nat), (∀ i ∈ is, i < xs.length ∧ i < ys.length) →
    (Op.eqItems (d + 1) 3 1 (vsInt xs).toArray (vsInt ys).toArray is).run Try.prog w = .ok (is.all fun i => xs.getD i 0 == ys.getD i 0) w
  | [], _ => by simp [Op.eqItems]
  | i :: is, h => by
    obtain ⟨h1, h2⟩ := h i (by simp)
    have px : (part 3 (vsInt xs).toArray (i * 1)).run Try.prog w = .ok (.int .i64 (xs.getD i 0)) w := by
      simp [part, isAgg, run_underlying Try.underlying3, List.getElem?_eq_getElem h1]
    have py : (part 3 (vsInt ys).toArray (i * 1)).run Try.prog w = .ok (.int .i64 (ys.getD i 0)) w := by
      simp [part, isAgg, run_underlying Try.underlying3, List.getElem?_eq_getElem h2]
    have pe := run_equalIn_int (P := Try.prog) (w := w) d 3 .i64 .i64 (xs.getD i 0) (ys.getD i 0) Try.underlying3
    simp only [Op.eqItems, Sem.run_bind, px, py, pe, Result.andThen_ok, List.all_cons]
    cases hb : (xs.getD i 0 == ys.getD i 0)
    · simp
    · simpa using eqItems_int d w xs ys is (fun j hj => h j (by simp [hj]))

theorem all_string {xs ys : List ByteArray} {n : Nat} (hx : xs.length = n) (hy : ys.length = n) : ((List.range n).all fun i => (xs.getD i ByteArray.empty).toList == (ys.getD i ByteArray.empty).toList) = decide (xs = ys) := by
  rw [Bool.eq_iff_iff]
  simp only [List.all_eq_true, List.mem_range, beq_iff_eq, decide_eq_true_eq]
  constructor
  · intro h
    refine List.ext_getElem (by omega) (fun i h1 h2 => ?_)
    have := str_inj (h i (by omega))
    simpa [h1, h2] using this
  · rintro rfl i _; rfl
theorem all_int {xs ys : List Int} {n : Nat} (hx : xs.length = n) (hy : ys.length = n) : ((List.range n).all fun i => xs.getD i 0 == ys.getD i 0) = decide (xs = ys) := by
  rw [Bool.eq_iff_iff]
  simp only [List.all_eq_true, List.mem_range, beq_iff_eq, decide_eq_true_eq]
  constructor
  · intro h
    refine List.ext_getElem (by omega) (fun i h1 h2 => ?_)
    have := h i (by omega)
    simpa [h1, h2] using this
  · rintro rfl i _; rfl

theorem equal_pages (w : World) {xs ys : List ByteArray} (hx : xs.length = 60) (hy : ys.length = 60) :
    (Op.equalIn 10000 90 (.agg (vsString xs).toArray) (.agg (vsString ys).toArray)).run Try.prog w = .ok (decide (xs = ys)) w := by
  obtain ⟨i1, hi1, -⟩ := info_parts infoString
  rw [show 10000 = 9999 + 1 from rfl, run_equalIn_array w 9999 _ _ Try.underlying90 hi1, cellsString, show 9999 = 9998 + 1 from rfl, eqItems_string 9998 w xs ys _ (fun i hi => by simp at hi; omega), all_string hx hy]
theorem equal_wear (w : World) {xs ys : List Int} (hx : xs.length = 10) (hy : ys.length = 10) :
    (Op.equalIn 10000 91 (.agg (vsInt xs).toArray) (.agg (vsInt ys).toArray)).run Try.prog w = .ok (decide (xs = ys)) w := by
  obtain ⟨i1, hi1, -⟩ := info_parts infoInt
  rw [show 10000 = 9999 + 1 from rfl, run_equalIn_array w 9999 _ _ Try.underlying91 hi1, cellsInt, show 9999 = 9998 + 1 from rfl, eqItems_int 9998 w xs ys _ (fun i hi => by simp at hi; omega), all_int hx hy]

end Go.Proofs.Ytelbannfbglgcaa
