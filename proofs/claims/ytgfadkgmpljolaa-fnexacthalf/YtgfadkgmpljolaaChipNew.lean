/-
  Contracts of ChipNew, the specification's and the program's: sixty clear pages and ten noughts, in rows of the call's own.
-/
import Derived.Test.YtgfadkgmpljolaaBoard
import Derived.Deep.WholeRow
namespace Go.Proofs.Ytgfadkgmpljolaa
open Go.RowKit

/-- No page is written. -/
def ps0 : List ByteArray := List.replicate 60 ByteArray.empty
/-- No block was cleared. -/
def ws0 : List Int := List.replicate 10 0
theorem ps0_len : ps0.length = 60 := by simp [ps0]
theorem ws0_len : ws0.length = 10 := by simp [ws0]

set_option maxRecDepth 100000 in
theorem infoBoard : (Try.prog.info? 55).map (fun i => (i.zero, i.size)) = some (some (Value.agg (bd ps0 ws0)), 70) := by kernel_rfl

theorem made_one (v : Value) (n : Nat) : madeCells #[v] n = (List.replicate n v).toArray :=
  Array.ext (by simp [madeCells]) (fun i h1 h2 => by simp [madeCells, Nat.mod_one])
theorem vs0 : madeCells (Value.string ⟨#[]⟩).cells 60 = (vsString ps0).toArray := by
  have e : vsString ps0 = List.replicate 60 (Value.string ByteArray.empty) := List.map_replicate
  rw [e]; exact made_one _ 60
theorem vi0 : madeCells (Value.int .i64 0).cells 10 = (vsInt ws0).toArray := by
  have e : vsInt ws0 = List.replicate 10 (Value.int .i64 0) := List.map_replicate
  rw [e]; exact made_one _ 10

theorem laid1 (w : World) (A B C : Obj) : ((((w.alloc A).alloc B).alloc C).drew).heap[w.heap.size + 1]? = some B := by
  show (((w.alloc A).alloc B).alloc C).heap[w.heap.size + 1]? = some B
  rw [Go.heap_alloc_old _ _ (by simp)]
  exact heap_alloc2_new w A B
theorem laid2 (w : World) (A B C : Obj) : ((((w.alloc A).alloc B).alloc C).drew).heap[w.heap.size + 1 + 1]? = some C := by
  have h := Go.heap_alloc_new ((w.alloc A).alloc B) C
  show (((w.alloc A).alloc B).alloc C).heap[w.heap.size + 1 + 1]? = some C
  simpa using h

/-- A row that was laid whole. -/
theorem owns_laid {w : World} {base g n : Nat} {e : TypeId} {xs : List Value} (hg : w.heap[g]? = some (.cells xs.toArray e (0, 0))) (hb : base ≤ g) (hn : xs.length = n) (hm : n ≤ 1048576) : w.ownsRow base e 1 (.slice (some ⟨g, 0, none⟩) n n) n xs :=
  ⟨by omega, .inr ⟨g, n, xs.toArray, rfl, hb, hg, Nat.le_refl _, by unfold maxLen; omega, by simp; omega, by rw [List.take_of_length_le (by simp; omega)]⟩⟩

set_option maxHeartbeats 1600000 in
theorem implChipNew_any (w : World) : Calls Try.prog 15 #[] w fun e w' => ∃ v, e = .returned v ∧ ChipOwn w' w.heap.size v ps0 ws0 ∧ Below w.heap.size w w' := by
  obtain ⟨hz, _⟩ := zero_of_info infoBoard
  obtain ⟨W, hW⟩ : ∃ W, W = (w.alloc (Obj.cells #[.slice none 0 0, .slice none 0 0] 28)).alloc (Obj.cells (bd ps0 ws0) 55) := ⟨_, rfl⟩
  have hbW : Below w.heap.size w W := by subst hW; exact ((Below.refl _ _).alloc (Nat.le_refl _) _).alloc (by simp) _
  have c0 : W.cell? ⟨w.heap.size, 0, none⟩ = some (.slice none 0 0) := by subst hW; simp [go_sem]
  have c1 : W.cell? ⟨w.heap.size, 1, none⟩ = some (.slice none 0 0) := by subst hW; simp [go_sem]
  have f0 : W.frozen? ⟨w.heap.size, 0, none⟩ = false := by subst hW; simp [go_sem]
  have f1 : W.frozen? ⟨w.heap.size, 1, none⟩ = false := by subst hW; simp [go_sem]
  have hsW : w.heap.size + 1 < W.heap.size := by subst hW; simp
  have hBd : Board W (w.heap.size + 1) ps0 ws0 := by subst hW; exact heap_alloc2_new _ _ _
  go_enter Try.func15, Try.ntmps15
  go_wp2_with fail
  rw [← hW]
  clear hW hz
  refine (chip_any _ ps0 ws0 W hBd ps0_len ws0_len).mono ?_
  rintro e w1 ⟨v, rfl, hown, hb1⟩
  obtain ⟨g, kg, g', kg', rfl, ho1, ho2, hne, hg1, hg2, hg3, hg4⟩ := own_form hown (by rw [ps0_len]; decide) (by rw [ws0_len]; decide)
  have j0 := (hb1.cell (p := ⟨w.heap.size, 0, none⟩) (by show _ < _; simp; omega)).trans c0
  have j1 := (hb1.cell (p := ⟨w.heap.size, 1, none⟩) (by show _ < _; simp; omega)).trans c1
  have m0 := (hb1.frozen (p := ⟨w.heap.size, 0, none⟩) (by show _ < _; simp; omega)).trans f0
  have m1 := (hb1.frozen (p := ⟨w.heap.size, 1, none⟩) (by show _ < _; simp; omega)).trans f1
  have hbw1 := after hbW hb1
  clear c0 c1 f0 f1 hBd hb1 hbW ho1 ho2
  go_wp2
  refine bodyPost_ret (v := .agg #[.slice (some ⟨g, 0, none⟩) ps0.length kg, .slice (some ⟨g', 0, none⟩) ws0.length kg']) (by simp [results, Try.results15, go_sem, j0, j1]) rfl ⟨_, rfl, ?_, (hbw1.setCell (by show _ ≤ _; simp) _).setCell (by show _ ≤ _; simp) _⟩
  exact own_mono (own_set (own_set hown (show w.heap.size < W.heap.size by omega) _) (show w.heap.size < W.heap.size by omega) _) (by omega)

set_option maxHeartbeats 1600000 in
theorem specChipNew_any (w : World) : Calls Try.prog 14 #[] w fun e w' => ∃ v, e = .returned v ∧ ChipOwn w' w.heap.size v ps0 ws0 ∧ Below w.heap.size w w' := by
  obtain ⟨i1, hi1, hy0, hy1, hy2⟩ := info_parts infoString
  obtain ⟨i2, hi2, hz0, hz1, hz2⟩ := info_parts infoInt
  have k1 : ∀ w, (Instr.makeSlice 22 (.int .i64 60) (.int .i64 60)).run Try.prog w = .ok (.slice (some ⟨w.heap.size, 0, none⟩) 60 60) (w.alloc (.cells (vsString ps0).toArray 9)) := by
    intro w
    have := run_make (P := Try.prog) w 22 9 i1 _ Try.underlying22 hi1 hy0 .i64 .i64 60 60 (by decide) (by decide) (by rw [hy2]; decide) (by decide)
    rw [hy1, show Int.toNat 60 * 1 = 60 from rfl, vs0] at this
    exact this
  have k2 : ∀ w, (Instr.makeSlice 23 (.int .i64 10) (.int .i64 10)).run Try.prog w = .ok (.slice (some ⟨w.heap.size, 0, none⟩) 10 10) (w.alloc (.cells (vsInt ws0).toArray 3)) := by
    intro w
    have := run_make (P := Try.prog) w 23 3 i2 _ Try.underlying23 hi2 hz0 .i64 .i64 10 10 (by decide) (by decide) (by rw [hz2]; decide) (by decide)
    rw [hz1, show Int.toNat 10 * 1 = 10 from rfl, vi0] at this
    exact this
  obtain ⟨P, hP⟩ : ∃ P, P = (vsString ps0).toArray := ⟨_, rfl⟩
  obtain ⟨M, hM⟩ : ∃ M, M = (vsInt ws0).toArray := ⟨_, rfl⟩
  rw [← hP] at k1
  rw [← hM] at k2
  have HP : Hid _ := hP
  have HM : Hid _ := hM
  clear hP hM
  go_enter Try.func14, Try.ntmps14
  go_wp2_with fail
  go_region
  · go_wp2
    have hP := HP.out
    have hM := HM.out
    subst hP hM
    refine bodyPost_ret (v := .agg #[.slice (some ⟨w.heap.size + 1, 0, none⟩) 60 60, .slice (some ⟨w.heap.size + 1 + 1, 0, none⟩) 10 10]) (by simp [results, Try.results14, go_sem]) rfl ⟨_, rfl, ⟨_, _, rfl, ?_, ?_, ?_⟩, after_drew ((((Below.refl _ _).alloc (Nat.le_refl _) _).alloc (by simp) _).alloc (by simp; omega) _) 1⟩
    · exact owns_laid (laid1 _ _ _ _) (by omega) (by simp [ps0]) (by decide)
    · exact owns_laid (laid2 _ _ _ _) (by omega) (by simp [ws0]) (by decide)
    · intro k hk
      simp [Value.ownBlock] at hk ⊢
      omega
  · go_wp2
    have hP := HP.out
    have hM := HM.out
    subst hP hM
    refine bodyPost_ret (v := .agg #[.slice (some ⟨w.heap.size + 1 + 1, 0, none⟩) 60 60, .slice (some ⟨w.heap.size + 1, 0, none⟩) 10 10]) (by simp [results, Try.results14, go_sem]) rfl ⟨_, rfl, ⟨_, _, rfl, ?_, ?_, ?_⟩, after_drew ((((Below.refl _ _).alloc (Nat.le_refl _) _).alloc (by simp) _).alloc (by simp; omega) _) 1⟩
    · exact owns_laid (laid2 _ _ _ _) (by omega) (by simp [ps0]) (by decide)
    · exact owns_laid (laid1 _ _ _ _) (by omega) (by simp [ws0]) (by decide)
    · intro k hk
      simp [Value.ownBlock] at hk ⊢
      omega

end Go.Proofs.Ytgfadkgmpljolaa
