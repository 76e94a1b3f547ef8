/-
  Contract of the program's RecRead.
-/
import Derived.Test.YtdicjbabnknjhaaImplRead2
namespace Go.Proofs.Ytdicjbabnknjhaa
open Go.RowKit

theorem recV_of {t : ByteArray} {s q : Int} {d : ByteArray} (h : recR t = some (s, q, d)) : recV (recD (strB t)) = .agg #[.int .i64 s, .int .i64 q, .string d] := by
  rw [recD_of h]; simp [recV, strOf_strB]
theorem recV_none {t : ByteArray} (h : recR t = none) : recV (recD (strB t)) = .agg #[.int .i64 0, .int .i64 0, .string ⟨#[]⟩] := by
  rw [recD_none.2 h]; rfl

set_option maxRecDepth 100000 in
set_option maxHeartbeats 6400000 in
theorem implRecRead_any (t : ByteArray) (w : World) (ht : t.size ≤ 1048576) :
    Calls Try.prog 65 #[.string t] w fun e w' => (∀ s q d, recR t = some (s, q, d) → e = .returned (.tuple #[.agg #[.int .i64 s, .int .i64 q, .string d], .bool true])) ∧
      (recR t = none → e = .returned (.tuple #[.agg #[.int .i64 0, .int .i64 0, .string ByteArray.empty], .bool false])) ∧ Below w.heap.size w w' := by
  have hcv := fun w => run_bytes_of_string (P := Try.prog) w 9 54 5 t Try.underlying9 Try.underlying54 Try.underlying5
  obtain ⟨A, hA⟩ : ∃ A, A = w.alloc (Obj.cells #[.int .i64 0, .int .i64 0, .string ⟨#[]⟩] 84) := ⟨_, rfl⟩
  have hsA : A.heap.size = w.heap.size + 1 := by rw [hA]; simp
  obtain ⟨C, hC⟩ : ∃ C, C = grownCap A t.size 0 5 := ⟨_, rfl⟩
  have hcap : t.size ≤ C := by rw [hC]; exact grownCap_ge _ _ _ _
  obtain ⟨X, hX⟩ : ∃ X, X = Obj.cells (bytesRow t C) 5 ((bytesRow t C).size, (bytesRow t C).size + 1) := ⟨_, rfl⟩
  obtain ⟨W, hW⟩ : ∃ W, W = (A.alloc X).drew := ⟨_, rfl⟩
  have hbA : Below w.heap.size w A := by rw [hA]; exact (Below.refl _ _).alloc (Nat.le_refl _) _
  have hbX : Below A.heap.size A W := by rw [hW]; exact after_drew ((Below.refl _ _).alloc (Nat.le_refl _) _) 1
  have hbW : Below w.heap.size w W := after hbA hbX
  have hrd : Rd W (some ⟨w.heap.size + 1, 0, none⟩) (u8s (strB t)) := by
    have := (rd_bytes t A C)
    rw [← hX, hsA] at this
    rw [hW]
    exact this
  have k0 : C3 W w.heap.size (.int .i64 0) (.int .i64 0) (.string ⟨#[]⟩) := by
    have : C3 A w.heap.size (.int .i64 0) (.int .i64 0) (.string ⟨#[]⟩) := by rw [hA]; exact c3_new _ _ _ _ _
    exact this.below hbX
  have RO := hide (recOf_any (some ⟨w.heap.size + 1, 0, none⟩) (strB t) C W hrd (strB_bytes t) (by rw [strB_len]; exact ht) (by rw [strB_len]; exact hcap))
  rw [strB_len] at RO
  clear hbA hbX hrd hsA
  go_enter Try.func65, Try.ntmps65
  go_wp2_with fail
  rw [← hA]
  rw [← hC]
  rw [← hX]
  rw [← hW]
  clear hA hC hX hW hcv
  refine RO.out.mono ?_
  rintro e w1 ⟨rfl, hb1⟩
  have k1 := k0.below hb1
  have hbw1 := after hbW hb1
  have hs1 := k1.lt
  clear RO k0 hb1
  cases hr : recR t with
  | none =>
    rw [recV_none hr]
    have HN := hide hr
    clear hr
    obtain ⟨U, hU⟩ : ∃ U, U = w1.alloc (Obj.cells #[.int .i64 0, .int .i64 0, .string ⟨#[]⟩] 84) := ⟨_, rfl⟩
    have hbU : Below w1.heap.size w1 U := by rw [hU]; exact (Below.refl _ _).alloc (Nat.le_refl _) _
    have u0 : C3 U w1.heap.size (.int .i64 0) (.int .i64 0) (.string ⟨#[]⟩) := by rw [hU]; exact c3_new _ _ _ _ _
    have k2 := k1.below hbU
    have hbw2 := after hbw1 hbU
    obtain ⟨⟨u00, u01, u02⟩, -⟩ := u0
    obtain ⟨⟨x0, x1, x2⟩, xf⟩ := k2
    have y0 := xf 0
    have y1 := xf 1
    have y2 := xf 2
    clear xf k1 hbU
    go_wp2_with fail
    rw [← hU]
    clear hU
    go_region
    all_goals go_wp2
    all_goals exact bodyPost_ret (v := .tuple #[.agg #[.int .i64 0, .int .i64 0, .string ⟨#[]⟩], .bool false]) (by simp [results, Try.results65, go_sem, x0, x1, x2]) rfl ⟨fun s q d h => (by rw [HN.out] at h; cases h), fun _ => rfl, (((hbw2.setCell (by show _ ≤ _; simp) _).setCell (by show _ ≤ _; simp) _).setCell (by show _ ≤ _; simp) _).drew⟩
  | some r =>
    obtain ⟨s, q, d⟩ := r
    rw [recV_of hr]
    have hq : 1 ≤ q := (recOkB_iff.1 (recR_iff.1 hr).1).2.1.1
    have HN := hide hr
    clear hr
    have hq0 : (q == 0) = false := by simp; omega
    obtain ⟨U, hU⟩ : ∃ U, U = w1.alloc (Obj.cells #[.int .i64 s, .int .i64 q, .string d] 84) := ⟨_, rfl⟩
    have hbU : Below w1.heap.size w1 U := by rw [hU]; exact (Below.refl _ _).alloc (Nat.le_refl _) _
    have u0 : C3 U w1.heap.size (.int .i64 s) (.int .i64 q) (.string d) := by rw [hU]; exact c3_new _ _ _ _ _
    have k2 := k1.below hbU
    have hbw2 := after hbw1 hbU
    obtain ⟨⟨u00, u01, u02⟩, -⟩ := u0
    obtain ⟨⟨x0, x1, x2⟩, xf⟩ := k2
    have y0 := xf 0
    have y1 := xf 1
    have y2 := xf 2
    clear xf k1 hbU
    go_wp2_with (rw [← hU]; clear hU)
    go_region
    all_goals go_wp2
    all_goals exact bodyPost_ret (v := .tuple #[.agg #[.int .i64 s, .int .i64 q, .string d], .bool true]) (by simp [results, Try.results65, go_sem, x0, x1, x2]) rfl ⟨fun s' q' d' h => (by rw [HN.out] at h; cases h; rfl), fun h => (by rw [HN.out] at h; cases h), (((hbw2.setCell (by show _ ≤ _; simp) _).setCell (by show _ ≤ _; simp) _).setCell (by show _ ≤ _; simp) _).drew⟩

end Go.Proofs.Ytdicjbabnknjhaa
