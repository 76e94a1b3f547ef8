/-
  Contract of the specification's RecRead.
-/
import Derived.Test.YtdicjbabnknjhaaSpecRec
namespace Go.Proofs.Ytdicjbabnknjhaa
open Go.RowKit

/-- The bytes of a text, as '[]byte(s)' has laid them. -/
theorem rd_bytes (t : ByteArray) (w : World) (c : Nat) : Rd (w.alloc (Obj.cells (bytesRow t c) 5 ((bytesRow t c).size, (bytesRow t c).size + 1))).drew (some ⟨w.heap.size, 0, none⟩) (u8s (strB t)) := by
  refine .inr ⟨_, 0, rfl, fun i v hv => ?_⟩
  rw [strB_cells] at hv
  have := bytes_lie t w c i v hv
  rw [add_at] at this
  exact this

theorem text_inj {x y : ByteArray} (h : x.toList = y.toList) : x = y := by
  rw [ByteArray.toList_eq, ByteArray.toList_eq] at h
  cases x; cases y
  simpa using h
theorem getT_len {zs : List Int} {i : Int} {ys : List Int} {q : Nat} (h : getT zs i = some (ys, q)) : ys.length ≤ 400 := by
  unfold getT at h
  cases hg : getN zs i with
  | none => rw [hg] at h; simp at h
  | some r =>
    obtain ⟨n, j⟩ := r
    rw [hg] at h
    simp only [] at h
    by_cases hc : 400 < n ∨ (zs.length : Int) - j < n
    · rw [if_pos hc] at h; simp at h
    · rw [if_neg hc] at h
      simp only [Option.some.injEq, Prod.mk.injEq] at h
      obtain ⟨rfl, rfl⟩ := h
      simp; omega

set_option maxRecDepth 100000 in
set_option maxHeartbeats 6400000 in
theorem specRecRead_any (t : ByteArray) (w : World) (ht : t.size ≤ 1048576) :
    Calls Try.prog 59 #[.string t] w fun e w' => (∀ s q d, recR t = some (s, q, d) → e = .returned (.tuple #[.agg #[.int .i64 s, .int .i64 q, .string d], .bool true])) ∧
      (recR t = none → e = .returned (.tuple #[.agg #[.int .i64 0, .int .i64 0, .string ByteArray.empty], .bool false])) ∧ Below w.heap.size w w' := by
  have hcv := fun w => run_bytes_of_string (P := Try.prog) w 9 54 5 t Try.underlying9 Try.underlying54 Try.underlying5
  obtain ⟨A, hA⟩ : ∃ A, A = w.alloc (Obj.cells #[.int .i64 0, .int .i64 0, .string ⟨#[]⟩] 84) := ⟨_, rfl⟩
  have hsA : A.heap.size = w.heap.size + 1 := by rw [hA]; simp
  obtain ⟨C, hC⟩ : ∃ C, C = grownCap A t.size 0 5 := ⟨_, rfl⟩
  have hcap : t.size ≤ C := by rw [hC]; exact grownCap_ge _ _ _ _
  obtain ⟨X, hX⟩ : ∃ X, X = Obj.cells (bytesRow t C) 5 ((bytesRow t C).size, (bytesRow t C).size + 1) := ⟨_, rfl⟩
  obtain ⟨W, hW⟩ : ∃ W, W = ((A.alloc X).alloc (Obj.cells #[.int .i64 0, .int .i64 0, .string ⟨#[]⟩] 84)).drew := ⟨_, rfl⟩
  have hbA : Below w.heap.size w A := by rw [hA]; exact (Below.refl _ _).alloc (Nat.le_refl _) _
  have hbX : Below A.heap.size A (A.alloc X).drew := after_drew ((Below.refl _ _).alloc (Nat.le_refl _) _) 1
  have hbZ : Below (A.alloc X).drew.heap.size (A.alloc X).drew W := by rw [hW]; exact ((Below.refl _ _).alloc (Nat.le_refl _) _)
  have hbW : Below w.heap.size w W := after (after hbA hbX) hbZ
  have hrd : Rd W (some ⟨w.heap.size + 1, 0, none⟩) (u8s (strB t)) := by
    have := (rd_bytes t A C)
    rw [← hX, hsA] at this
    exact this.below hbZ
  have cA : A.cell? ⟨w.heap.size, 0, none⟩ = some (.int .i64 0) ∧ A.cell? ⟨w.heap.size, 1, none⟩ = some (.int .i64 0) ∧ A.cell? ⟨w.heap.size, 2, none⟩ = some (.string ⟨#[]⟩) ∧ ∀ j, A.frozen? ⟨w.heap.size, j, none⟩ = false := by
    rw [hA]; refine ⟨?_, ?_, ?_, fun j => ?_⟩ <;> simp
  have hbAW := after hbX hbZ
  have hltA : w.heap.size < A.heap.size := by omega
  have c0 := (hbAW.cell (p := ⟨w.heap.size, 0, none⟩) hltA).trans cA.1
  have c1 := (hbAW.cell (p := ⟨w.heap.size, 1, none⟩) hltA).trans cA.2.1
  have c2 := (hbAW.cell (p := ⟨w.heap.size, 2, none⟩) hltA).trans cA.2.2.1
  have f0 := (hbAW.frozen (p := ⟨w.heap.size, 0, none⟩) hltA).trans (cA.2.2.2 0)
  have f1 := (hbAW.frozen (p := ⟨w.heap.size, 1, none⟩) hltA).trans (cA.2.2.2 1)
  have f2 := (hbAW.frozen (p := ⟨w.heap.size, 2, none⟩) hltA).trans (cA.2.2.2 2)
  have dW : W.cell? ⟨w.heap.size + 1 + 1, 0, none⟩ = some (.int .i64 0) ∧ W.cell? ⟨w.heap.size + 1 + 1, 1, none⟩ = some (.int .i64 0) ∧ W.cell? ⟨w.heap.size + 1 + 1, 2, none⟩ = some (.string ⟨#[]⟩) ∧ (∀ j, W.frozen? ⟨w.heap.size + 1 + 1, j, none⟩ = false) ∧ w.heap.size + 1 + 1 < W.heap.size := by
    have e : w.heap.size + 1 + 1 = (A.alloc X).heap.size := by simp [hsA]
    rw [hW, e]
    refine ⟨?_, ?_, ?_, fun j => ?_, ?_⟩
    · show ((A.alloc X).alloc _).cell? _ = _; simp
    · show ((A.alloc X).alloc _).cell? _ = _; simp
    · show ((A.alloc X).alloc _).cell? _ = _; simp
    · show ((A.alloc X).alloc _).frozen? _ = _; simp
    · show _ < ((A.alloc X).alloc _).heap.size; simp
  obtain ⟨d0, d1, d2, df, hsW⟩ := dW
  have g0 := df 0
  have g1 := df 1
  have g2 := df 2
  have GN : Hid (∀ i : Int, i ≤ 1048576 → Calls Try.prog 35 #[.slice (some ⟨w.heap.size + 1, 0, none⟩) t.size C, .int .i64 i] W fun e w' => (getN (strB t) i = none → e = .returned (.tuple #[.int .i64 0, .int .i64 0, .bool false])) ∧ (∀ n j, getN (strB t) i = some (n, j) → e = .returned (.tuple #[.int .i64 n, .int .i64 (j : Nat), .bool true])) ∧ w' = W) := by
    intro i hi
    have := specGetNum_any (some ⟨w.heap.size + 1, 0, none⟩) (strB t) C i W hrd (strB_bytes t) (by rw [strB_len]; exact ht) (by omega)
    rw [strB_len] at this
    exact this
  have GT : Hid (∀ i : Int, i ≤ 1048576 → Calls Try.prog 36 #[.slice (some ⟨w.heap.size + 1, 0, none⟩) t.size C, .int .i64 i] W fun e w' => (getT (strB t) i = none → e = .returned (.tuple #[.string ByteArray.empty, .int .i64 0, .bool false])) ∧ (∀ ys j, getT (strB t) i = some (ys, j) → e = .returned (.tuple #[.string (strOf ys), .int .i64 (j : Nat), .bool true])) ∧ w' = W) := by
    intro i hi
    have := specGetText_any (some ⟨w.heap.size + 1, 0, none⟩) (strB t) C i W hrd (strB_bytes t) (by rw [strB_len]; exact ht) (by rw [strB_len]; exact hcap) (by omega)
    rw [strB_len] at this
    exact this
  have hzl := strB_len t
  clear df cA hbA hbX hbZ hbAW hrd hsA hltA
  go_enter Try.func59, Try.ntmps59
  go_wp2_with fail
  rw [← hA]
  rw [← hC]
  rw [← hX]
  rw [← hW]
  clear hA hC hX hW hcv
  refine (GN.out 0 (by decide)).mono ?_
  rintro e u ⟨hno, hyes, hu⟩
  have hu' := hu.symm
  subst hu'
  cases hg0 : getN (strB t) 0 with
  | none =>
    obtain rfl := hno hg0
    have HN : Hid (recR t = none) := by show _ = _; unfold recR; simp [hg0]
    clear hno hyes hg0 GN GT
    go_wp2
    exact bodyPost_ret (v := .tuple #[.agg #[.int .i64 0, .int .i64 0, .string ⟨#[]⟩], .bool false]) (by simp [results, Try.results59, go_sem, c0, c1, c2]) rfl ⟨fun s q d h => (by rw [HN.out] at h; cases h), fun _ => rfl, ((hbW.setCell (by show _ ≤ _; simp) _).setCell (by show _ ≤ _; simp) _).setCell (by show _ ≤ _; simp) _⟩
  | some r0 =>
    obtain ⟨x0, i0⟩ := r0
    obtain rfl := hyes x0 i0 hg0
    have b0 := getN_bd (strB_bytes t) hg0
    have H0 := hide hg0
    clear hno hyes hg0
    go_wp2_with fail
    refine (GN.out (i0 : Int) (by omega)).mono ?_
    rintro e u ⟨hno, hyes, hu⟩
    have hu' := hu.symm
    subst hu'
    cases hg1 : getN (strB t) (i0 : Int) with
    | none =>
      obtain rfl := hno hg1
      have HN : Hid (recR t = none) := by show _ = _; unfold recR; simp [H0.out, hg1]
      clear hno hyes hg1 GN GT
      go_wp2
      exact bodyPost_ret (v := .tuple #[.agg #[.int .i64 0, .int .i64 0, .string ⟨#[]⟩], .bool false]) (by simp [results, Try.results59, go_sem, c0, c1, c2]) rfl ⟨fun s q d h => (by rw [HN.out] at h; cases h), fun _ => rfl, ((hbW.setCell (by show _ ≤ _; simp) _).setCell (by show _ ≤ _; simp) _).setCell (by show _ ≤ _; simp) _⟩
    | some r1 =>
      obtain ⟨x1, i1⟩ := r1
      obtain rfl := hyes x1 i1 hg1
      have b1 := getN_bd (strB_bytes t) hg1
      have H1 := hide hg1
      clear hno hyes hg1
      go_wp2_with fail
      refine (GN.out (i1 : Int) (by omega)).mono ?_
      rintro e u ⟨hno, hyes, hu⟩
      have hu' := hu.symm
      subst hu'
      cases hg2 : getN (strB t) (i1 : Int) with
      | none =>
        obtain rfl := hno hg2
        have HN : Hid (recR t = none) := by show _ = _; unfold recR; simp [H0.out, H1.out, hg2]
        clear hno hyes hg2 GN GT
        go_wp2
        exact bodyPost_ret (v := .tuple #[.agg #[.int .i64 0, .int .i64 0, .string ⟨#[]⟩], .bool false]) (by simp [results, Try.results59, go_sem, c0, c1, c2]) rfl ⟨fun s q d h => (by rw [HN.out] at h; cases h), fun _ => rfl, ((hbW.setCell (by show _ ≤ _; simp) _).setCell (by show _ ≤ _; simp) _).setCell (by show _ ≤ _; simp) _⟩
      | some r2 =>
        obtain ⟨x2, i2⟩ := r2
        obtain rfl := hyes x2 i2 hg2
        have b2 := getN_bd (strB_bytes t) hg2
        have H2 := hide hg2
        clear hno hyes hg2
        go_wp2_with fail
        refine (GT.out (i2 : Int) (by omega)).mono ?_
        rintro e u ⟨hno, hyes, hu⟩
        have hu' := hu.symm
        subst hu'
        cases hg3 : getT (strB t) (i2 : Int) with
        | none =>
          obtain rfl := hno hg3
          have HN : Hid (recR t = none) := by show _ = _; unfold recR; simp [H0.out, H1.out, H2.out, hg3]
          clear hno hyes hg3 GN GT
          go_wp2
          exact bodyPost_ret (v := .tuple #[.agg #[.int .i64 0, .int .i64 0, .string ⟨#[]⟩], .bool false]) (by simp [results, Try.results59, go_sem, c0, c1, c2]) rfl ⟨fun s q d h => (by rw [HN.out] at h; cases h), fun _ => rfl, (((((hbW.setCell (by show _ ≤ _; simp; omega) _).setCell (by show _ ≤ _; simp; omega) _).setCell (by show _ ≤ _; simp; omega) _).setCell (by show _ ≤ _; simp) _).setCell (by show _ ≤ _; simp) _).setCell (by show _ ≤ _; simp) _⟩
        | some r3 =>
          obtain ⟨ys, i3⟩ := r3
          obtain rfl := hyes ys i3 hg3
          have H3 := hide hg3
          clear hno hyes hg3 GN GT
          have hyl : (strOf ys).size ≤ 1048576 := by
            rw [strOf_size]
            have h6 := getT_len H3.out
            omega
          obtain ⟨V, hV⟩ : ∃ V, V = ((W.setCell ⟨w.heap.size + 1 + 1, 0, none⟩ (.int .i64 x1)).setCell ⟨w.heap.size + 1 + 1, 1, none⟩ (.int .i64 x2)).setCell ⟨w.heap.size + 1 + 1, 2, none⟩ (.string (strOf ys)) := ⟨_, rfl⟩
          have hbV : Below w.heap.size w V := by rw [hV]; exact ((hbW.setCell (by show _ ≤ _; simp; omega) _).setCell (by show _ ≤ _; simp; omega) _).setCell (by show _ ≤ _; simp; omega) _
          have hsV : w.heap.size + 1 + 1 < V.heap.size := by rw [hV]; simpa [World.setCell] using hsW
          have cV : V.cell? ⟨w.heap.size, 0, none⟩ = some (.int .i64 0) ∧ V.cell? ⟨w.heap.size, 1, none⟩ = some (.int .i64 0) ∧ V.cell? ⟨w.heap.size, 2, none⟩ = some (.string ⟨#[]⟩) ∧ V.cell? ⟨w.heap.size + 1 + 1, 0, none⟩ = some (.int .i64 x1) ∧ V.cell? ⟨w.heap.size + 1 + 1, 1, none⟩ = some (.int .i64 x2) ∧ V.cell? ⟨w.heap.size + 1 + 1, 2, none⟩ = some (.string (strOf ys)) ∧
              V.frozen? ⟨w.heap.size, 0, none⟩ = false ∧ V.frozen? ⟨w.heap.size, 1, none⟩ = false ∧ V.frozen? ⟨w.heap.size, 2, none⟩ = false := by
            rw [hV]; refine ⟨?_, ?_, ?_, ?_, ?_, ?_, ?_, ?_, ?_⟩ <;> simp [go_sem, c0, c1, c2, d0, d1, d2, f0, f1, f2]
          go_wp2_with fail
          rw [← hV]
          clear hV c0 c1 c2 d0 d1 d2 f0 f1 f2 g0 g1 g2
          refine (specRecText_any x1 x2 (strOf ys) V (by unfold maxLen; omega) (by omega) (by omega) (by omega) (by omega)).mono ?_
          rintro e w1 ⟨rfl, hb1⟩
          have hl0 : w.heap.size < V.heap.size := by omega
          have c0 := (hb1.cell (p := ⟨w.heap.size, 0, none⟩) hl0).trans cV.1
          have c1 := (hb1.cell (p := ⟨w.heap.size, 1, none⟩) hl0).trans cV.2.1
          have c2 := (hb1.cell (p := ⟨w.heap.size, 2, none⟩) hl0).trans cV.2.2.1
          have d0 := (hb1.cell (p := ⟨w.heap.size + 1 + 1, 0, none⟩) hsV).trans cV.2.2.2.1
          have d1 := (hb1.cell (p := ⟨w.heap.size + 1 + 1, 1, none⟩) hsV).trans cV.2.2.2.2.1
          have d2 := (hb1.cell (p := ⟨w.heap.size + 1 + 1, 2, none⟩) hsV).trans cV.2.2.2.2.2.1
          have f0 := (hb1.frozen (p := ⟨w.heap.size, 0, none⟩) hl0).trans cV.2.2.2.2.2.2.1
          have f1 := (hb1.frozen (p := ⟨w.heap.size, 1, none⟩) hl0).trans cV.2.2.2.2.2.2.2.1
          have f2 := (hb1.frozen (p := ⟨w.heap.size, 2, none⟩) hl0).trans cV.2.2.2.2.2.2.2.2
          have hbw1 := after hbV hb1
          obtain ⟨R, hR⟩ : ∃ R, R = recT x1 x2 (strOf ys) := ⟨_, rfl⟩
          rw [← hR]
          clear cV hb1 hbV
          by_cases heq : R = t
          · have HY : Hid (recR t = some (x1, x2, strOf ys)) := by show _ = _; unfold recR; simp [H0.out, H1.out, H2.out, H3.out, ← hR, heq]
            clear hR
            subst heq
            go_wp2
            exact bodyPost_ret (v := .tuple #[.agg #[.int .i64 x1, .int .i64 x2, .string (strOf ys)], .bool true]) (by simp [results, Try.results59, go_sem, c0, c1, c2]) rfl ⟨fun s q d h => (by rw [HY.out] at h; simp at h; obtain ⟨rfl, rfl, rfl⟩ := h; rfl), fun h => (by rw [HY.out] at h; cases h), ((hbw1.setCell (by show _ ≤ _; simp) _).setCell (by show _ ≤ _; simp) _).setCell (by show _ ≤ _; simp) _⟩
          · have HN : Hid (recR t = none) := by show _ = _; unfold recR; simp [H0.out, H1.out, H2.out, H3.out, ← hR, heq]
            have hne : (R.toList == t.toList) = false := by simpa using fun h => heq (text_inj h)
            clear hR heq
            go_wp2
            exact bodyPost_ret (v := .tuple #[.agg #[.int .i64 0, .int .i64 0, .string ⟨#[]⟩], .bool false]) (by simp [results, Try.results59, go_sem, c0, c1, c2]) rfl ⟨fun s q d h => (by rw [HN.out] at h; cases h), fun _ => rfl, ((hbw1.setCell (by show _ ≤ _; simp) _).setCell (by show _ ≤ _; simp) _).setCell (by show _ ≤ _; simp) _⟩

end Go.Proofs.Ytdicjbabnknjhaa
