/-
  Contract of the specification's RecRead.
  Contract of the specification's l2Wipe: the first pages of a block of a chip that is our own are cleared, its number is one more.
  Contract of the specification's Mount.
-/
import Derived.Test.YtdicjbabnknjhaaGreatJRecover7
import Derived.Test.YtdicjbabnknjhaaGreatJRecover3
import Derived.RegionTactic
import Derived.BigRegion
import Derived.Deep.QuietTactic
import Derived.BigQuiet
namespace Go.Proofs.YtdicjbabnknjhaaGreat
open Go.RowKit

/-- The bytes of a text, as '[]byte(s)' has laid them. -/
theorem rd_bytes (t : ByteArray) (w : World) (c : Nat) : Rd (w.alloc (Obj.cells (bytesRow t c) 5 ((bytesRow t c).size, (bytesRow t c).size + 1))).drew (some ⟨w.heap.size, 0, none⟩) (u8s (strB t)) := by
  refine .inr ⟨_, 0, rfl, fun i v hv => ?_⟩
  rw [strB_cells] at hv
  have := bytes_lie t w c i v hv
  rw [add_at] at this
  exact this

theorem text_inj {x y : ByteArray} (h : x.toList = y.toList) : x = y := by
  rw [ByteArray.toList_eq, ByteArray.toList_eq] at h
  cases x; cases y
  simpa using h
theorem getT_len {zs : List Int} {i : Int} {ys : List Int} {q : Nat} (h : getT zs i = some (ys, q)) : ys.length ≤ 400 := by
  unfold getT at h
  cases hg : getN zs i with
  | none => rw [hg] at h; simp at h
  | some r =>
    obtain ⟨n, j⟩ := r
    rw [hg] at h
    simp only [] at h
    by_cases hc : 400 < n ∨ (zs.length : Int) - j < n
    · rw [if_pos hc] at h; simp at h
    · rw [if_neg hc] at h
      simp only [Option.some.injEq, Prod.mk.injEq] at h
      obtain ⟨rfl, rfl⟩ := h
      simp; omega

set_option maxRecDepth 100000 in
set_option maxHeartbeats 6400000 in
theorem specRecRead_any (t : ByteArray) (w : World) (ht : t.size ≤ 1048576) :
    Calls Tryz.prog 58 #[.string t] w fun e w' => (∀ s q d, recR t = some (s, q, d) → e = .returned (.tuple #[.agg #[.int .i64 s, .int .i64 q, .string d], .bool true])) ∧
      (recR t = none → e = .returned (.tuple #[.agg #[.int .i64 0, .int .i64 0, .string ByteArray.empty], .bool false])) ∧ Below w.heap.size w w' := by
  have hcv := fun w => run_bytes_of_string (P := Tryz.prog) w 9 82 5 t Tryz.underlying9 Tryz.underlying82 Tryz.underlying5
  obtain ⟨A, hA⟩ : ∃ A, A = w.alloc (Obj.cells #[.int .i64 0, .int .i64 0, .string ⟨#[]⟩] 87) := ⟨_, rfl⟩
  have hsA : A.heap.size = w.heap.size + 1 := by rw [hA]; simp
  obtain ⟨C, hC⟩ : ∃ C, C = grownCap A t.size 0 5 := ⟨_, rfl⟩
  have hcap : t.size ≤ C := by rw [hC]; exact grownCap_ge _ _ _ _
  obtain ⟨X, hX⟩ : ∃ X, X = Obj.cells (bytesRow t C) 5 ((bytesRow t C).size, (bytesRow t C).size + 1) := ⟨_, rfl⟩
  obtain ⟨W, hW⟩ : ∃ W, W = ((A.alloc X).alloc (Obj.cells #[.int .i64 0, .int .i64 0, .string ⟨#[]⟩] 87)).drew := ⟨_, rfl⟩
  have hbA : Below w.heap.size w A := by rw [hA]; exact (Below.refl _ _).alloc (Nat.le_refl _) _
  have hbX : Below A.heap.size A (A.alloc X).drew := after_drew ((Below.refl _ _).alloc (Nat.le_refl _) _) 1
  have hbZ : Below (A.alloc X).drew.heap.size (A.alloc X).drew W := by rw [hW]; exact ((Below.refl _ _).alloc (Nat.le_refl _) _)
  have hbW : Below w.heap.size w W := after (after hbA hbX) hbZ
  have hrd : Rd W (some ⟨w.heap.size + 1, 0, none⟩) (u8s (strB t)) := by
    have := (rd_bytes t A C)
    rw [← hX, hsA] at this
    exact this.below hbZ
  have cA : A.cell? ⟨w.heap.size, 0, none⟩ = some (.int .i64 0) ∧ A.cell? ⟨w.heap.size, 1, none⟩ = some (.int .i64 0) ∧ A.cell? ⟨w.heap.size, 2, none⟩ = some (.string ⟨#[]⟩) ∧ ∀ j, A.frozen? ⟨w.heap.size, j, none⟩ = false := by
    rw [hA]; refine ⟨?_, ?_, ?_, fun j => ?_⟩ <;> simp
  have hbAW := after hbX hbZ
  have hltA : w.heap.size < A.heap.size := by omega
  have c0 := (hbAW.cell (p := ⟨w.heap.size, 0, none⟩) hltA).trans cA.1
  have c1 := (hbAW.cell (p := ⟨w.heap.size, 1, none⟩) hltA).trans cA.2.1
  have c2 := (hbAW.cell (p := ⟨w.heap.size, 2, none⟩) hltA).trans cA.2.2.1
  have f0 := (hbAW.frozen (p := ⟨w.heap.size, 0, none⟩) hltA).trans (cA.2.2.2 0)
  have f1 := (hbAW.frozen (p := ⟨w.heap.size, 1, none⟩) hltA).trans (cA.2.2.2 1)
  have f2 := (hbAW.frozen (p := ⟨w.heap.size, 2, none⟩) hltA).trans (cA.2.2.2 2)
  have dW : W.cell? ⟨w.heap.size + 1 + 1, 0, none⟩ = some (.int .i64 0) ∧ W.cell? ⟨w.heap.size + 1 + 1, 1, none⟩ = some (.int .i64 0) ∧ W.cell? ⟨w.heap.size + 1 + 1, 2, none⟩ = some (.string ⟨#[]⟩) ∧ (∀ j, W.frozen? ⟨w.heap.size + 1 + 1, j, none⟩ = false) ∧ w.heap.size + 1 + 1 < W.heap.size := by
    have e : w.heap.size + 1 + 1 = (A.alloc X).heap.size := by simp [hsA]
    rw [hW, e]
    refine ⟨?_, ?_, ?_, fun j => ?_, ?_⟩
    · show ((A.alloc X).alloc _).cell? _ = _; simp
    · show ((A.alloc X).alloc _).cell? _ = _; simp
    · show ((A.alloc X).alloc _).cell? _ = _; simp
    · show ((A.alloc X).alloc _).frozen? _ = _; simp
    · show _ < ((A.alloc X).alloc _).heap.size; simp
  obtain ⟨d0, d1, d2, df, hsW⟩ := dW
  have g0 := df 0
  have g1 := df 1
  have g2 := df 2
  have GN : Hid (∀ i : Int, i ≤ 1048576 → Calls Tryz.prog 75 #[.slice (some ⟨w.heap.size + 1, 0, none⟩) t.size C, .int .i64 i] W fun e w' => (getN (strB t) i = none → e = .returned (.tuple #[.int .i64 0, .int .i64 0, .bool false])) ∧ (∀ n j, getN (strB t) i = some (n, j) → e = .returned (.tuple #[.int .i64 n, .int .i64 (j : Nat), .bool true])) ∧ w' = W) := by
    intro i hi
    have := specGetNum_any (some ⟨w.heap.size + 1, 0, none⟩) (strB t) C i W hrd (strB_bytes t) (by rw [strB_len]; exact ht) (by omega)
    rw [strB_len] at this
    exact this
  have GT : Hid (∀ i : Int, i ≤ 1048576 → Calls Tryz.prog 76 #[.slice (some ⟨w.heap.size + 1, 0, none⟩) t.size C, .int .i64 i] W fun e w' => (getT (strB t) i = none → e = .returned (.tuple #[.string ByteArray.empty, .int .i64 0, .bool false])) ∧ (∀ ys j, getT (strB t) i = some (ys, j) → e = .returned (.tuple #[.string (strOf ys), .int .i64 (j : Nat), .bool true])) ∧ w' = W) := by
    intro i hi
    have := specGetText_any (some ⟨w.heap.size + 1, 0, none⟩) (strB t) C i W hrd (strB_bytes t) (by rw [strB_len]; exact ht) (by rw [strB_len]; exact hcap) (by omega)
    rw [strB_len] at this
    exact this
  have hzl := strB_len t
  clear df cA hbA hbX hbZ hbAW hrd hsA hltA
  go_enter Tryz.func58, Tryz.ntmps58
  go_wp2_with fail
  rw [← hA]
  rw [← hC]
  rw [← hX]
  rw [← hW]
  clear hA hC hX hW hcv
  refine (GN.out 0 (by decide)).mono ?_
  rintro e u ⟨hno, hyes, hu⟩
  have hu' := hu.symm
  subst hu'
  cases hg0 : getN (strB t) 0 with
  | none =>
    obtain rfl := hno hg0
    have HN : Hid (recR t = none) := by show _ = _; unfold recR; simp [hg0]
    clear hno hyes hg0 GN GT
    go_wp2
    exact bodyPost_ret (v := .tuple #[.agg #[.int .i64 0, .int .i64 0, .string ⟨#[]⟩], .bool false]) (by simp [results, Tryz.results58, go_sem, c0, c1, c2]) rfl ⟨fun s q d h => (by rw [HN.out] at h; cases h), fun _ => rfl, ((hbW.setCell (by show _ ≤ _; simp) _).setCell (by show _ ≤ _; simp) _).setCell (by show _ ≤ _; simp) _⟩
  | some r0 =>
    obtain ⟨x0, i0⟩ := r0
    obtain rfl := hyes x0 i0 hg0
    have b0 := getN_bd (strB_bytes t) hg0
    have H0 := hide hg0
    clear hno hyes hg0
    go_wp2_with fail
    refine (GN.out (i0 : Int) (by omega)).mono ?_
    rintro e u ⟨hno, hyes, hu⟩
    have hu' := hu.symm
    subst hu'
    cases hg1 : getN (strB t) (i0 : Int) with
    | none =>
      obtain rfl := hno hg1
      have HN : Hid (recR t = none) := by show _ = _; unfold recR; simp [H0.out, hg1]
      clear hno hyes hg1 GN GT
      go_wp2
      exact bodyPost_ret (v := .tuple #[.agg #[.int .i64 0, .int .i64 0, .string ⟨#[]⟩], .bool false]) (by simp [results, Tryz.results58, go_sem, c0, c1, c2]) rfl ⟨fun s q d h => (by rw [HN.out] at h; cases h), fun _ => rfl, ((hbW.setCell (by show _ ≤ _; simp) _).setCell (by show _ ≤ _; simp) _).setCell (by show _ ≤ _; simp) _⟩
    | some r1 =>
      obtain ⟨x1, i1⟩ := r1
      obtain rfl := hyes x1 i1 hg1
      have b1 := getN_bd (strB_bytes t) hg1
      have H1 := hide hg1
      clear hno hyes hg1
      go_wp2_with fail
      refine (GN.out (i1 : Int) (by omega)).mono ?_
      rintro e u ⟨hno, hyes, hu⟩
      have hu' := hu.symm
      subst hu'
      cases hg2 : getN (strB t) (i1 : Int) with
      | none =>
        obtain rfl := hno hg2
        have HN : Hid (recR t = none) := by show _ = _; unfold recR; simp [H0.out, H1.out, hg2]
        clear hno hyes hg2 GN GT
        go_wp2
        exact bodyPost_ret (v := .tuple #[.agg #[.int .i64 0, .int .i64 0, .string ⟨#[]⟩], .bool false]) (by simp [results, Tryz.results58, go_sem, c0, c1, c2]) rfl ⟨fun s q d h => (by rw [HN.out] at h; cases h), fun _ => rfl, ((hbW.setCell (by show _ ≤ _; simp) _).setCell (by show _ ≤ _; simp) _).setCell (by show _ ≤ _; simp) _⟩
      | some r2 =>
        obtain ⟨x2, i2⟩ := r2
        obtain rfl := hyes x2 i2 hg2
        have b2 := getN_bd (strB_bytes t) hg2
        have H2 := hide hg2
        clear hno hyes hg2
        go_wp2_with fail
        refine (GT.out (i2 : Int) (by omega)).mono ?_
        rintro e u ⟨hno, hyes, hu⟩
        have hu' := hu.symm
        subst hu'
        cases hg3 : getT (strB t) (i2 : Int) with
        | none =>
          obtain rfl := hno hg3
          have HN : Hid (recR t = none) := by show _ = _; unfold recR; simp [H0.out, H1.out, H2.out, hg3]
          clear hno hyes hg3 GN GT
          go_wp2
          exact bodyPost_ret (v := .tuple #[.agg #[.int .i64 0, .int .i64 0, .string ⟨#[]⟩], .bool false]) (by simp [results, Tryz.results58, go_sem, c0, c1, c2]) rfl ⟨fun s q d h => (by rw [HN.out] at h; cases h), fun _ => rfl, (((((hbW.setCell (by show _ ≤ _; simp; omega) _).setCell (by show _ ≤ _; simp; omega) _).setCell (by show _ ≤ _; simp; omega) _).setCell (by show _ ≤ _; simp) _).setCell (by show _ ≤ _; simp) _).setCell (by show _ ≤ _; simp) _⟩
        | some r3 =>
          obtain ⟨ys, i3⟩ := r3
          obtain rfl := hyes ys i3 hg3
          have H3 := hide hg3
          clear hno hyes hg3 GN GT
          have hyl : (strOf ys).size ≤ 1048576 := by
            rw [strOf_size]
            have h6 := getT_len H3.out
            omega
          obtain ⟨V, hV⟩ : ∃ V, V = ((W.setCell ⟨w.heap.size + 1 + 1, 0, none⟩ (.int .i64 x1)).setCell ⟨w.heap.size + 1 + 1, 1, none⟩ (.int .i64 x2)).setCell ⟨w.heap.size + 1 + 1, 2, none⟩ (.string (strOf ys)) := ⟨_, rfl⟩
          have hbV : Below w.heap.size w V := by rw [hV]; exact ((hbW.setCell (by show _ ≤ _; simp; omega) _).setCell (by show _ ≤ _; simp; omega) _).setCell (by show _ ≤ _; simp; omega) _
          have hsV : w.heap.size + 1 + 1 < V.heap.size := by rw [hV]; simpa [World.setCell] using hsW
          have cV : V.cell? ⟨w.heap.size, 0, none⟩ = some (.int .i64 0) ∧ V.cell? ⟨w.heap.size, 1, none⟩ = some (.int .i64 0) ∧ V.cell? ⟨w.heap.size, 2, none⟩ = some (.string ⟨#[]⟩) ∧ V.cell? ⟨w.heap.size + 1 + 1, 0, none⟩ = some (.int .i64 x1) ∧ V.cell? ⟨w.heap.size + 1 + 1, 1, none⟩ = some (.int .i64 x2) ∧ V.cell? ⟨w.heap.size + 1 + 1, 2, none⟩ = some (.string (strOf ys)) ∧
              V.frozen? ⟨w.heap.size, 0, none⟩ = false ∧ V.frozen? ⟨w.heap.size, 1, none⟩ = false ∧ V.frozen? ⟨w.heap.size, 2, none⟩ = false := by
            rw [hV]; refine ⟨?_, ?_, ?_, ?_, ?_, ?_, ?_, ?_, ?_⟩ <;> simp [go_sem, c0, c1, c2, d0, d1, d2, f0, f1, f2]
          go_wp2_with fail
          rw [← hV]
          clear hV c0 c1 c2 d0 d1 d2 f0 f1 f2 g0 g1 g2
          refine (specRecText_any x1 x2 (strOf ys) V (by unfold maxLen; omega) (by omega) (by omega) (by omega) (by omega)).mono ?_
          rintro e w1 ⟨rfl, hb1⟩
          have hl0 : w.heap.size < V.heap.size := by omega
          have c0 := (hb1.cell (p := ⟨w.heap.size, 0, none⟩) hl0).trans cV.1
          have c1 := (hb1.cell (p := ⟨w.heap.size, 1, none⟩) hl0).trans cV.2.1
          have c2 := (hb1.cell (p := ⟨w.heap.size, 2, none⟩) hl0).trans cV.2.2.1
          have d0 := (hb1.cell (p := ⟨w.heap.size + 1 + 1, 0, none⟩) hsV).trans cV.2.2.2.1
          have d1 := (hb1.cell (p := ⟨w.heap.size + 1 + 1, 1, none⟩) hsV).trans cV.2.2.2.2.1
          have d2 := (hb1.cell (p := ⟨w.heap.size + 1 + 1, 2, none⟩) hsV).trans cV.2.2.2.2.2.1
          have f0 := (hb1.frozen (p := ⟨w.heap.size, 0, none⟩) hl0).trans cV.2.2.2.2.2.2.1
          have f1 := (hb1.frozen (p := ⟨w.heap.size, 1, none⟩) hl0).trans cV.2.2.2.2.2.2.2.1
          have f2 := (hb1.frozen (p := ⟨w.heap.size, 2, none⟩) hl0).trans cV.2.2.2.2.2.2.2.2
          have hbw1 := after hbV hb1
          obtain ⟨R, hR⟩ : ∃ R, R = recT x1 x2 (strOf ys) := ⟨_, rfl⟩
          rw [← hR]
          clear cV hb1 hbV
          by_cases heq : R = t
          · have HY : Hid (recR t = some (x1, x2, strOf ys)) := by show _ = _; unfold recR; simp [H0.out, H1.out, H2.out, H3.out, ← hR, heq]
            clear hR
            subst heq
            go_wp2
            exact bodyPost_ret (v := .tuple #[.agg #[.int .i64 x1, .int .i64 x2, .string (strOf ys)], .bool true]) (by simp [results, Tryz.results58, go_sem, c0, c1, c2]) rfl ⟨fun s q d h => (by rw [HY.out] at h; simp at h; obtain ⟨rfl, rfl, rfl⟩ := h; rfl), fun h => (by rw [HY.out] at h; cases h), ((hbw1.setCell (by show _ ≤ _; simp) _).setCell (by show _ ≤ _; simp) _).setCell (by show _ ≤ _; simp) _⟩
          · have HN : Hid (recR t = none) := by show _ = _; unfold recR; simp [H0.out, H1.out, H2.out, H3.out, ← hR, heq]
            have hne : (R.toList == t.toList) = false := by simpa using fun h => heq (text_inj h)
            clear hR heq
            go_wp2
            exact bodyPost_ret (v := .tuple #[.agg #[.int .i64 0, .int .i64 0, .string ⟨#[]⟩], .bool false]) (by simp [results, Tryz.results58, go_sem, c0, c1, c2]) rfl ⟨fun s q d h => (by rw [HN.out] at h; cases h), fun _ => rfl, ((hbw1.setCell (by show _ ≤ _; simp) _).setCell (by show _ ≤ _; simp) _).setCell (by show _ ≤ _; simp) _⟩

end Go.Proofs.YtdicjbabnknjhaaGreat

namespace Go.Proofs.YtdicjbabnknjhaaGreat
open Go.RowKit

/-- The first m pages of a block are clear. -/
def wipeP (ps : List ByteArray) (B : Nat) : Nat → List ByteArray
  | 0 => ps
  | m + 1 => (wipeP ps B m).set (B * 6 + m) ByteArray.empty
theorem wipeP_len (ps : List ByteArray) (B m : Nat) : (wipeP ps B m).length = ps.length := by
  induction m with
  | zero => rfl
  | succ m ih => simp [wipeP, ih]

theorem grown_setB (w : World) (p o : Nat) (v : Value) : w.grownBy (w.setCell ⟨p, o, none⟩ v) (some p) :=
  ⟨rfl, rfl, rfl, by simp [World.setCell], fun k _ hk => Below.heap_setCell _ _ _ _ (fun e => hk (by rw [e]))⟩

theorem OnlyIn.drew {w w' : World} {L : List (Option Nat)} (h : OnlyIn w w' L) : OnlyIn w w'.drew L := ⟨h.os, h.tape, h.output, h.size, h.block⟩

set_option maxHeartbeats 3200000 in
theorem wipe_any (g k g' k' base B M : Nat) (n x : Int) (ps : List ByteArray) (ws : List Int) (w : World) (hl : ps.length = 60) (hm : ws.length = 10)
    (ho1 : w.ownsRow base 9 1 (.slice (some ⟨g, 0, none⟩) ps.length k) ps.length (vsString ps)) (ho2 : w.ownsRow base 3 1 (.slice (some ⟨g', 0, none⟩) ws.length k') ws.length (vsInt ws)) (hne : g ≠ g')
    (hB : B < 10) (hx : ws[B]? = some x) (hx0 : 0 ≤ x) (hx1 : x ≤ 1000000000) (hM : (M : Int) = max (min n 6) 0) (hn1 : n ≤ 9223372036854775807) :
    Calls Tryz.prog 128 #[.agg #[.slice (some ⟨g, 0, none⟩) ps.length k, .slice (some ⟨g', 0, none⟩) ws.length k'], .int .i64 B, .int .i64 n] w fun e w' =>
      e = .returned (.agg #[.slice (some ⟨g, 0, none⟩) ps.length k, .slice (some ⟨g', 0, none⟩) ws.length k']) ∧ w'.ownsRow base 9 1 (.slice (some ⟨g, 0, none⟩) ps.length k) ps.length (vsString (wipeP ps B M)) ∧
      w'.ownsRow base 3 1 (.slice (some ⟨g', 0, none⟩) ws.length k') ws.length (vsInt (ws.set B (x + 1))) ∧ OnlyIn w w' [some g, some g'] := by
  obtain ⟨W, hW⟩ : ∃ W, W = (w.alloc (Obj.cells #[.slice (some ⟨g, 0, none⟩) ps.length k, .slice (some ⟨g', 0, none⟩) ws.length k'] 32)).alloc (Obj.cells #[.slice none 0 0, .slice none 0 0] 32) := ⟨_, rfl⟩
  have hbW : Below w.heap.size w W := by subst hW; exact ((Below.refl _ _).alloc (Nat.le_refl _) _).alloc (by simp) _
  have cW : W.cell? ⟨w.heap.size, 0, none⟩ = some (.slice (some ⟨g, 0, none⟩) ps.length k) ∧ W.cell? ⟨w.heap.size, 1, none⟩ = some (.slice (some ⟨g', 0, none⟩) ws.length k') ∧ W.cell? ⟨w.heap.size + 1, 0, none⟩ = some (.slice none 0 0) ∧ W.cell? ⟨w.heap.size + 1, 1, none⟩ = some (.slice none 0 0) ∧ W.frozen? ⟨w.heap.size + 1, 0, none⟩ = false ∧ W.frozen? ⟨w.heap.size + 1, 1, none⟩ = false := by
    subst hW; refine ⟨?_, ?_, ?_, ?_, ?_, ?_⟩ <;> simp [go_sem]
  have hsW : w.heap.size + 1 < W.heap.size := by subst hW; simp
  have hg : g < w.heap.size := (owns_lt ho1).2
  have hg' : g' < w.heap.size := (owns_lt ho2).2
  have oW1 := owns_below ho1 hbW
  have oW2 := owns_below ho2 hbW
  have HL : Hid (ps.length = 60 ∧ ws.length = 10) := ⟨hl, hm⟩
  have hl1 : 60 ≤ ps.length ∧ ps.length ≤ 60 := by omega
  have hm1 : 10 ≤ ws.length ∧ ws.length ≤ 10 := by omega
  have HX : Hid (ws[B]? = some x) := hx
  have HM : Hid ((M : Int) = max (min n 6) 0) := hM
  clear hl hm ho1 ho2 hx hM
  go_enter Tryz.func128, Tryz.ntmps128
  go_wp2
  rw [← hW]
  clear hW
  go_loopw [7] (fun i wr => ∃ j : Nat, j ≤ M ∧ i = .int .i64 j ∧ wr.ownsRow base 9 1 (.slice (some ⟨g, 0, none⟩) ps.length k) ps.length (vsString (wipeP ps B j)) ∧ W.grownBy wr (some g)) (fun i _ => M - (intOf i).toNat)
  case atStart => exact ⟨0, Nat.zero_le _, rfl, oW1, World.grownBy.refl _ _⟩
  case round =>
    obtain ⟨j, hj, rfl, hown, hgr⟩ := hrel
    have c1 := hgr.cell cW.1 (by simp; omega)
    have c2 := hgr.cell cW.2.1 (by simp; omega)
    have hMn : M ≤ 6 := by have := HM.out; omega
    by_cases hlt : j < M
    · have t1 : (j : Int) < n := by have := HM.out; omega
      have t2 : (j : Int) < 6 := by omega
      have hfz := hown.frozenAt (B * 6 + j)
      have hst := hown.stored (B * 6 + j) (.string ⟨#[]⟩)
      have hcell : ∃ u, wr.cell? ⟨g, B * 6 + j, none⟩ = some u := by
        have h1 := hown.cellAt (B * 6 + j) (by omega)
        have h2 : B * 6 + j < (vsString (wipeP ps B j)).length := by rw [hown.1]; omega
        exact ⟨(vsString (wipeP ps B j))[B * 6 + j], by rw [h1]; exact List.getElem?_eq_getElem h2⟩
      obtain ⟨u, hcell⟩ := hcell
      have HO : Hid ((wr.setCell ⟨g, B * 6 + j, none⟩ (.string ⟨#[]⟩)).ownsRow base 9 1 (.slice (some ⟨g, 0, none⟩) ps.length k) ps.length (vsString (wipeP ps B (j + 1))) ∧ W.grownBy (wr.setCell ⟨g, B * 6 + j, none⟩ (.string ⟨#[]⟩)) (some g)) := by
        refine ⟨?_, grown_trans hgr hst.2⟩
        have e : (vsString (wipeP ps B j)).set (B * 6 + j) (.string ⟨#[]⟩) = vsString (wipeP ps B (j + 1)) := by simp [wipeP, List.map_set]; rfl
        rw [← e]; exact hst.1
      clear hst hown hgr cW oW1 oW2
      go_wp2
      go_roundw
      case rel => exact ⟨j + 1, by omega, by go_num, HO.out.1, HO.out.2⟩
      case measure => simp [intOf]; omega
    · have hjM : j = M := by omega
      subst hjM
      have o2 := oW2.kept hgr (.inr (by simp [Value.ownBlock]; omega))
      have c3 := hgr.cell cW.2.2.1 (by simp; omega)
      have c4 := hgr.cell cW.2.2.2.1 (by simp; omega)
      have f3 : wr.frozen? ⟨w.heap.size + 1, 0, none⟩ = false := (World.frozen?_of_block (w := W) (hgr.block (w.heap.size + 1) (by omega) (by simp; omega))).trans cW.2.2.2.2.1
      have f4 : wr.frozen? ⟨w.heap.size + 1, 1, none⟩ = false := (World.frozen?_of_block (w := W) (hgr.block (w.heap.size + 1) (by omega) (by simp; omega))).trans cW.2.2.2.2.2
      have hwc : wr.cell? ⟨g', B, none⟩ = some (.int .i64 x) := by
        rw [o2.cellAt B (by omega), List.getElem?_map, HX.out]; rfl
      have hwf := o2.frozenAt B
      have hst := o2.stored B (.int .i64 (x + 1))
      have hgn : ¬ g' = w.heap.size := by omega
      have hgn1 : ¬ g' = w.heap.size + 1 := by omega
      have hI1 : (0 : Int) ≤ (B : Int) := by omega
      have hI2 : (B : Int) < (ws.length : Int) := by omega
      have HF : Hid (∀ q r, ((((wr.setCell ⟨g', B, none⟩ (.int .i64 (x + 1))).setCell ⟨w.heap.size + 1, 0, none⟩ q).setCell ⟨w.heap.size + 1, 1, none⟩ r).ownsRow base 9 1 (.slice (some ⟨g, 0, none⟩) ps.length k) ps.length (vsString (wipeP ps B j))) ∧
          ((((wr.setCell ⟨g', B, none⟩ (.int .i64 (x + 1))).setCell ⟨w.heap.size + 1, 0, none⟩ q).setCell ⟨w.heap.size + 1, 1, none⟩ r).ownsRow base 3 1 (.slice (some ⟨g', 0, none⟩) ws.length k') ws.length (vsInt (ws.set B (x + 1)))) ∧
          OnlyIn w (((wr.setCell ⟨g', B, none⟩ (.int .i64 (x + 1))).setCell ⟨w.heap.size + 1, 0, none⟩ q).setCell ⟨w.heap.size + 1, 1, none⟩ r) [some g, some g']) := by
        intro q r
        have e : (vsInt ws).set B (.int .i64 (x + 1)) = vsInt (ws.set B (x + 1)) := by simp [List.map_set]
        have s1 := hst.1
        rw [e] at s1
        have on0 : OnlyIn w wr [some g] := by
          have := (OnlyIn.of_below hbW []).trans (OnlyIn.of_grown hgr)
          simpa using this
        have on1 : OnlyIn w (wr.setCell ⟨g', B, none⟩ (.int .i64 (x + 1))) [some g, some g'] := on0.trans (OnlyIn.of_grown hst.2)
        have s2 : (wr.setCell ⟨g', B, none⟩ (.int .i64 (x + 1))).ownsRow base 9 1 (.slice (some ⟨g, 0, none⟩) ps.length k) ps.length (vsString (wipeP ps B j)) := hown.kept hst.2 (.inr (by simp [Value.ownBlock]; omega))
        have g1 := grown_trans (grown_setB (wr.setCell ⟨g', B, none⟩ (.int .i64 (x + 1))) (w.heap.size + 1) 0 q) (grown_setB _ (w.heap.size + 1) 1 r)
        refine ⟨s2.kept g1 (.inr (by simp [Value.ownBlock]; omega)), s1.kept g1 (.inr (by simp [Value.ownBlock]; omega)), ?_⟩
        refine ⟨on1.os, on1.tape, on1.output, Nat.le_trans on1.size g1.size, fun i hi hn => ?_⟩
        rw [g1.block i (Nat.lt_of_lt_of_le hi on1.size) (by simp; omega)]
        exact on1.block i hi hn
      clear cW oW1 oW2 hown hgr hst o2 hbW
      by_cases t1 : (j : Int) < n
      · have t2 : ¬ (j : Int) < 6 := by have := HM.out; omega
        go_wp2
        go_region
        go_wp2
        exact bodyPost_ret (v := .agg #[.slice (some ⟨g, 0, none⟩) ps.length k, .slice (some ⟨g', 0, none⟩) ws.length k']) (by simp [results, Tryz.results128, go_sem, c3, c4]) rfl ⟨rfl, (HF.out _ _).1, (HF.out _ _).2.1, (HF.out _ _).2.2.drew⟩
      · go_wp2
        go_region
        go_wp2
        exact bodyPost_ret (v := .agg #[.slice (some ⟨g, 0, none⟩) ps.length k, .slice (some ⟨g', 0, none⟩) ws.length k']) (by simp [results, Tryz.results128, go_sem, c3, c4]) rfl ⟨rfl, (HF.out _ _).1, (HF.out _ _).2.1, (HF.out _ _).2.2.drew⟩

end Go.Proofs.YtdicjbabnknjhaaGreat

namespace Go.Proofs.YtdicjbabnknjhaaGreat
open Go.RowKit

/-- What is mounted, its three rows the call's own, in three blocks. -/
def FtlOwn (w : World) (base : Nat) (v : Value) (ps : List ByteArray) (ws ms : List Int) (q : Int) : Prop :=
  ∃ v1 v2 v3, v = .agg #[v1, v2, v3, .int .i64 q] ∧ w.ownsRow base 9 1 v1 ps.length (vsString ps) ∧ w.ownsRow base 3 1 v2 ws.length (vsInt ws) ∧ w.ownsRow base 3 1 v3 ms.length (vsInt ms) ∧
    (∀ k, v1.ownBlock = some k → v2.ownBlock ≠ some k) ∧ (∀ k, v1.ownBlock = some k → v3.ownBlock ≠ some k) ∧ (∀ k, v2.ownBlock = some k → v3.ownBlock ≠ some k)
theorem ftlOwn_zero (w : World) (base : Nat) : FtlOwn w base (.agg #[.slice none 0 0, .slice none 0 0, .slice none 0 0, .int .i64 0]) [] [] [] 0 :=
  ⟨_, _, _, rfl, World.ownsRow_nil _ _ _ _, World.ownsRow_nil _ _ _ _, World.ownsRow_nil _ _ _ _, fun k hk => by simp [Value.ownBlock] at hk, fun k hk => by simp [Value.ownBlock] at hk, fun k hk => by simp [Value.ownBlock] at hk⟩

set_option maxHeartbeats 1600000 in
theorem specMount_bad (a b : Option Addr) (ps : List ByteArray) (ws : List Int) (c d : Nat) (w : World) (hp : Rd w a (vsString ps)) (hw : Rd w b (vsInt ws)) (hl : ps.length ≤ 1048576) (hm : ws.length ≤ 1048576) (hs : ∀ s ∈ ps, s.size ≤ 1048576) (hok : ¬ chipOkP ps ws) :
    Calls Tryz.prog 51 #[.agg #[.slice a ps.length c, .slice b ws.length d]] w fun e w' => ∃ v, e = .returned v ∧ FtlOwn w' w.heap.size v [] [] [] 0 ∧ Below w.heap.size w w' := by
  obtain ⟨W, hW⟩ : ∃ W, W = (w.alloc (Obj.cells #[.slice a ps.length c, .slice b ws.length d] 32)).alloc (Obj.cells #[.slice none 0 0, .slice none 0 0, .slice none 0 0, .int .i64 0] 34) := ⟨_, rfl⟩
  have hbW : Below w.heap.size w W := by subst hW; exact ((Below.refl _ _).alloc (Nat.le_refl _) _).alloc (by simp) _
  have cW : W.cell? ⟨w.heap.size + 1, 0, none⟩ = some (.slice none 0 0) ∧ W.cell? ⟨w.heap.size + 1, 1, none⟩ = some (.slice none 0 0) ∧ W.cell? ⟨w.heap.size + 1, 2, none⟩ = some (.slice none 0 0) ∧ W.cell? ⟨w.heap.size + 1, 3, none⟩ = some (.int .i64 0) ∧ (∀ j, W.frozen? ⟨w.heap.size + 1, j, none⟩ = false) ∧ w.heap.size + 1 < W.heap.size := by
    subst hW; refine ⟨?_, ?_, ?_, ?_, fun j => ?_, ?_⟩ <;> simp [go_sem]
  obtain ⟨x0, x1, x2, x3, xf, hsz⟩ := cW
  have hB := chipOkB_false hok
  go_enter Tryz.func51, Tryz.ntmps51
  go_wp2_with fail
  rw [← hW]
  clear hW
  refine (specChipOk_any a b ps ws c d _ (hp.below hbW) (hw.below hbW) hl hm hs).mono ?_
  rw [hB]
  rintro e w1 ⟨rfl, hb1⟩
  have k0 := (hb1.cell (p := ⟨w.heap.size + 1, 0, none⟩) hsz).trans x0
  have k1 := (hb1.cell (p := ⟨w.heap.size + 1, 1, none⟩) hsz).trans x1
  have k2 := (hb1.cell (p := ⟨w.heap.size + 1, 2, none⟩) hsz).trans x2
  have k3 := (hb1.cell (p := ⟨w.heap.size + 1, 3, none⟩) hsz).trans x3
  have f0 := (hb1.frozen (p := ⟨w.heap.size + 1, 0, none⟩) hsz).trans (xf 0)
  have f1 := (hb1.frozen (p := ⟨w.heap.size + 1, 1, none⟩) hsz).trans (xf 1)
  have f2 := (hb1.frozen (p := ⟨w.heap.size + 1, 2, none⟩) hsz).trans (xf 2)
  have f3 := (hb1.frozen (p := ⟨w.heap.size + 1, 3, none⟩) hsz).trans (xf 3)
  have hbw1 := after hbW hb1
  clear hb1 hbW x0 x1 x2 x3 xf hp hw hs hok hB
  go_wp2
  exact bodyPost_ret (v := .agg #[.slice none 0 0, .slice none 0 0, .slice none 0 0, .int .i64 0]) (by simp [results, Tryz.results51, go_sem, k0, k1, k2, k3]) rfl ⟨_, rfl, ftlOwn_zero _ _, (((hbw1.setCell (by show _ ≤ _; simp) _).setCell (by show _ ≤ _; simp) _).setCell (by show _ ≤ _; simp) _).setCell (by show _ ≤ _; simp) _⟩

end Go.Proofs.YtdicjbabnknjhaaGreat
