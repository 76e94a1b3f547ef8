/-
  Contract of the program's (clearing).on: the first pages of a block of the board are cleared, its number is one more.
-/
import Derived.Test.YtgfadkgmpljolaaBoard
import Derived.Test.YtgfadkgmpljolaaSpecWipe
import Derived.RegionTactic
import Derived.BigRegion
import Derived.Deep.QuietTactic
import Derived.BigQuiet
namespace Go.Proofs.Ytgfadkgmpljolaa
open Go.RowKit

/-- The block is there, and can be cleared once more. -/
def onClear (ws : List Int) (block : Int) : Prop := 0 ≤ block ∧ block < 10 ∧ ws[block.toNat]?.getD 0 < 1000000000
/-- What the pages and the numbers are then. -/
noncomputable def clearPs (ps : List ByteArray) (ws : List Int) (block n : Int) : List ByteArray := open Classical in if onClear ws block then wipeP ps block.toNat n.toNat else ps
noncomputable def clearWs (ws : List Int) (block : Int) : List Int := open Classical in if onClear ws block then ws.set block.toNat (ws[block.toNat]?.getD 0 + 1) else ws
theorem clearPs_yes {ps : List ByteArray} {ws : List Int} {block n : Int} (h : onClear ws block) : clearPs ps ws block n = wipeP ps block.toNat n.toNat := by simp [clearPs, h]
theorem clearPs_no {ps : List ByteArray} {ws : List Int} {block n : Int} (h : ¬ onClear ws block) : clearPs ps ws block n = ps := by simp [clearPs, h]
theorem clearWs_yes {ws : List Int} {block : Int} (h : onClear ws block) : clearWs ws block = ws.set block.toNat (ws[block.toNat]?.getD 0 + 1) := by simp [clearWs, h]
theorem clearWs_no {ws : List Int} {block : Int} (h : ¬ onClear ws block) : clearWs ws block = ws := by simp [clearWs, h]
theorem clearPs_len (ps : List ByteArray) (ws : List Int) (block n : Int) : (clearPs ps ws block n).length = ps.length := by unfold clearPs; split <;> simp [wipeP_len]
theorem clearWs_len (ws : List Int) (block : Int) : (clearWs ws block).length = ws.length := by unfold clearWs; split <;> simp

set_option maxHeartbeats 3200000 in
theorem onClear_any (g : Nat) (ps : List ByteArray) (ws : List Int) (block n : Int) (w : World) (h : Board w g ps ws) (hl : ps.length = 60) (hm : ws.length = 10) (hws : ∀ y ∈ ws, 0 ≤ y) (hn0 : -9223372036854775808 ≤ n) (hn6 : n ≤ 6) :
    Calls Try.prog 42 #[.agg #[.int .i64 block, .int .i64 n], .pointer (some ⟨g, 0, none⟩)] w fun e w' => (∃ v, e = .returned v) ∧ Board w' g (clearPs ps ws block n) (clearWs ws block) ∧ OnlyIn w w' [some g] := by
  obtain ⟨W, hW⟩ : ∃ W, W = w.alloc (Obj.cells #[.int .i64 block, .int .i64 n] 62) := ⟨_, rfl⟩
  have hbW : Below w.heap.size w W := by subst hW; exact (Below.refl _ _).alloc (Nat.le_refl _) _
  have c0 : W.cell? ⟨w.heap.size, 0, none⟩ = some (.int .i64 block) := by subst hW; simp
  have c1 : W.cell? ⟨w.heap.size, 1, none⟩ = some (.int .i64 n) := by subst hW; simp
  have hB := h.below hbW
  have hg := h.lt
  have hsW : w.heap.size < W.heap.size := by subst hW; simp
  have hO : OnlyIn w W [some g] := OnlyIn.of_below hbW _
  clear h hbW
  by_cases h1 : block < 0
  · have t1 : decide (block < 0) = true := by simpa using h1
    have hn : ¬ onClear ws block := fun h => by have := h.1; omega
    rw [clearPs_no hn, clearWs_no hn]
    clear hn
    go_enter Try.func42, Try.ntmps42
    go_wp2_with fail
    rw [← hW]
    clear hW
    go_quiet (fail)
    all_goals go_wp2
    all_goals exact bodyPost_ret (by simp [results, Try.results42]; rfl) rfl ⟨⟨_, rfl⟩, hB, hO.drewN _⟩
  · by_cases h2 : 10 ≤ block
    · have t1 : decide (block < 0) = false := by simpa using h1
      have t2 : decide (10 ≤ block) = true := by simpa using h2
      have hn : ¬ onClear ws block := fun h => by have := h.2.1; omega
      rw [clearPs_no hn, clearWs_no hn]
      clear hn
      go_enter Try.func42, Try.ntmps42
      go_wp2_with fail
      rw [← hW]
      clear hW
      go_quiet (fail)
      all_goals go_wp2
      all_goals exact bodyPost_ret (by simp [results, Try.results42]; rfl) rfl ⟨⟨_, rfl⟩, hB, hO.drewN _⟩
    · obtain ⟨P, rfl⟩ : ∃ P : Nat, block = P := ⟨block.toNat, by omega⟩
      have hP : P < ws.length := by omega
      have t1 : decide ((P : Int) < 0) = false := by simp
      have t2 : decide (10 ≤ (P : Int)) = false := by simp; omega
      have t3 : (0 : Int) ≤ (P : Int) := by omega
      have t4 : (P : Int) < 10 := by omega
      obtain ⟨x, hx⟩ : ∃ x, ws[P]? = some x := ⟨_, List.getElem?_eq_getElem hP⟩
      have hc : W.cell? ⟨g, 60 + P, none⟩ = some (.int .i64 x) := by rw [hB.cell, bd_wear hl, List.getElem?_map, hx]; rfl
      have hf : W.frozen? ⟨g, 60 + P, none⟩ = false := hB.frozen _
      have HX := hide hx
      clear hx
      by_cases hx9 : 1000000000 ≤ x
      · have t5 : decide (1000000000 ≤ x) = true := by simpa using hx9
        have hn : ¬ onClear ws P := fun h => by have := h.2.2; rw [Int.toNat_natCast, HX.out] at this; simp at this; omega
        rw [clearPs_no hn, clearWs_no hn]
        clear hn
        go_enter Try.func42, Try.ntmps42
        go_wp2_with fail
        rw [← hW]
        clear hW
        go_quiet (fail)
        all_goals go_wp2
        all_goals exact bodyPost_ret (by simp [results, Try.results42]; rfl) rfl ⟨⟨_, rfl⟩, hB, hO.drewN _⟩
      · have t5 : decide (1000000000 ≤ x) = false := by simpa using hx9
        have hy : onClear ws P := ⟨by omega, by omega, by rw [Int.toNat_natCast, HX.out]; simp; omega⟩
        rw [clearPs_yes hy, clearWs_yes hy, Int.toNat_natCast, HX.out]
        clear hy
        go_enter Try.func42, Try.ntmps42
        go_wp2_with fail
        rw [← hW]
        clear hW
        go_quiet (fail)
        obtain ⟨V, hV⟩ : ∃ V, V = W.drewN nq := ⟨_, rfl⟩
        have e0 : V.cell? ⟨w.heap.size, 0, none⟩ = some (.int .i64 P) := by rw [hV]; exact c0
        have e1 : V.cell? ⟨w.heap.size, 1, none⟩ = some (.int .i64 n) := by rw [hV]; exact c1
        have hcV : V.cell? ⟨g, 60 + P, none⟩ = some (.int .i64 x) := by rw [hV]; exact hc
        have hfV : V.frozen? ⟨g, 60 + P, none⟩ = false := by rw [hV]; exact hf
        have hBV : Board V g ps ws := by rw [hV]; exact hB
        have hOV : OnlyIn w V [some g] := by rw [hV]; exact hO.drewN _
        rw [← hV]
        clear hV hc hf hB hO c0 c1
        have hB0 : Board (V.setCell ⟨g, 60 + P, none⟩ (.int .i64 (x + 1))).drew g (wipeP ps P 0) (ws.set P (x + 1)) := hBV.setWear hl P (x + 1)
        have hO0 : OnlyIn w (V.setCell ⟨g, 60 + P, none⟩ (.int .i64 (x + 1))).drew [some g] := by
          have := hOV.trans (OnlyIn.of_grown (grown_setB V g (60 + P) (.int .i64 (x + 1))))
          exact ⟨this.os, this.tape, this.output, this.size, fun i hi hn => this.block i hi (by simpa using hn)⟩
        have hgn : ¬ g = w.heap.size := by omega
        have hx0 : 0 ≤ x := hws x (List.mem_of_getElem? HX.out)
        have HHL := hide hl
        clear hBV hOV hl
        obtain ⟨U, hU⟩ : ∃ U, U = (V.setCell ⟨g, 60 + P, none⟩ (.int .i64 (x + 1))).drew := ⟨_, rfl⟩
        rw [← hU] at hB0 hO0
        obtain ⟨M, hM⟩ : ∃ M, M = n.toNat := ⟨_, rfl⟩
        have HM := hide hM
        have hM6 : M ≤ 6 := by omega
        have hP10 : P < 10 := by omega
        clear hM hws
        go_wp2_with fail
        go_region
        go_wp2
        rw [← hU]
        clear hU
        go_loopw [40] (fun i wr => ∃ j : Nat, j ≤ M ∧ i = .int .i64 j ∧ Board wr g (wipeP ps P j) (ws.set P (x + 1)) ∧ OnlyIn w wr [some g]) (fun i _ => M - (intOf i).toNat)
        case atStart => exact ⟨0, Nat.zero_le _, rfl, hB0, hO0⟩
        case round =>
          obtain ⟨j, hj, rfl, hBr, hOr⟩ := hrel
          by_cases hlt : j < M
          · have q1 : (j : Int) < n := by have := HM.out; omega
            have hjl : P * 6 + j < (wipeP ps P j).length := by rw [wipeP_len, HHL.out]; omega
            have hB' : Hid (Board (wr.setCell ⟨g, P * 6 + j, none⟩ (.string ⟨#[]⟩)) g (wipeP ps P (j + 1)) (ws.set P (x + 1))) := hBr.setPage hjl ByteArray.empty
            have hO' : Hid (OnlyIn w (wr.setCell ⟨g, P * 6 + j, none⟩ (.string ⟨#[]⟩)) [some g]) := by
              have := hOr.trans (OnlyIn.of_grown (grown_setB wr g (P * 6 + j) (.string ⟨#[]⟩)))
              exact ⟨this.os, this.tape, this.output, this.size, fun i hi hn => this.block i hi (by simpa using hn)⟩
            obtain ⟨u, hcu⟩ : ∃ u, wr.cell? ⟨g, P * 6 + j, none⟩ = some u := ⟨_, by rw [hBr.cell, bd_page hjl]; exact List.getElem?_eq_getElem (by simpa using hjl)⟩
            have hfu := hBr.frozen (P * 6 + j)
            have b1 : (0 : Int) ≤ (P : Int) * 6 + j := by omega
            have b2 : (P : Int) * 6 + j < 60 := by omega
            clear hBr hOr hjl
            go_wp2
            go_roundw
            case rel => exact ⟨j + 1, by omega, by go_num, hB'.out, hO'.out⟩
            case measure => simp [intOf]; omega
          · have q1 : ¬ (j : Int) < n := by have := HM.out; omega
            have HB : Hid (Board wr g (wipeP ps P n.toNat) (ws.set P (x + 1))) := by
              have hjM : j = n.toNat := by have := HM.out; omega
              rw [← hjM]; exact hBr
            clear hBr
            go_wp2
            go_end0
            exact ⟨⟨_, rfl⟩, HB.out, hOr⟩

end Go.Proofs.Ytgfadkgmpljolaa
