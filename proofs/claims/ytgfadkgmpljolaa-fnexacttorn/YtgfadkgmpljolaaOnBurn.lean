/-
  Contract of the program's (burning).on: a clear page of the board gets the text.
-/
import Derived.Test.YtgfadkgmpljolaaBoard
import Derived.Test.YtgfadkgmpljolaaSpecWipe
import Derived.RegionTactic
import Derived.BigRegion
import Derived.Deep.QuietTactic
import Derived.BigQuiet
namespace Go.Proofs.Ytgfadkgmpljolaa
open Go.RowKit

/-- The page is there and clear, the text is short enough. -/
def onBurn (ps : List ByteArray) (page : Int) (text : ByteArray) : Prop := 0 ≤ page ∧ page < 60 ∧ ps[page.toNat]?.getD ByteArray.empty = ByteArray.empty ∧ text.size ≤ 800
/-- What the pages are then. -/
noncomputable def burnPs (ps : List ByteArray) (page : Int) (text : ByteArray) : List ByteArray := open Classical in if onBurn ps page text then ps.set page.toNat text else ps
theorem burnPs_yes {ps : List ByteArray} {page : Int} {text : ByteArray} (h : onBurn ps page text) : burnPs ps page text = ps.set page.toNat text := by simp [burnPs, h]
theorem burnPs_no {ps : List ByteArray} {page : Int} {text : ByteArray} (h : ¬ onBurn ps page text) : burnPs ps page text = ps := by simp [burnPs, h]
theorem burnPs_len (ps : List ByteArray) (page : Int) (text : ByteArray) : (burnPs ps page text).length = ps.length := by unfold burnPs; split <;> simp

set_option maxHeartbeats 3200000 in
theorem onBurn_any (g : Nat) (ps : List ByteArray) (ws : List Int) (page : Int) (text : ByteArray) (w : World) (h : Board w g ps ws) (hl : ps.length = 60) (ht : text.size ≤ 1048576) :
    Calls Try.prog 40 #[.agg #[.int .i64 page, .string text], .pointer (some ⟨g, 0, none⟩)] w fun e w' => (∃ v, e = .returned v) ∧ Board w' g (burnPs ps page text) ws ∧ OnlyIn w w' [some g] := by
  obtain ⟨W, hW⟩ : ∃ W, W = w.alloc (Obj.cells #[.int .i64 page, .string text] 60) := ⟨_, rfl⟩
  have hbW : Below w.heap.size w W := by subst hW; exact (Below.refl _ _).alloc (Nat.le_refl _) _
  have c0 : W.cell? ⟨w.heap.size, 0, none⟩ = some (.int .i64 page) := by subst hW; simp
  have c1 : W.cell? ⟨w.heap.size, 1, none⟩ = some (.string text) := by subst hW; simp
  have hB := h.below hbW
  have hg := h.lt
  have hO : OnlyIn w W [some g] := OnlyIn.of_below hbW _
  clear h hbW
  by_cases h1 : page < 0
  · have t1 : decide (page < 0) = true := by simpa using h1
    have hn : ¬ onBurn ps page text := fun h => by have := h.1; omega
    rw [burnPs_no hn]
    clear hn
    go_enter Try.func40, Try.ntmps40
    go_wp2_with fail
    rw [← hW]
    clear hW
    go_quiet (fail)
    all_goals go_wp2
    all_goals exact bodyPost_ret (by simp [results, Try.results40]; rfl) rfl ⟨⟨_, rfl⟩, hB, hO.drewN _⟩
  · by_cases h2 : 60 ≤ page
    · have t1 : decide (page < 0) = false := by simpa using h1
      have t2 : decide (60 ≤ page) = true := by simpa using h2
      have hn : ¬ onBurn ps page text := fun h => by have := h.2.1; omega
      rw [burnPs_no hn]
      clear hn
      go_enter Try.func40, Try.ntmps40
      go_wp2_with fail
      rw [← hW]
      clear hW
      go_quiet (fail)
      all_goals go_wp2
      all_goals exact bodyPost_ret (by simp [results, Try.results40]; rfl) rfl ⟨⟨_, rfl⟩, hB, hO.drewN _⟩
    · obtain ⟨P, rfl⟩ : ∃ P : Nat, page = P := ⟨page.toNat, by omega⟩
      have hP : P < ps.length := by omega
      have t1 : decide ((P : Int) < 0) = false := by simp
      have t2 : decide (60 ≤ (P : Int)) = false := by simp; omega
      have t3 : (0 : Int) ≤ (P : Int) := by omega
      have t4 : (P : Int) < 60 := by omega
      obtain ⟨x, hx⟩ : ∃ x, ps[P]? = some x := ⟨_, List.getElem?_eq_getElem hP⟩
      have hc : W.cell? ⟨g, P, none⟩ = some (.string x) := by rw [hB.cell, bd_page hP, List.getElem?_map, hx]; rfl
      have hf : W.frozen? ⟨g, P, none⟩ = false := hB.frozen P
      have HX := hide hx
      clear hx
      by_cases hxe : x = ByteArray.empty
      · by_cases ht8 : (800 : Int) < (text.size : Int)
        · have t6 : decide (800 < (text.size : Int)) = true := by simpa using ht8
          have hn : ¬ onBurn ps P text := fun h => by have := h.2.2.2; omega
          rw [burnPs_no hn]
          clear hn
          subst hxe
          go_enter Try.func40, Try.ntmps40
          go_wp2_with fail
          rw [← hW]
          clear hW
          go_quiet (fail)
          all_goals go_wp2
          all_goals exact bodyPost_ret (by simp [results, Try.results40]; rfl) rfl ⟨⟨_, rfl⟩, hB, hO.drewN _⟩
        · have t6 : decide (800 < (text.size : Int)) = false := by simpa using ht8
          have hy : onBurn ps P text := ⟨by omega, by omega, by rw [Int.toNat_natCast, HX.out, hxe]; rfl, by omega⟩
          rw [burnPs_yes hy, Int.toNat_natCast]
          clear hy
          subst hxe
          go_enter Try.func40, Try.ntmps40
          go_wp2_with fail
          rw [← hW]
          clear hW
          go_quiet (fail)
          obtain ⟨V, hV⟩ : ∃ V, V = W.drewN nq := ⟨_, rfl⟩
          have e0 : V.cell? ⟨w.heap.size, 0, none⟩ = some (.int .i64 P) := by rw [hV]; exact c0
          have e1 : V.cell? ⟨w.heap.size, 1, none⟩ = some (.string text) := by rw [hV]; exact c1
          have hcV : V.cell? ⟨g, P, none⟩ = some (.string ByteArray.empty) := by rw [hV]; exact hc
          have hfV : V.frozen? ⟨g, P, none⟩ = false := by rw [hV]; exact hf
          have hB' : Board (V.setCell ⟨g, P, none⟩ (.string text)).drew g (ps.set P text) ws := by rw [hV]; exact hB.setPage hP text
          have hO' : OnlyIn w (V.setCell ⟨g, P, none⟩ (.string text)).drew [some g] := by
            have := (hO.drewN nq).trans (OnlyIn.of_grown (grown_setB (W.drewN nq) g P (.string text)))
            rw [hV]
            exact ⟨this.os, this.tape, this.output, this.size, fun i hi hn => this.block i hi (by simpa using hn)⟩
          rw [← hV]
          clear hV hB hO c0 c1 hc hf
          go_wp2_with fail
          go_region
          go_wp2
          go_end0
          exact ⟨⟨_, rfl⟩, hB', hO'⟩
      · have hn : ¬ onBurn ps P text := fun h => hxe (by have := h.2.2.1; rw [Int.toNat_natCast, HX.out] at this; exact this)
        rw [burnPs_no hn]
        have hxi := isEmpty_str hxe
        clear hn hxe
        go_enter Try.func40, Try.ntmps40
        go_wp2_with fail
        rw [← hW]
        clear hW
        go_quiet (fail)
        all_goals go_wp2
        all_goals exact bodyPost_ret (by simp [results, Try.results40]; rfl) rfl ⟨⟨_, rfl⟩, hB, hO.drewN _⟩

end Go.Proofs.Ytgfadkgmpljolaa
