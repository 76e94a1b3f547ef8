/-
  Half, the specification's and the program's: one answer.
-/
import Derived.Test.YtgfadkgmpljolaaImplClear
import Derived.Deep.DeepCutAuto
namespace Go.Proofs.Ytgfadkgmpljolaa
open Go.RowKit

/-- The pages that Half leaves. -/
noncomputable def halfP (ps : List ByteArray) (ws : List Int) (block n : Int) : List ByteArray := halfQ ps ws block (min n 6)
theorem halfP_len (ps : List ByteArray) (ws : List Int) (block n : Int) : (halfP ps ws block n).length ≤ 60 := halfQ_len _ _ _ _

set_option maxHeartbeats 3200000 in
theorem specHalf_fn (a b : Option Addr) (ps : List ByteArray) (ws : List Int) (c d : Nat) (block n : Int) (w : World) (hp : Rd w a (vsString ps)) (hw : Rd w b (vsInt ws)) (hl : ps.length ≤ 1048576) (hm : ws.length ≤ 1048576) (hs : ∀ s ∈ ps, s.size ≤ 1048576) (hn : (Lit.int .i64 n).wf = true) :
    Calls Try.prog 24 #[.agg #[.slice a ps.length c, .slice b ws.length d], .int .i64 block, .int .i64 n] w fun e w' => ∃ v, e = .returned v ∧ ChipOwn w' w.heap.size v (halfP ps ws block n) (clearW ps ws block) ∧ Below w.heap.size w w' := by
  have hbd := bounds_i64 hn
  obtain ⟨W, hW⟩ : ∃ W, W = (w.alloc (Obj.cells #[.slice a ps.length c, .slice b ws.length d] 28)).alloc (Obj.cells #[.slice none 0 0, .slice none 0 0] 28) := ⟨_, rfl⟩
  have hbW : Below w.heap.size w W := by subst hW; exact ((Below.refl _ _).alloc (Nat.le_refl _) _).alloc (by simp) _
  have cW : W.cell? ⟨w.heap.size, 0, none⟩ = some (.slice a ps.length c) ∧ W.cell? ⟨w.heap.size, 1, none⟩ = some (.slice b ws.length d) ∧ W.cell? ⟨w.heap.size + 1, 0, none⟩ = some (.slice none 0 0) ∧ W.cell? ⟨w.heap.size + 1, 1, none⟩ = some (.slice none 0 0) ∧ W.frozen? ⟨w.heap.size + 1, 0, none⟩ = false ∧ W.frozen? ⟨w.heap.size + 1, 1, none⟩ = false ∧ w.heap.size + 1 < W.heap.size := by
    subst hW; refine ⟨?_, ?_, ?_, ?_, ?_, ?_, ?_⟩ <;> simp [go_sem]
  obtain ⟨-, -, -, -, -, -, hsz⟩ := id cW
  go_enter Try.func24, Try.ntmps24
  go_wp2_with fail
  rw [← hW]
  clear hW
  refine (specClear_fn a b ps ws c d block _ (hp.below hbW) (hw.below hbW) hl hm hs).mono ?_
  rintro e w1 ⟨v, rfl, hown, hb1⟩
  obtain ⟨a1, k1, b1, l1, rfl, -⟩ := own_open hown
  have i0 := (hb1.cell (p := ⟨w.heap.size, 0, none⟩) (by show _ < _; simp; omega)).trans cW.1
  have i1 := (hb1.cell (p := ⟨w.heap.size, 1, none⟩) (by show _ < _; simp; omega)).trans cW.2.1
  have j0 := (hb1.cell (p := ⟨w.heap.size + 1, 0, none⟩) (by show _ < _; exact hsz)).trans cW.2.2.1
  have j1 := (hb1.cell (p := ⟨w.heap.size + 1, 1, none⟩) (by show _ < _; exact hsz)).trans cW.2.2.2.1
  have f0 := (hb1.frozen (p := ⟨w.heap.size + 1, 0, none⟩) (by show _ < _; exact hsz)).trans cW.2.2.2.2.1
  have f1 := (hb1.frozen (p := ⟨w.heap.size + 1, 1, none⟩) (by show _ < _; exact hsz)).trans cW.2.2.2.2.2.1
  have hlt : w.heap.size + 1 < w1.heap.size := Nat.lt_of_lt_of_le hsz hb1.size
  have hlt0 : w.heap.size < w1.heap.size := by omega
  have hbw1 := after hbW hb1
  have HOWN := hide hown
  have HP := hide (hp.below hbw1)
  have HW := hide (hw.below hbw1)
  clear hown hb1 hbW cW hp hw hs
  by_cases hy : chipOkP ps ws ∧ clearOk ws block
  · have hF : clearF ps ws block = true := by simp [clearF, hy]
    rw [hF]
    obtain ⟨hok, hyc⟩ := hy
    have HL : Hid (ps.length = 60 ∧ ws.length = 10) := ⟨hok.1, hok.2.1⟩
    obtain ⟨B, rfl⟩ : ∃ B : Nat, block = B := ⟨block.toNat, by have := hyc.1; omega⟩
    have hB10 : B < 10 := by have := hyc.2.1; omega
    obtain ⟨x, hx⟩ : ∃ x, ws[B]? = some x := ⟨_, List.getElem?_eq_getElem (by have := hok.2.1; omega)⟩
    have hxb := hok.2.2.2 x (List.mem_of_getElem? hx)
    obtain ⟨M, hM⟩ : ∃ M : Nat, (M : Int) = max (min n 6) 0 := ⟨(max (min n 6) 0).toNat, by omega⟩
    have hP : halfP ps ws B n = wipeP ps B M := by
      have e : (min n 6).toNat = M := by omega
      simp [halfP, halfQ, hok, hyc, e]
    have hWr : clearW ps ws B = ws.set B (x + 1) := by simp [clearW, hok, hyc, hx]
    have HX := hide hx
    have HM := hide hM
    have HE := hide (And.intro hP hWr)
    clear hok hyc hx hM hP hWr hF HOWN
    obtain ⟨U, hU⟩ : ∃ U, U = w1.alloc (Obj.cells #[.slice a1 (clearP ps ws B).length k1, .slice b1 (clearW ps ws B).length l1] 28) := ⟨_, rfl⟩
    have hbU : Below w1.heap.size w1 U := by subst hU; exact (Below.refl _ _).alloc (Nat.le_refl _) _
    go_wp2_with fail
    rw [← hU]
    clear hU
    refine (copy_any a b ps ws c d U (HP.out.below hbU) (HW.out.below hbU) HL.out.1 HL.out.2).mono ?_
    rintro e w2 ⟨v, rfl, hown, hb2⟩
    obtain ⟨g, kg, g', kg', rfl, ho1, ho2, hne, hg1, hg2, hg3, hg4⟩ := own_form hown (by have := HL.out; omega) (by have := HL.out; omega)
    have hb12 := after hbU hb2
    have hsU := hbU.size
    clear hown
    go_wp2_with fail
    refine (wipe_any g kg g' kg' U.heap.size B M n x ps ws w2 HL.out.1 HL.out.2 ho1 ho2 hne hB10 HX.out hxb.1 hxb.2 HM.out hbd.2).mono ?_
    rintro e w3 ⟨rfl, oo1, oo2, hon⟩
    have hb3 : Below U.heap.size w2 w3 := hon.below hb2.size (by intro q hq; simp at hq; omega)
    have hb13 : Below w1.heap.size w1 w3 := hb12.trans (hb3.mono hsU)
    have m0 := (hb13.cell (p := ⟨w.heap.size + 1, 0, none⟩) (by show _ < _; exact hlt)).trans j0
    have m1 := (hb13.cell (p := ⟨w.heap.size + 1, 1, none⟩) (by show _ < _; exact hlt)).trans j1
    have q0 := (hb13.frozen (p := ⟨w.heap.size + 1, 0, none⟩) (by show _ < _; exact hlt)).trans f0
    have q1 := (hb13.frozen (p := ⟨w.heap.size + 1, 1, none⟩) (by show _ < _; exact hlt)).trans f1
    have hbw3 := after hbw1 hb13
    clear hb12 hb13 hb3 hon ho1 ho2 j0 j1 f0 f1 i0 i1 hbw1 hb2 hbU
    go_wp2
    refine bodyPost_ret (v := .agg #[.slice (some ⟨g, 0, none⟩) ps.length kg, .slice (some ⟨g', 0, none⟩) ws.length kg']) (by simp [results, Try.results24, go_sem, m0, m1]) rfl ⟨_, rfl, ?_, (hbw3.setCell (by show _ ≤ _; simp) _).setCell (by show _ ≤ _; simp) _⟩
    rw [HE.out.1, HE.out.2]
    refine own_mono (own_set (own_set (base := U.heap.size) ⟨_, _, rfl, ?_, ?_, fun q hq => by simp [Value.ownBlock] at hq ⊢; omega⟩ ?_ _) ?_ _) (show w.heap.size ≤ U.heap.size by omega)
    · rw [wipeP_len]; exact oo1
    · rw [List.length_set]; exact oo2
    · show w.heap.size + 1 < U.heap.size; omega
    · show w.heap.size + 1 < U.heap.size; omega
  · have hF : clearF ps ws block = false := by unfold clearF; rw [decide_eq_false_iff_not]; exact hy
    rw [hF]
    have hP : halfP ps ws block n = clearP ps ws block := by
      by_cases hok : chipOkP ps ws
      · have hyc : ¬ clearOk ws block := fun h => hy ⟨hok, h⟩
        simp [halfP, clearP, halfQ, hok, hyc]
      · simp [halfP, clearP, halfQ, hok]
    have HE := hide hP
    clear hP hF hy
    go_wp2
    refine bodyPost_ret (v := .agg #[.slice a1 (clearP ps ws block).length k1, .slice b1 (clearW ps ws block).length l1]) (by simp [results, Try.results24, go_sem, j0, j1, hlt]) rfl ⟨_, rfl, ?_, ?_⟩
    · rw [HE.out]
      exact own_mono (own_below (own_set (own_set HOWN.out (show w.heap.size + 1 < W.heap.size by omega) _) (show w.heap.size + 1 < W.heap.size by omega) _) ((Below.refl _ _).alloc (Nat.le_refl _) _)) (show w.heap.size ≤ W.heap.size by omega)
    · exact ((hbw1.setCell (by show _ ≤ _; simp) _).setCell (by show _ ≤ _; simp) _).alloc (by simp [World.setCell]; omega) _

set_option maxHeartbeats 3200000 in
theorem implHalf_fn (a b : Option Addr) (ps : List ByteArray) (ws : List Int) (c d : Nat) (block n : Int) (w : World) (hp : Rd w a (vsString ps)) (hw : Rd w b (vsInt ws)) (hl : ps.length ≤ 1048576) (hm : ws.length ≤ 1048576) (hs : ∀ s ∈ ps, s.size ≤ 1048576) (hn : (Lit.int .i64 n).wf = true) :
    Calls Try.prog 25 #[.agg #[.slice a ps.length c, .slice b ws.length d], .int .i64 block, .int .i64 n] w fun e w' => ∃ v, e = .returned v ∧ ChipOwn w' w.heap.size v (halfP ps ws block n) (clearW ps ws block) ∧ Below w.heap.size w w' := by
  have hbd := bounds_i64 hn
  have hmf : ∀ (fn : Fn) (first cap : Array Value) (w : World), (Instr.makeFunc fn first cap).run Try.prog w = .ok (.func fn first cap) w := fun _ _ _ _ => rfl
  obtain ⟨W, hW⟩ : ∃ W, W = (w.alloc (Obj.cells #[.slice a ps.length c, .slice b ws.length d] 28)).alloc (Obj.cells #[.slice none 0 0, .slice none 0 0] 28) := ⟨_, rfl⟩
  have hbW : Below w.heap.size w W := by subst hW; exact ((Below.refl _ _).alloc (Nat.le_refl _) _).alloc (by simp) _
  have cW : W.cell? ⟨w.heap.size, 0, none⟩ = some (.slice a ps.length c) ∧ W.cell? ⟨w.heap.size, 1, none⟩ = some (.slice b ws.length d) ∧ W.cell? ⟨w.heap.size + 1, 0, none⟩ = some (.slice none 0 0) ∧ W.cell? ⟨w.heap.size + 1, 1, none⟩ = some (.slice none 0 0) ∧ W.frozen? ⟨w.heap.size + 1, 0, none⟩ = false ∧ W.frozen? ⟨w.heap.size + 1, 1, none⟩ = false ∧ w.heap.size + 1 < W.heap.size := by
    subst hW; refine ⟨?_, ?_, ?_, ?_, ?_, ?_, ?_⟩ <;> simp [go_sem]
  obtain ⟨-, -, -, -, -, -, hsz⟩ := id cW
  have HAC : Hid (∀ m : Int, m = min n 6 → Calls Try.prog 39 #[.agg #[.slice a ps.length c, .slice b ws.length d], .func (.func 42) #[.agg #[.int .i64 block, .int .i64 m]] #[]] W fun e w' => ∃ v, e = .returned (.tuple #[v, .bool (clearF ps ws block)]) ∧ ChipOwn w' W.heap.size v (halfP ps ws block n) (clearW ps ws block) ∧ Below W.heap.size W w') := by
    intro m hm'
    subst hm'
    exact actClear_fn a b ps ws c d block (min n 6) W (hp.below hbW) (hw.below hbW) hl hm hs (by omega) (by omega)
  clear hp hw hs
  go_enter Try.func25, Try.ntmps25
  go_wp2_with fail
  all_goals
    rw [← hW]
    clear hW
    refine (HAC.out _ (by omega)).mono ?_
    rintro e w1 ⟨v, rfl, hown, hb1⟩
    obtain ⟨a1, k1, b1, l1, rfl, -⟩ := own_open hown
    have j0 := (hb1.cell (p := ⟨w.heap.size + 1, 0, none⟩) (by show _ < _; exact hsz)).trans cW.2.2.1
    have j1 := (hb1.cell (p := ⟨w.heap.size + 1, 1, none⟩) (by show _ < _; exact hsz)).trans cW.2.2.2.1
    have f0 := (hb1.frozen (p := ⟨w.heap.size + 1, 0, none⟩) (by show _ < _; exact hsz)).trans cW.2.2.2.2.1
    have f1 := (hb1.frozen (p := ⟨w.heap.size + 1, 1, none⟩) (by show _ < _; exact hsz)).trans cW.2.2.2.2.2.1
    have hlt : w.heap.size + 1 < w1.heap.size := Nat.lt_of_lt_of_le hsz hb1.size
    have hbw1 := after hbW hb1
    have HOWN := hide hown
    clear hown hb1 hbW cW
    obtain ⟨F, hF⟩ : ∃ F, F = clearF ps ws block := ⟨_, rfl⟩
    rw [← hF]
    clear hF
    go_wp2
    refine bodyPost_ret (v := .agg #[.slice a1 (halfP ps ws block n).length k1, .slice b1 (clearW ps ws block).length l1]) (by simp [results, Try.results25, go_sem, j0, j1, hlt]) rfl ⟨_, rfl, ?_, ?_⟩
    · exact own_mono (own_below (own_set (own_set HOWN.out (show w.heap.size + 1 < W.heap.size by omega) _) (show w.heap.size + 1 < W.heap.size by omega) _) ((Below.refl _ _).alloc (Nat.le_refl _) _)) (show w.heap.size ≤ W.heap.size by omega)
    · exact ((hbw1.setCell (by show _ ≤ _; simp) _).setCell (by show _ ≤ _; simp) _).alloc (by simp [World.setCell]; omega) _

end Go.Proofs.Ytgfadkgmpljolaa
