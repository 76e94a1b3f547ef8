/-
  Half, the specification's and the program's: one answer.
  Contract of the specification's Cut.
  What a plan's acts are: some, with short texts.
-/
import Derived.Test.YtelbannfbglgcaaJMounted20
import Derived.Deep.DeepCutAuto
import Derived.Test.YtelbannfbglgcaaJMounted25
import Derived.Test.YtelbannfbglgcaaJMounted9
import Derived.Test.YtelbannfbglgcaaJMounted21
namespace Go.Proofs.Ytelbannfbglgcaa
open Go.RowKit

/-- The pages that Half leaves. -/
noncomputable def halfP (ps : List ByteArray) (ws : List Int) (block n : Int) : List ByteArray := halfQ ps ws block (min n 6)
theorem halfP_len (ps : List ByteArray) (ws : List Int) (block n : Int) : (halfP ps ws block n).length ≤ 60 := halfQ_len _ _ _ _

set_option maxHeartbeats 3200000 in
theorem specHalf_fn (a b : Option Addr) (ps : List ByteArray) (ws : List Int) (c d : Nat) (block n : Int) (w : World) (hp : Rd w a (vsString ps)) (hw : Rd w b (vsInt ws)) (hl : ps.length ≤ 1048576) (hm : ws.length ≤ 1048576) (hs : ∀ s ∈ ps, s.size ≤ 1048576) (hn : (Lit.int .i64 n).wf = true) :
    Calls Try.prog 24 #[.agg #[.slice a ps.length c, .slice b ws.length d], .int .i64 block, .int .i64 n] w fun e w' => ∃ v, e = .returned v ∧ ChipOwn w' w.heap.size v (halfP ps ws block n) (clearW ps ws block) ∧ Below w.heap.size w w' := by
  have hbd := bounds_i64 hn
  obtain ⟨W, hW⟩ : ∃ W, W = (w.alloc (Obj.cells #[.slice a ps.length c, .slice b ws.length d] 27)).alloc (Obj.cells #[.slice none 0 0, .slice none 0 0] 27) := ⟨_, rfl⟩
  have hbW : Below w.heap.size w W := by subst hW; exact ((Below.refl _ _).alloc (Nat.le_refl _) _).alloc (by simp) _
  have cW : W.cell? ⟨w.heap.size, 0, none⟩ = some (.slice a ps.length c) ∧ W.cell? ⟨w.heap.size, 1, none⟩ = some (.slice b ws.length d) ∧ W.cell? ⟨w.heap.size + 1, 0, none⟩ = some (.slice none 0 0) ∧ W.cell? ⟨w.heap.size + 1, 1, none⟩ = some (.slice none 0 0) ∧ W.frozen? ⟨w.heap.size + 1, 0, none⟩ = false ∧ W.frozen? ⟨w.heap.size + 1, 1, none⟩ = false ∧ w.heap.size + 1 < W.heap.size := by
    subst hW; refine ⟨?_, ?_, ?_, ?_, ?_, ?_, ?_⟩ <;> simp [go_sem]
  obtain ⟨-, -, -, -, -, -, hsz⟩ := id cW
  go_enter Try.func24, Try.ntmps24
  go_wp2_with fail
  rw [← hW]
  clear hW
  refine (specClear_fn a b ps ws c d block _ (hp.below hbW) (hw.below hbW) hl hm hs).mono ?_
  rintro e w1 ⟨v, rfl, hown, hb1⟩
  obtain ⟨a1, k1, b1, l1, rfl, -⟩ := own_open hown
  have i0 := (hb1.cell (p := ⟨w.heap.size, 0, none⟩) (by show _ < _; simp; omega)).trans cW.1
  have i1 := (hb1.cell (p := ⟨w.heap.size, 1, none⟩) (by show _ < _; simp; omega)).trans cW.2.1
  have j0 := (hb1.cell (p := ⟨w.heap.size + 1, 0, none⟩) (by show _ < _; exact hsz)).trans cW.2.2.1
  have j1 := (hb1.cell (p := ⟨w.heap.size + 1, 1, none⟩) (by show _ < _; exact hsz)).trans cW.2.2.2.1
  have f0 := (hb1.frozen (p := ⟨w.heap.size + 1, 0, none⟩) (by show _ < _; exact hsz)).trans cW.2.2.2.2.1
  have f1 := (hb1.frozen (p := ⟨w.heap.size + 1, 1, none⟩) (by show _ < _; exact hsz)).trans cW.2.2.2.2.2.1
  have hlt : w.heap.size + 1 < w1.heap.size := Nat.lt_of_lt_of_le hsz hb1.size
  have hlt0 : w.heap.size < w1.heap.size := by omega
  have hbw1 := after hbW hb1
  have HOWN := hide hown
  have HP := hide (hp.below hbw1)
  have HW := hide (hw.below hbw1)
  clear hown hb1 hbW cW hp hw hs
  by_cases hy : chipOkP ps ws ∧ clearOk ws block
  · have hF : clearF ps ws block = true := by simp [clearF, hy]
    rw [hF]
    obtain ⟨hok, hyc⟩ := hy
    have HL : Hid (ps.length = 60 ∧ ws.length = 10) := ⟨hok.1, hok.2.1⟩
    obtain ⟨B, rfl⟩ : ∃ B : Nat, block = B := ⟨block.toNat, by have := hyc.1; omega⟩
    have hB10 : B < 10 := by have := hyc.2.1; omega
    obtain ⟨x, hx⟩ : ∃ x, ws[B]? = some x := ⟨_, List.getElem?_eq_getElem (by have := hok.2.1; omega)⟩
    have hxb := hok.2.2.2 x (List.mem_of_getElem? hx)
    obtain ⟨M, hM⟩ : ∃ M : Nat, (M : Int) = max (min n 6) 0 := ⟨(max (min n 6) 0).toNat, by omega⟩
    have hP : halfP ps ws B n = wipeP ps B M := by
      have e : (min n 6).toNat = M := by omega
      simp [halfP, halfQ, hok, hyc, e]
    have hWr : clearW ps ws B = ws.set B (x + 1) := by simp [clearW, hok, hyc, hx]
    have HX := hide hx
    have HM := hide hM
    have HE := hide (And.intro hP hWr)
    clear hok hyc hx hM hP hWr hF HOWN
    obtain ⟨U, hU⟩ : ∃ U, U = w1.alloc (Obj.cells #[.slice a1 (clearP ps ws B).length k1, .slice b1 (clearW ps ws B).length l1] 27) := ⟨_, rfl⟩
    have hbU : Below w1.heap.size w1 U := by subst hU; exact (Below.refl _ _).alloc (Nat.le_refl _) _
    go_wp2_with fail
    rw [← hU]
    clear hU
    refine (copy_any a b ps ws c d U (HP.out.below hbU) (HW.out.below hbU) HL.out.1 HL.out.2).mono ?_
    rintro e w2 ⟨v, rfl, hown, hb2⟩
    obtain ⟨g, kg, g', kg', rfl, ho1, ho2, hne, hg1, hg2, hg3, hg4⟩ := own_form hown (by have := HL.out; omega) (by have := HL.out; omega)
    have hb12 := after hbU hb2
    have hsU := hbU.size
    clear hown
    go_wp2_with fail
    refine (wipe_any g kg g' kg' U.heap.size B M n x ps ws w2 HL.out.1 HL.out.2 ho1 ho2 hne hB10 HX.out hxb.1 hxb.2 HM.out hbd.2).mono ?_
    rintro e w3 ⟨rfl, oo1, oo2, hon⟩
    have hb3 : Below U.heap.size w2 w3 := hon.below hb2.size (by intro q hq; simp at hq; omega)
    have hb13 : Below w1.heap.size w1 w3 := hb12.trans (hb3.mono hsU)
    have m0 := (hb13.cell (p := ⟨w.heap.size + 1, 0, none⟩) (by show _ < _; exact hlt)).trans j0
    have m1 := (hb13.cell (p := ⟨w.heap.size + 1, 1, none⟩) (by show _ < _; exact hlt)).trans j1
    have q0 := (hb13.frozen (p := ⟨w.heap.size + 1, 0, none⟩) (by show _ < _; exact hlt)).trans f0
    have q1 := (hb13.frozen (p := ⟨w.heap.size + 1, 1, none⟩) (by show _ < _; exact hlt)).trans f1
    have hbw3 := after hbw1 hb13
    clear hb12 hb13 hb3 hon ho1 ho2 j0 j1 f0 f1 i0 i1 hbw1 hb2 hbU
    go_wp2
    refine bodyPost_ret (v := .agg #[.slice (some ⟨g, 0, none⟩) ps.length kg, .slice (some ⟨g', 0, none⟩) ws.length kg']) (by simp [results, Try.results24, go_sem, m0, m1]) rfl ⟨_, rfl, ?_, (hbw3.setCell (by show _ ≤ _; simp) _).setCell (by show _ ≤ _; simp) _⟩
    rw [HE.out.1, HE.out.2]
    refine own_mono (own_set (own_set (base := U.heap.size) ⟨_, _, rfl, ?_, ?_, fun q hq => by simp [Value.ownBlock] at hq ⊢; omega⟩ ?_ _) ?_ _) (show w.heap.size ≤ U.heap.size by omega)
    · rw [wipeP_len]; exact oo1
    · rw [List.length_set]; exact oo2
    · show w.heap.size + 1 < U.heap.size; omega
    · show w.heap.size + 1 < U.heap.size; omega
  · have hF : clearF ps ws block = false := by unfold clearF; rw [decide_eq_false_iff_not]; exact hy
    rw [hF]
    have hP : halfP ps ws block n = clearP ps ws block := by
      by_cases hok : chipOkP ps ws
      · have hyc : ¬ clearOk ws block := fun h => hy ⟨hok, h⟩
        simp [halfP, clearP, halfQ, hok, hyc]
      · simp [halfP, clearP, halfQ, hok]
    have HE := hide hP
    clear hP hF hy
    go_wp2
    refine bodyPost_ret (v := .agg #[.slice a1 (clearP ps ws block).length k1, .slice b1 (clearW ps ws block).length l1]) (by simp [results, Try.results24, go_sem, j0, j1, hlt]) rfl ⟨_, rfl, ?_, ?_⟩
    · rw [HE.out]
      exact own_mono (own_below (own_set (own_set HOWN.out (show w.heap.size + 1 < W.heap.size by omega) _) (show w.heap.size + 1 < W.heap.size by omega) _) ((Below.refl _ _).alloc (Nat.le_refl _) _)) (show w.heap.size ≤ W.heap.size by omega)
    · exact ((hbw1.setCell (by show _ ≤ _; simp) _).setCell (by show _ ≤ _; simp) _).alloc (by simp [World.setCell]; omega) _

set_option maxHeartbeats 3200000 in
theorem implHalf_fn (a b : Option Addr) (ps : List ByteArray) (ws : List Int) (c d : Nat) (block n : Int) (w : World) (hp : Rd w a (vsString ps)) (hw : Rd w b (vsInt ws)) (hl : ps.length ≤ 1048576) (hm : ws.length ≤ 1048576) (hs : ∀ s ∈ ps, s.size ≤ 1048576) (hn : (Lit.int .i64 n).wf = true) :
    Calls Try.prog 23 #[.agg #[.slice a ps.length c, .slice b ws.length d], .int .i64 block, .int .i64 n] w fun e w' => ∃ v, e = .returned v ∧ ChipOwn w' w.heap.size v (halfP ps ws block n) (clearW ps ws block) ∧ Below w.heap.size w w' := by
  have hbd := bounds_i64 hn
  have hmf : ∀ (fn : Fn) (first cap : Array Value) (w : World), (Instr.makeFunc fn first cap).run Try.prog w = .ok (.func fn first cap) w := fun _ _ _ _ => rfl
  obtain ⟨W, hW⟩ : ∃ W, W = (w.alloc (Obj.cells #[.slice a ps.length c, .slice b ws.length d] 27)).alloc (Obj.cells #[.slice none 0 0, .slice none 0 0] 27) := ⟨_, rfl⟩
  have hbW : Below w.heap.size w W := by subst hW; exact ((Below.refl _ _).alloc (Nat.le_refl _) _).alloc (by simp) _
  have cW : W.cell? ⟨w.heap.size, 0, none⟩ = some (.slice a ps.length c) ∧ W.cell? ⟨w.heap.size, 1, none⟩ = some (.slice b ws.length d) ∧ W.cell? ⟨w.heap.size + 1, 0, none⟩ = some (.slice none 0 0) ∧ W.cell? ⟨w.heap.size + 1, 1, none⟩ = some (.slice none 0 0) ∧ W.frozen? ⟨w.heap.size + 1, 0, none⟩ = false ∧ W.frozen? ⟨w.heap.size + 1, 1, none⟩ = false ∧ w.heap.size + 1 < W.heap.size := by
    subst hW; refine ⟨?_, ?_, ?_, ?_, ?_, ?_, ?_⟩ <;> simp [go_sem]
  obtain ⟨-, -, -, -, -, -, hsz⟩ := id cW
  have HAC : Hid (∀ m : Int, m = min n 6 → Calls Try.prog 60 #[.agg #[.slice a ps.length c, .slice b ws.length d], .func (.func 65) #[.agg #[.int .i64 block, .int .i64 m]] #[]] W fun e w' => ∃ v, e = .returned (.tuple #[v, .bool (clearF ps ws block)]) ∧ ChipOwn w' W.heap.size v (halfP ps ws block n) (clearW ps ws block) ∧ Below W.heap.size W w') := by
    intro m hm'
    subst hm'
    exact actClear_fn a b ps ws c d block (min n 6) W (hp.below hbW) (hw.below hbW) hl hm hs (by omega) (by omega)
  clear hp hw hs
  go_enter Try.func23, Try.ntmps23
  go_wp2_with fail
  all_goals
    rw [← hW]
    clear hW
    refine (HAC.out _ (by omega)).mono ?_
    rintro e w1 ⟨v, rfl, hown, hb1⟩
    obtain ⟨a1, k1, b1, l1, rfl, -⟩ := own_open hown
    have j0 := (hb1.cell (p := ⟨w.heap.size + 1, 0, none⟩) (by show _ < _; exact hsz)).trans cW.2.2.1
    have j1 := (hb1.cell (p := ⟨w.heap.size + 1, 1, none⟩) (by show _ < _; exact hsz)).trans cW.2.2.2.1
    have f0 := (hb1.frozen (p := ⟨w.heap.size + 1, 0, none⟩) (by show _ < _; exact hsz)).trans cW.2.2.2.2.1
    have f1 := (hb1.frozen (p := ⟨w.heap.size + 1, 1, none⟩) (by show _ < _; exact hsz)).trans cW.2.2.2.2.2.1
    have hlt : w.heap.size + 1 < w1.heap.size := Nat.lt_of_lt_of_le hsz hb1.size
    have hbw1 := after hbW hb1
    have HOWN := hide hown
    clear hown hb1 hbW cW
    obtain ⟨F, hF⟩ : ∃ F, F = clearF ps ws block := ⟨_, rfl⟩
    rw [← hF]
    clear hF
    go_wp2
    refine bodyPost_ret (v := .agg #[.slice a1 (halfP ps ws block n).length k1, .slice b1 (clearW ps ws block).length l1]) (by simp [results, Try.results23, go_sem, j0, j1, hlt]) rfl ⟨_, rfl, ?_, ?_⟩
    · exact own_mono (own_below (own_set (own_set HOWN.out (show w.heap.size + 1 < W.heap.size by omega) _) (show w.heap.size + 1 < W.heap.size by omega) _) ((Below.refl _ _).alloc (Nat.le_refl _) _)) (show w.heap.size ≤ W.heap.size by omega)
    · exact ((hbw1.setCell (by show _ ≤ _; simp) _).setCell (by show _ ≤ _; simp) _).alloc (by simp [World.setCell]; omega) _

end Go.Proofs.Ytelbannfbglgcaa

namespace Go.Proofs.Ytelbannfbglgcaa
open Go.RowKit

/-- What one act leaves that is cut short. -/
noncomputable def tearR (x : Int × Int × ByteArray) (ps : List ByteArray) (ws : List Int) (n : Int) : List ByteArray × List Int :=
  if x.1 = 1 then (tornP ps ws x.2.1 x.2.2 n, burnW ps ws) else if x.1 = 2 then (halfP ps ws x.2.1 n, clearW ps ws x.2.1) else (ps, ws)
/-- How many acts are done. -/
def cutK (k : Int) (n : Nat) : Nat := (max (min k n) 0).toNat
theorem cutK_le (k : Int) (n : Nat) : cutK k n ≤ n := by unfold cutK; omega
theorem cutK_is (k : Int) (n : Nat) : max (min k (n : Int)) 0 = ((cutK k n : Nat) : Int) := by unfold cutK; omega
noncomputable def cutR (cs : List (Int × Int × ByteArray)) (ps : List ByteArray) (ws : List Int) (k n : Int) : List ByteArray × List Int :=
  if (allR (cs.take (cutK k cs.length)) ps ws).2.2 = false then ((allR (cs.take (cutK k cs.length)) ps ws).1, (allR (cs.take (cutK k cs.length)) ps ws).2.1)
  else match cs[cutK k cs.length]? with
    | none => ((allR (cs.take (cutK k cs.length)) ps ws).1, (allR (cs.take (cutK k cs.length)) ps ws).2.1)
    | some x => tearR x (allR (cs.take (cutK k cs.length)) ps ws).1 (allR (cs.take (cutK k cs.length)) ps ws).2.1 n
theorem half_right {ps : List ByteArray} {ws : List Int} {block n : Int} (h : chipOkP ps ws) : chipOkP (halfP ps ws block n) (clearW ps ws block) := by
  unfold halfP halfQ clearW
  rw [if_pos h, if_pos h]
  by_cases hc : clearOk ws block
  · rw [if_pos hc, if_pos hc]
    obtain ⟨h0, h1, h2⟩ := hc
    obtain ⟨hl, hm, hs, hx⟩ := h
    refine ⟨by rw [wipeP_len]; exact hl, by rw [List.length_set]; exact hm, fun s h' => ?_, fun x h' => ?_⟩
    · rcases wipeP_mem h' with h' | h'
      · exact hs s h'
      · rw [h']; decide
    · rcases mem_set h' with h' | h'
      · exact hx x h'
      · have hlt : block.toNat < ws.length := by omega
        have hv := hx ws[block.toNat] (List.getElem_mem hlt)
        rw [List.getElem?_eq_getElem hlt] at h' h2
        simp only [Option.getD_some] at h' h2
        omega
  · rw [if_neg hc, if_neg hc]
    exact h
theorem tear_right {x : Int × Int × ByteArray} {ps : List ByteArray} {ws : List Int} {n : Int} (h : chipOkP ps ws) : chipOkP (tearR x ps ws n).1 (tearR x ps ws n).2 := by
  unfold tearR
  split
  · exact burn_right h
  · split
    · exact half_right h
    · exact h
theorem cut_right {cs : List (Int × Int × ByteArray)} {ps : List ByteArray} {ws : List Int} {k n : Int} (h : chipOkP ps ws) : chipOkP (cutR cs ps ws k n).1 (cutR cs ps ws k n).2 := by
  have ha := allR_right (cs.take (cutK k cs.length)) h
  unfold cutR
  split
  · exact ha
  · split
    · exact ha
    · exact tear_right ha
theorem vsAct_take {cs : List (Int × Int × ByteArray)} {K : Nat} : vsAct (cs.take K) = (vsAct cs).take (K * 3) := by
  induction cs generalizing K with
  | nil => simp [vsAct]
  | cons x xs ih =>
    cases K with
    | zero => simp [vsAct]
    | succ K =>
      have e : (K + 1) * 3 = K * 3 + 1 + 1 + 1 := by omega
      rw [e]
      show vsAct (x :: xs.take K) = _
      have h1 : vsAct (x :: xs.take K) = .int .i64 x.1 :: .int .i64 x.2.1 :: .string x.2.2 :: vsAct (xs.take K) := by simp [vsAct]
      have h2 : vsAct (x :: xs) = .int .i64 x.1 :: .int .i64 x.2.1 :: .string x.2.2 :: vsAct xs := by simp [vsAct]
      rw [h1, h2, ih]
      simp
theorem rd_take {w : World} {a : Option Addr} {vs : List Value} {K : Nat} (h : Rd w a vs) : Rd w a (vs.take K) := by
  rcases h with h | ⟨b, off, ha, hc⟩
  · left; rw [h]; simp
  · refine .inr ⟨b, off, ha, fun i v hv => hc i v ?_⟩
    rw [List.getElem?_take] at hv
    split at hv
    · exact hv
    · cases hv

set_option maxRecDepth 100000 in
set_option maxHeartbeats 6400000 in
theorem specCut_ok (a b : Option Addr) (ad : Addr) (ps : List ByteArray) (ws : List Int) (c d cl : Nat) (cs : List (Int × Int × ByteArray)) (k n : Int) (w : World) (hp : Rd w a (vsString ps)) (hw : Rd w b (vsInt ws)) (hl : Rd w (some ad) (vsAct cs)) (hok : chipOkP ps ws) (hcs : cs.length ≤ 1048576) (hts : ∀ x ∈ cs, x.2.2.size ≤ 1048576)
    (hcl : cs.length ≤ cl) (hn : (Lit.int .i64 n).wf = true) :
    Calls Try.prog 55 #[.agg #[.slice a ps.length c, .slice b ws.length d], .slice (some ad) cs.length cl, .int .i64 k, .int .i64 n] w fun e w' => ∃ v, e = .returned v ∧ ChipOwn w' w.heap.size v (cutR cs ps ws k n).1 (cutR cs ps ws k n).2 ∧ Below w.heap.size w w' := by
  obtain ⟨A, hA⟩ : ∃ A, A = (w.alloc (Obj.cells #[.slice a ps.length c, .slice b ws.length d] 27)).alloc (Obj.cells #[.slice none 0 0, .slice none 0 0] 27) := ⟨_, rfl⟩
  have hbA : Below w.heap.size w A := by rw [hA]; exact ((Below.refl _ _).alloc (Nat.le_refl _) _).alloc (by simp) _
  have hsA : A.heap.size = w.heap.size + 1 + 1 := by rw [hA]; simp
  have x0 : A.cell? ⟨w.heap.size, 0, none⟩ = some (.slice a ps.length c) := by rw [hA]; simp [go_sem]
  have x1 : A.cell? ⟨w.heap.size, 1, none⟩ = some (.slice b ws.length d) := by rw [hA]; simp [go_sem]
  have y0 : A.cell? ⟨w.heap.size + 1, 0, none⟩ = some (.slice none 0 0) := by rw [hA]; simp [go_sem]
  have y1 : A.cell? ⟨w.heap.size + 1, 1, none⟩ = some (.slice none 0 0) := by rw [hA]; simp [go_sem]
  have yf : A.frozen? ⟨w.heap.size + 1, 0, none⟩ = false ∧ A.frozen? ⟨w.heap.size + 1, 1, none⟩ = false := by rw [hA]; constructor <;> simp [go_sem]
  obtain ⟨K, hK⟩ : ∃ K, K = cutK k cs.length := ⟨_, rfl⟩
  have hKl : K ≤ cs.length := by rw [hK]; exact cutK_le _ _
  obtain ⟨T, hT⟩ : ∃ T, T = allR (cs.take K) ps ws := ⟨_, rfl⟩
  obtain ⟨P1, W1, F1⟩ := T
  have hch : chipOkP P1 W1 := by have := allR_right (cs.take K) hok; rw [← hT] at this; exact this
  obtain ⟨Q, hQ⟩ : ∃ Q, Q = cutR cs ps ws k n := ⟨_, rfl⟩
  have HQ : Hid (Q = if F1 = false then (P1, W1) else match cs[K]? with | none => (P1, W1) | some x => tearR x P1 W1 n) := by
    show _ = _
    rw [hQ]
    unfold cutR
    rw [← hK, ← hT]
  have HMX : Hid (∀ u, Calls Try.prog 69 #[.int .i64 (min k cs.length), .int .i64 0] u fun e w' => e = .returned (.int .i64 K) ∧ w' = u) := by
    intro u
    refine (max_any (min k cs.length) 0 u).mono ?_
    rintro e w' ⟨rfl, rfl⟩
    exact ⟨by rw [cutK_is, ← hK], rfl⟩
  have HCL : Hid (∀ u, Below A.heap.size A.drew u → Calls Try.prog 49 #[.agg #[.slice a ps.length c, .slice b ws.length d], .slice (some ad) K cl] u fun e w' => ∃ a' c' b' d', e = .returned (.tuple #[.agg #[.slice a' P1.length c', .slice b' W1.length d'], .bool F1]) ∧ ChipOwn w' u.heap.size (.agg #[.slice a' P1.length c', .slice b' W1.length d']) P1 W1 ∧ Below u.heap.size u w') := by
    intro u hu
    have hu' : Below w.heap.size w u := after hbA ((after_drew (Below.refl _ _) 1).trans hu)
    have hlt : (cs.take K).length = K := by rw [List.length_take]; omega
    have hrt : Rd u (some ad) (vsAct (cs.take K)) := by rw [vsAct_take]; exact rd_take (hl.below hu')
    have h := specApplyAll_ok a b (some ad) ps ws c d cl (cs.take K) u (hp.below hu') (hw.below hu') hrt hok (by omega) (fun x hx => hts x (List.mem_of_mem_take hx))
    rw [hlt, ← hT] at h
    refine h.mono ?_
    rintro e w' ⟨v, rfl, ho, hb⟩
    obtain ⟨a', c', b', d', rfl, -⟩ := own_open ho
    exact ⟨a', c', b', d', rfl, ho, hb⟩
  have HMN := hide (fun u => min_any k cs.length u)
  have HLR := hide (hl.below hbA)
  have HCH := hide hch
  have HBA := hide hbA
  have HSA := hide hsA
  have HTS := hide hts
  have HXK : Hid (∀ u, Below A.heap.size A.drew u → u.cell? ⟨w.heap.size, 0, none⟩ = some (.slice a ps.length c) ∧ u.cell? ⟨w.heap.size, 1, none⟩ = some (.slice b ws.length d)) := fun u hu =>
    ⟨(hu.cell (p := ⟨w.heap.size, 0, none⟩) (lt_of_cell x0)).trans (by simpa using x0), (hu.cell (p := ⟨w.heap.size, 1, none⟩) (lt_of_cell x0)).trans (by simpa using x1)⟩
  have HRK : Hid (∀ u, Below A.heap.size A u → (u.cell? ⟨w.heap.size + 1, 0, none⟩ = some (.slice none 0 0) ∧ u.cell? ⟨w.heap.size + 1, 1, none⟩ = some (.slice none 0 0)) ∧ u.frozen? ⟨w.heap.size + 1, 0, none⟩ = false ∧ u.frozen? ⟨w.heap.size + 1, 1, none⟩ = false) := fun u hu =>
    ⟨⟨(hu.cell (p := ⟨w.heap.size + 1, 0, none⟩) (lt_of_cell y0)).trans y0, (hu.cell (p := ⟨w.heap.size + 1, 1, none⟩) (lt_of_cell y0)).trans y1⟩, (hu.frozen (p := ⟨w.heap.size + 1, 0, none⟩) (lt_of_cell y0)).trans yf.1, (hu.frozen (p := ⟨w.heap.size + 1, 1, none⟩) (lt_of_cell y0)).trans yf.2⟩
  have HN := hide hn
  have m1 : A.heap.size ≠ w.heap.size := by omega
  have hKc : K ≤ cl := by omega
  have hHALC : Below A.heap.size A.drew (A.alloc (Obj.cells #[.slice none 0 0, .slice none 0 0] 27)).drew := by
    have : Below A.heap.size A (A.alloc (Obj.cells #[.slice none 0 0, .slice none 0 0] 27)) := (Below.refl _ A).alloc (Nat.le_refl _) _
    exact ⟨this.os, this.tape, this.output, this.size, this.block⟩
  have HALC := hide hHALC
  rw [← hQ]
  clear hp hw hl hok hts hT hQ hch hbA hsA hn y0 y1 yf hK hHALC
  go_enter Try.func55, Try.ntmps55
  go_wp2_with fail
  rw [← hA]
  clear hA
  refine (HMN.out A).mono ?_
  rintro e u ⟨rfl, hu⟩
  have hu' := hu.symm
  subst hu'
  go_wp2_with fail
  refine (HMX.out _).mono ?_
  rintro e u2 ⟨rfl, hu⟩
  have hu' := hu.symm
  subst hu'
  clear HMN HMX
  go_wp2_with fail
  go_cut [9, 10] (fun x y wx => ∃ B a' c' b' d', x = .pointer (some ⟨B, 0, none⟩) ∧ y = .bool F1 ∧ Hid (CBox A wx B a' c' b' d' P1 W1))
  case first =>
      go_region_held (fun u => u.cell? ⟨w.heap.size, 0, none⟩ = some (.slice a ps.length c) ∧ u.cell? ⟨w.heap.size, 1, none⟩ = some (.slice b ws.length d))
        (first | assumption | go_keep | exact ⟨cell_other (cell_other hK1.1 m1) m1, cell_other (cell_other hK1.2 m1) m1⟩)
        ((first
          | (go_at_call 49; refine (HCL.out (A.alloc (Obj.cells #[.slice none 0 0, .slice none 0 0] 27)).drew HALC.out).mono ?_; rintro e w2 ⟨a', c', b', d', rfl, hr, hb2⟩; obtain ⟨HBX, ⟨z0, z1⟩, zf⟩ := cbox_aux hb2; have hK1 := HXK.out w2 HBX.out; have zf0 := zf 0; have zf1 := zf 1; have HRD := hide hr; clear hr hb2 zf)
          | (go_at_call 49; refine (HCL.out A.drew (Below.refl _ _)).mono ?_; rintro e w2 ⟨a', c', b', d', rfl, hr, hb2⟩; have hK1 := HXK.out w2 hb2; have HBX : Hid (Below A.heap.size A.drew w2) := hb2; have HRD := hide hr; clear hr hb2)))
      · have HBX2 := hide (cbox_late (t := 27) HRD.out (show A.heap.size ≤ A.drew.heap.size from Nat.le_refl _) (show Below A.heap.size A w2 from (after_drew (Below.refl _ _) 1).trans HBX.out))
        clear HBX hK1 HXK HCL
        go_wp2_with fail
        go_meet
        exact ⟨_, _, _, _, _, rfl, rfl, HBX2⟩
      · have HBX2 := hide (cbox_early HRD.out (by simp) (show Below A.heap.size A w2 from (after_drew (Below.refl _ _) 1).trans HBX.out) z0 z1)
        clear HBX hK1 HXK HCL z0 z1
        go_wp2_with fail
        go_meet
        exact ⟨_, _, _, _, _, rfl, rfl, HBX2⟩
  case rest =>
  obtain ⟨B, a', c', b', d', rfl, rfl, HCB⟩ := hcut
  obtain ⟨⟨n0, n1⟩, ho, hBl, hbc⟩ := HCB.out
  obtain ⟨⟨r0, r1⟩, rf0, rf1⟩ := HRK.out _ hbc
  have HOW := hide ho
  have HBC := hide hbc
  have lB := lt_of_cell n0
  have i1 : ¬ w.heap.size + 1 = B := by have := HSA.out; omega
  have i2 : ¬ B = w.heap.size + 1 := by have := HSA.out; omega
  have hR : w.heap.size + 1 < A.heap.size := by have := HSA.out; omega
  clear HCL HXK HALC ho hbc x0 x1 hBl
  have FIN : Hid (∀ (u : World) (v : Value) (ps' : List ByteArray) (ws' : List Int) (x y : Value), Below A.heap.size A u → ChipOwn u A.heap.size v ps' ws' → Q = (ps', ws') → ChipOwn ((u.setCell ⟨w.heap.size + 1, 0, none⟩ x).setCell ⟨w.heap.size + 1, 1, none⟩ y) w.heap.size v Q.1 Q.2 ∧ Below w.heap.size w ((u.setCell ⟨w.heap.size + 1, 0, none⟩ x).setCell ⟨w.heap.size + 1, 1, none⟩ y)) := by
    intro u v ps' ws' x y hb ho hQ
    rw [hQ]
    exact ⟨own_mono (own_set (own_set ho (a := ⟨w.heap.size + 1, 0, none⟩) hR _) (a := ⟨w.heap.size + 1, 1, none⟩) hR _) HBA.out.size, ((after HBA.out hb).setCell (p := ⟨w.heap.size + 1, 0, none⟩) (by show _ ≤ _; simp) _).setCell (p := ⟨w.heap.size + 1, 1, none⟩) (by show _ ≤ _; simp) _⟩
  cases F1 with
  | false =>
    have HQE : Hid (Q = (P1, W1)) := by show _ = _; rw [HQ.out]; rfl
    have hf := FIN.out wc _ _ _ (.slice a' P1.length c') (.slice b' W1.length d') HBC.out HOW.out HQE.out
    have HF := hide hf
    clear hf FIN
    go_wp2
    exact bodyPost_ret (v := .agg #[.slice a' P1.length c', .slice b' W1.length d']) (by simp [results, Try.results55, go_sem, r0, r1]) rfl ⟨_, rfl, HF.out.1, HF.out.2⟩
  | true =>
    by_cases hKe : K = cs.length
    · have HQE : Hid (Q = (P1, W1)) := by show _ = _; rw [HQ.out, if_neg (by decide), hKe, List.getElem?_eq_none (Nat.le_refl _)]
      have t1 : ((K : Int) == (cs.length : Int)) = true := by simp [hKe]
      have hf := FIN.out wc _ _ _ (.slice a' P1.length c') (.slice b' W1.length d') HBC.out HOW.out HQE.out
      have HF := hide hf
      clear hf FIN hKe
      go_wp2
      exact bodyPost_ret (v := .agg #[.slice a' P1.length c', .slice b' W1.length d']) (by simp [results, Try.results55, go_sem, r0, r1]) rfl ⟨_, rfl, HF.out.1, HF.out.2⟩
    · have hlt : K < cs.length := by omega
      obtain ⟨bl, ol, x, hadd, e0, e1, e2, HX⟩ := rdAct_at (HLR.out.below HBC.out) hlt
      injection hadd with hadd
      subst hadd
      obtain ⟨kind, at_, text⟩ := x
      have ht := HTS.out _ (List.mem_of_getElem? HX.out)
      have t1 : ((K : Int) == (cs.length : Int)) = false := by simp; omega
      have hKI : (K : Int) < (cs.length : Int) := by omega
      have HQ2 : Hid (Q = tearR (kind, at_, text) P1 W1 n) := by show _ = _; rw [HQ.out, if_neg (by decide), HX.out]
      have hrd := chip_rd HOW.out
      have HRD := hide hrd
      clear hKe HQ hrd
      by_cases h1 : kind = 1
      · subst h1
        have HQE : Hid (Q = (tornP P1 W1 at_ text n, burnW P1 W1)) := by show _ = _; rw [HQ2.out]; unfold tearR; rw [if_pos rfl]
        obtain ⟨V, hV⟩ : ∃ V, V = wc.alloc (Obj.cells #[.int .i64 1, .int .i64 at_, .string text] 68) := ⟨_, rfl⟩
        have hbV : Below wc.heap.size wc V := by rw [hV]; exact (Below.refl _ _).alloc (Nat.le_refl _) _
        have HTO := hide (specTorn_fn a' b' P1 W1 c' d' at_ text n V (HRD.out.1.below hbV) (HRD.out.2.below hbV) (by rw [HCH.out.1]; decide) (by rw [HCH.out.2.1]; decide) (fun s h => by have := HCH.out.2.2.1 s h; omega) ht HN.out)
        have HBV := hide hbV
        clear hbV
        go_wp2_with fail
        rw [← hV]
        clear hV
        refine HTO.out.mono ?_
        rintro e w5 ⟨v, rfl, hown, hb5⟩
        obtain ⟨a5, c5, b5, d5, rfl, -⟩ := own_open hown
        have hb25 := after HBC.out (after HBV.out hb5)
        obtain ⟨⟨s0, s1⟩, sf0, sf1⟩ := HRK.out _ hb25
        have HF := hide (FIN.out w5 _ _ _ (.slice a5 (tornP P1 W1 at_ text n).length c5) (.slice b5 (burnW P1 W1).length d5) hb25 (own_mono hown (by have := HBC.out.size; have := HBV.out.size; omega)) HQE.out)
        clear FIN HTO hown hb5 hb25 r0 r1 rf0 rf1 n0 n1 e0 e1 e2
        go_wp2
        exact bodyPost_ret (v := .agg #[.slice a5 (tornP P1 W1 at_ text n).length c5, .slice b5 (burnW P1 W1).length d5]) (by simp [results, Try.results55, go_sem, s0, s1]) rfl ⟨_, rfl, HF.out.1, HF.out.2⟩
      · by_cases h2 : kind = 2
        · subst h2
          have HQE : Hid (Q = (halfP P1 W1 at_ n, clearW P1 W1 at_)) := by show _ = _; rw [HQ2.out]; simp [tearR]
          obtain ⟨V, hV⟩ : ∃ V, V = wc.alloc (Obj.cells #[.int .i64 2, .int .i64 at_, .string text] 68) := ⟨_, rfl⟩
          have hbV : Below wc.heap.size wc V := by rw [hV]; exact (Below.refl _ _).alloc (Nat.le_refl _) _
          have HTO := hide (specHalf_fn a' b' P1 W1 c' d' at_ n V (HRD.out.1.below hbV) (HRD.out.2.below hbV) (by rw [HCH.out.1]; decide) (by rw [HCH.out.2.1]; decide) (fun s h => by have := HCH.out.2.2.1 s h; omega) HN.out)
          have HBV := hide hbV
          clear hbV h1
          go_wp2_with fail
          rw [← hV]
          clear hV
          refine HTO.out.mono ?_
          rintro e w5 ⟨v, rfl, hown, hb5⟩
          obtain ⟨a5, c5, b5, d5, rfl, -⟩ := own_open hown
          have hb25 := after HBC.out (after HBV.out hb5)
          obtain ⟨⟨s0, s1⟩, sf0, sf1⟩ := HRK.out _ hb25
          have HF := hide (FIN.out w5 _ _ _ (.slice a5 (halfP P1 W1 at_ n).length c5) (.slice b5 (clearW P1 W1 at_).length d5) hb25 (own_mono hown (by have := HBC.out.size; have := HBV.out.size; omega)) HQE.out)
          clear FIN HTO hown hb5 hb25 r0 r1 rf0 rf1 n0 n1 e0 e1 e2
          go_wp2
          exact bodyPost_ret (v := .agg #[.slice a5 (halfP P1 W1 at_ n).length c5, .slice b5 (clearW P1 W1 at_).length d5]) (by simp [results, Try.results55, go_sem, s0, s1]) rfl ⟨_, rfl, HF.out.1, HF.out.2⟩
        · have HQE : Hid (Q = (P1, W1)) := by show _ = _; rw [HQ2.out]; unfold tearR; rw [if_neg h1, if_neg h2]
          have t2 : (kind == 1) = false := by simpa using h1
          have t3 : (kind == 2) = false := by simpa using h2
          have hF := FIN.out wc _ _ _ (.slice a' P1.length c') (.slice b' W1.length d') HBC.out HOW.out HQE.out
          have lR := lt_of_cell r0
          obtain ⟨X, hX⟩ : ∃ X, X = (wc.setCell ⟨w.heap.size + 1, 0, none⟩ (.slice a' P1.length c')).setCell ⟨w.heap.size + 1, 1, none⟩ (.slice b' W1.length d') := ⟨_, rfl⟩
          have hXs : X.heap.size = wc.heap.size := by rw [hX]; simp [World.setCell]
          have e3 : X.cell? ⟨w.heap.size + 1, 0, none⟩ = some (.slice a' P1.length c') := by rw [hX]; simp [go_sem, World.cell?_setCell_same _ _ _ r0]
          have e4 : X.cell? ⟨w.heap.size + 1, 1, none⟩ = some (.slice b' W1.length d') := by
            have : (wc.setCell ⟨w.heap.size + 1, 0, none⟩ (.slice a' P1.length c')).cell? ⟨w.heap.size + 1, 1, none⟩ = some (.slice none 0 0) := by simpa [go_sem] using r1
            rw [hX]; exact World.cell?_setCell_same _ _ _ this
          have hbX : Below X.heap.size X (X.alloc (Obj.cells #[.int .i64 kind, .int .i64 at_, .string text] 68)) := (Below.refl _ _).alloc (Nat.le_refl _) _
          have e5 := (hbX.cell (p := ⟨w.heap.size + 1, 0, none⟩) (lt_of_cell e3)).trans e3
          have e6 := (hbX.cell (p := ⟨w.heap.size + 1, 1, none⟩) (lt_of_cell e4)).trans e4
          rw [← hX] at hF
          have HF := hide (And.intro (own_below hF.1 hbX) (after hF.2 hbX))
          have i3 : ¬ wc.heap.size = w.heap.size + 1 := by omega
          have i4 : ¬ w.heap.size + 1 = wc.heap.size := by omega
          have i5 : ¬ wc.heap.size = B := by omega
          have i6 : ¬ B = wc.heap.size := by omega
          clear FIN h1 h2 hbX hF e3 e4
          go_wp2
          rw [← hX]
          clear hX
          exact bodyPost_ret (v := .agg #[.slice a' P1.length c', .slice b' W1.length d']) (by simp [results, Try.results55, go_sem, e5, e6]) rfl ⟨_, rfl, HF.out.1, HF.out.2⟩
end Go.Proofs.Ytelbannfbglgcaa

namespace Go.Proofs.Ytelbannfbglgcaa
open Go.RowKit

/-- Each text is short. -/
def Short (cs : List (Int × Int × ByteArray)) : Prop := ∀ x ∈ cs, x.2.2.size ≤ 420
theorem short_snoc {cs : List (Int × Int × ByteArray)} {x : Int × Int × ByteArray} (h : Short cs) (hx : x.2.2.size ≤ 420) : Short (cs ++ [x]) := by
  intro y hy
  rcases List.mem_append.1 hy with hy | hy
  · exact h y hy
  · simp at hy; rw [hy]; exact hx
theorem pBurn_short {ps : List ByteArray} {ws : List Int} {s : Int} {d : ByteArray} {r : List ByteArray × (Int × Int × ByteArray)} (h : pBurn ps ws s d = some r) : r.2.2.2.size ≤ 420 := by
  unfold pBurn at h
  split at h
  · cases h
  · injection h with h
    rw [← h]
    exact recT_size s (mSeq ps) d
theorem pMove_short {B : Nat} {ws : List Int} : ∀ (xs : List Int) (ps : List ByteArray) (cs : List (Int × Int × ByteArray)) (r : List ByteArray × List (Int × Int × ByteArray)), Short cs → pMove B ws xs ps cs = some r → Short r.2 := by
  intro xs
  induction xs with
  | nil =>
    intro ps cs r h hm
    simp only [pMove] at hm
    injection hm with hm
    rw [← hm]; exact h
  | cons x xs ih =>
    intro ps cs r h hm
    simp only [pMove] at hm
    split at hm
    · cases hm
    · cases hb : pBurn ps ws (recC ps x.toNat).1 (recC ps x.toNat).2.2 with
      | none => rw [hb] at hm; cases hm
      | some b =>
        rw [hb] at hm
        exact ih b.1 _ r (short_snoc h (pBurn_short hb)) hm
theorem pClean_short {B : Nat} {ps : List ByteArray} {ws : List Int} {cs : List (Int × Int × ByteArray)} {r : List ByteArray × List Int × List (Int × Int × ByteArray)} (h : Short cs) (hc : pClean B ps ws cs = some r) : Short r.2.2 := by
  unfold pClean at hc
  cases hm : pMove B ws (livesU (mMap ps) B 6) ps cs with
  | none => rw [hm] at hc; cases hc
  | some m =>
    rw [hm] at hc
    simp only [] at hc
    split at hc
    · cases hc
    · injection hc with hc
      rw [← hc]
      exact short_snoc (pMove_short _ _ _ _ h hm) (by show ByteArray.empty.size ≤ 420; decide)
theorem pRoom_short : ∀ (n : Nat) (ps : List ByteArray) (ws : List Int) (cs : List (Int × Int × ByteArray)) (r : List ByteArray × List Int × List (Int × Int × ByteArray)), Short cs → pRoom n ps ws cs = some r → Short r.2.2 := by
  intro n
  induction n with
  | zero =>
    intro ps ws cs r h hr
    simp only [pRoom] at hr
    injection hr with hr
    rw [← hr]; exact h
  | succ n ih =>
    intro ps ws cs r h hr
    simp only [pRoom] at hr
    split at hr
    · injection hr with hr
      rw [← hr]; exact h
    · split at hr
      · cases hr
      · cases hc : pClean (worstB ps ws (mMap ps)).toNat ps ws cs with
        | none => rw [hc] at hr; cases hr
        | some c =>
          rw [hc] at hr
          exact ih _ _ _ _ (pClean_short h hc) hr
theorem pPlan_short {ps : List ByteArray} {ws : List Int} {s : Int} {d : ByteArray} {r : List ByteArray × List Int × List (Int × Int × ByteArray)} (hp : pPlan ps ws s d = some r) : Short r.2.2 ∧ r.2.2 ≠ [] := by
  unfold pPlan at hp
  split at hp
  · cases hp
  · cases hr : pRoom 10 ps ws [] with
    | none => rw [hr] at hp; cases hp
    | some m =>
      rw [hr] at hp
      simp only [] at hp
      cases hb : pBurn m.1 m.2.1 s d with
      | none => rw [hb] at hp; cases hp
      | some b =>
        rw [hb] at hp
        injection hp with hp
        rw [← hp]
        exact ⟨short_snoc (pRoom_short _ _ _ _ _ (fun x hx => by simp at hx) hr) (pBurn_short hb), by simp⟩
end Go.Proofs.Ytelbannfbglgcaa
