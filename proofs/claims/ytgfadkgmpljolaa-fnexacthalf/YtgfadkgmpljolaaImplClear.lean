/-
  Clear, the specification's and the program's: one answer.
-/
import Derived.Test.YtgfadkgmpljolaaAct
import Derived.Test.YtgfadkgmpljolaaSpecClear
import Derived.Test.YtgfadkgmpljolaaArgChip
namespace Go.Proofs.Ytgfadkgmpljolaa
open Go.RowKit

/-- What Clear answers; what Half does ('n': how many pages are cleared). -/
noncomputable def clearF (ps : List ByteArray) (ws : List Int) (block : Int) : Bool := open Classical in decide (chipOkP ps ws ∧ clearOk ws block)
noncomputable def halfQ (ps : List ByteArray) (ws : List Int) (block n : Int) : List ByteArray := open Classical in if chipOkP ps ws then (if clearOk ws block then wipeP ps block.toNat n.toNat else ps) else []
noncomputable def clearP (ps : List ByteArray) (ws : List Int) (block : Int) : List ByteArray := halfQ ps ws block 6
noncomputable def clearW (ps : List ByteArray) (ws : List Int) (block : Int) : List Int := open Classical in if chipOkP ps ws then (if clearOk ws block then ws.set block.toNat (ws[block.toNat]?.getD 0 + 1) else ws) else []
theorem halfQ_len (ps : List ByteArray) (ws : List Int) (block n : Int) : (halfQ ps ws block n).length ≤ 60 := by
  unfold halfQ
  split
  · rename_i h; split <;> simp [wipeP_len, h.1]
  · simp
theorem clearP_len (ps : List ByteArray) (ws : List Int) (block : Int) : (clearP ps ws block).length ≤ 60 := halfQ_len _ _ _ _
theorem clearW_len (ps : List ByteArray) (ws : List Int) (block : Int) : (clearW ps ws block).length ≤ 10 := by
  unfold clearW
  split
  · rename_i h; split <;> simp [h.2.1]
  · simp

theorem onClear_iff {ps : List ByteArray} {ws : List Int} {block : Int} (hok : chipOkP ps ws) : onClear ws block ↔ clearOk ws block := by
  unfold onClear clearOk
  constructor
  · rintro ⟨h1, h2, h3⟩; exact ⟨h1, by omega, by omega⟩
  · rintro ⟨h1, h2, h3⟩
    have hk : block.toNat < ws.length := by have := hok.2.1; omega
    have := hok.2.2.2 ws[block.toNat] (List.getElem_mem hk)
    rw [List.getElem?_eq_getElem hk] at h3 ⊢
    simp at h3 ⊢
    exact ⟨h1, by omega, by omega⟩
theorem clearWs_ne {ps : List ByteArray} {ws : List Int} {block : Int} (hok : chipOkP ps ws) (h : clearOk ws block) : clearWs ws block = ws.set block.toNat (ws[block.toNat]?.getD 0 + 1) ∧ clearWs ws block ≠ ws := by
  rw [clearWs_yes ((onClear_iff hok).2 h)]
  refine ⟨rfl, fun e => ?_⟩
  have hk : block.toNat < ws.length := by have := hok.2.1; have := h.1; have := h.2.1; omega
  have e2 : (ws.set block.toNat (ws[block.toNat]?.getD 0 + 1))[block.toNat]? = some (ws[block.toNat]?.getD 0 + 1) := by simp [hk]
  rw [e, List.getElem?_eq_getElem hk] at e2
  simp at e2
  omega

theorem specClear_fn (a b : Option Addr) (ps : List ByteArray) (ws : List Int) (c d : Nat) (block : Int) (w : World) (hp : Rd w a (vsString ps)) (hw : Rd w b (vsInt ws)) (hl : ps.length ≤ 1048576) (hm : ws.length ≤ 1048576) (hs : ∀ s ∈ ps, s.size ≤ 1048576) :
    Calls Try.prog 20 #[.agg #[.slice a ps.length c, .slice b ws.length d], .int .i64 block] w fun e w' => ∃ v, e = .returned (.tuple #[v, .bool (clearF ps ws block)]) ∧ ChipOwn w' w.heap.size v (clearP ps ws block) (clearW ps ws block) ∧ Below w.heap.size w w' := by
  by_cases hok : chipOkP ps ws
  · refine (specClear_ok a b ps ws c d block w hp hw hok).mono ?_
    rintro e w' ⟨h1, h2, hb⟩
    by_cases hy : clearOk ws block
    · obtain ⟨v, rfl, ho⟩ := h1 hy
      exact ⟨v, by simp [clearF, hok, hy], by simpa [clearP, halfQ, clearW, hok, hy] using ho, hb⟩
    · obtain ⟨v, rfl, ho⟩ := h2 hy
      exact ⟨v, by simp [clearF, hok, hy], by simpa [clearP, halfQ, clearW, hok, hy] using ho, hb⟩
  · refine (specClear_bad a b ps ws c d block w hp hw hl hm hs hok).mono ?_
    rintro e w' ⟨v, rfl, ho, hb⟩
    exact ⟨v, by simp [clearF, hok], by simpa [clearP, halfQ, clearW, hok] using ho, hb⟩

/-- act, at a clearing. -/
theorem actClear_fn (a b : Option Addr) (ps : List ByteArray) (ws : List Int) (c d : Nat) (block n : Int) (w : World) (hp : Rd w a (vsString ps)) (hw : Rd w b (vsInt ws)) (hl : ps.length ≤ 1048576) (hm : ws.length ≤ 1048576) (hs : ∀ s ∈ ps, s.size ≤ 1048576) (hn0 : -9223372036854775808 ≤ n) (hn6 : n ≤ 6) :
    Calls Try.prog 39 #[.agg #[.slice a ps.length c, .slice b ws.length d], .func (.func 42) #[.agg #[.int .i64 block, .int .i64 n]] #[]] w fun e w' => ∃ v, e = .returned (.tuple #[v, .bool (clearF ps ws block)]) ∧ ChipOwn w' w.heap.size v (halfQ ps ws block n) (clearW ps ws block) ∧ Below w.heap.size w w' := by
  by_cases hok : chipOkP ps ws
  · have hact : Acts 42 (.agg #[.int .i64 block, .int .i64 n]) ps (clearPs ps ws block n) ws (clearWs ws block) := fun w g h => onClear_any g ps ws block n w h hok.1 hok.2.1 (fun y hy => (hok.2.2.2 y hy).1) hn0 hn6
    refine (act_okClear _ a b ps _ ws _ c d w hp hw hok hact (by rw [clearPs_len]; exact hok.1) (by rw [clearWs_len]; exact hok.2.1)).mono ?_
    rintro e w' ⟨v, rfl, ho, hb⟩
    by_cases hy : clearOk ws block
    · obtain ⟨h1, h2⟩ := clearWs_ne hok hy
      rw [clearPs_yes ((onClear_iff hok).2 hy), h1] at ho
      exact ⟨v, by simp [clearF, hok, hy, h2], by simpa [halfQ, clearW, hok, hy] using ho, hb⟩
    · have hy' : ¬ onClear ws block := fun h => hy ((onClear_iff hok).1 h)
      rw [clearPs_no hy', clearWs_no hy'] at ho
      exact ⟨v, by simp [clearF, hok, hy, clearPs_no hy', clearWs_no hy'], by simpa [halfQ, clearW, hok, hy] using ho, hb⟩
  · refine (act_bad 42 _ a b ps ws c d w hp hw hl hm hs hok).mono ?_
    rintro e w' ⟨v, rfl, ho, hb⟩
    exact ⟨v, by simp [clearF, hok], by simpa [halfQ, clearW, hok] using ho, hb⟩

set_option maxHeartbeats 1600000 in
theorem implClear_fn (a b : Option Addr) (ps : List ByteArray) (ws : List Int) (c d : Nat) (block : Int) (w : World) (hp : Rd w a (vsString ps)) (hw : Rd w b (vsInt ws)) (hl : ps.length ≤ 1048576) (hm : ws.length ≤ 1048576) (hs : ∀ s ∈ ps, s.size ≤ 1048576) :
    Calls Try.prog 21 #[.agg #[.slice a ps.length c, .slice b ws.length d], .int .i64 block] w fun e w' => ∃ v, e = .returned (.tuple #[v, .bool (clearF ps ws block)]) ∧ ChipOwn w' w.heap.size v (clearP ps ws block) (clearW ps ws block) ∧ Below w.heap.size w w' := by
  have hmf : ∀ (fn : Fn) (first cap : Array Value) (w : World), (Instr.makeFunc fn first cap).run Try.prog w = .ok (.func fn first cap) w := fun _ _ _ _ => rfl
  obtain ⟨W, hW⟩ : ∃ W, W = (w.alloc (Obj.cells #[.slice a ps.length c, .slice b ws.length d] 28)).alloc (Obj.cells #[.slice none 0 0, .slice none 0 0] 28) := ⟨_, rfl⟩
  have hbW : Below w.heap.size w W := by subst hW; exact ((Below.refl _ _).alloc (Nat.le_refl _) _).alloc (by simp) _
  have cW : W.cell? ⟨w.heap.size + 1, 0, none⟩ = some (.slice none 0 0) ∧ W.cell? ⟨w.heap.size + 1, 1, none⟩ = some (.slice none 0 0) ∧ W.frozen? ⟨w.heap.size + 1, 0, none⟩ = false ∧ W.frozen? ⟨w.heap.size + 1, 1, none⟩ = false ∧ w.heap.size + 1 < W.heap.size := by
    subst hW; refine ⟨?_, ?_, ?_, ?_, ?_⟩ <;> simp [go_sem]
  go_enter Try.func21, Try.ntmps21
  go_wp2_with fail
  rw [← hW]
  clear hW
  refine (actClear_fn a b ps ws c d block 6 _ (hp.below hbW) (hw.below hbW) hl hm hs (by decide) (by decide)).mono ?_
  rintro e w1 ⟨v, rfl, hown, hb1⟩
  obtain ⟨a1, k1, b1, l1, rfl, -⟩ := own_open hown
  have j1 := (hb1.cell (p := ⟨w.heap.size + 1, 0, none⟩) (by show _ < _; exact cW.2.2.2.2)).trans cW.1
  have j2 := (hb1.cell (p := ⟨w.heap.size + 1, 1, none⟩) (by show _ < _; exact cW.2.2.2.2)).trans cW.2.1
  have f1 := (hb1.frozen (p := ⟨w.heap.size + 1, 0, none⟩) (by show _ < _; exact cW.2.2.2.2)).trans cW.2.2.1
  have f2 := (hb1.frozen (p := ⟨w.heap.size + 1, 1, none⟩) (by show _ < _; exact cW.2.2.2.2)).trans cW.2.2.2.1
  have hbw1 := after hbW hb1
  have hlt := cW.2.2.2.2
  have HOWN := hide hown
  clear hb1 hbW cW hp hw hs hown
  obtain ⟨F, hF⟩ : ∃ F, F = clearF ps ws block := ⟨_, rfl⟩
  rw [← hF]
  have HF := hide hF
  clear hF
  go_wp2
  refine bodyPost_ret (v := .tuple #[.agg #[.slice a1 (halfQ ps ws block 6).length k1, .slice b1 (clearW ps ws block).length l1], .bool F]) (by simp [results, Try.results21, go_sem, j1, j2]) rfl ⟨.agg #[.slice a1 (halfQ ps ws block 6).length k1, .slice b1 (clearW ps ws block).length l1], by rw [HF.out], ?_, (hbw1.setCell (by show _ ≤ _; simp) _).setCell (by show _ ≤ _; simp) _⟩
  exact own_mono (own_set (own_set HOWN.out (show w.heap.size + 1 < W.heap.size by omega) _) (show w.heap.size + 1 < W.heap.size by omega) _) (show w.heap.size ≤ W.heap.size by omega)

end Go.Proofs.Ytgfadkgmpljolaa
