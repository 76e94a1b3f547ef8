/-
  Burn, the specification's and the program's: one answer.
  Clear, the specification's and the program's: one answer.
  Contract of the specification's Apply.
-/
import Derived.Test.YtelbannfbglgcaaJMounted19
import Derived.Test.YtelbannfbglgcaaJMounted8
import Derived.Test.YtelbannfbglgcaaJMounted10
import Derived.Test.YtelbannfbglgcaaJMounted17
namespace Go.Proofs.Ytelbannfbglgcaa
open Go.RowKit

/-- What Burn answers. -/
noncomputable def burnF (ps : List ByteArray) (ws : List Int) (page : Int) (text : ByteArray) : Bool := open Classical in decide (chipOkP ps ws ∧ burnOk ps page text)
noncomputable def burnP (ps : List ByteArray) (ws : List Int) (page : Int) (text : ByteArray) : List ByteArray := open Classical in if chipOkP ps ws then (if burnOk ps page text then ps.set page.toNat text else ps) else []
noncomputable def burnW (ps : List ByteArray) (ws : List Int) : List Int := open Classical in if chipOkP ps ws then ws else []
theorem burnP_len (ps : List ByteArray) (ws : List Int) (page : Int) (text : ByteArray) : (burnP ps ws page text).length ≤ 60 := by
  unfold burnP
  split
  · rename_i h; split <;> simp [h.1]
  · simp
theorem burnW_len (ps : List ByteArray) (ws : List Int) : (burnW ps ws).length ≤ 10 := by
  unfold burnW
  split
  · rename_i h; simp [h.2.1]
  · simp

theorem set_same {ps : List ByteArray} {k : Nat} {t : ByteArray} (h : ps[k]? = some t) : ps.set k t = ps := by
  obtain ⟨hk, rfl⟩ := List.getElem?_eq_some_iff.1 h
  exact List.set_getElem_self hk
theorem burnPs_eq {ps : List ByteArray} {page : Int} {text : ByteArray} (hl : ps.length = 60) (h : burnOk ps page text) : burnPs ps page text = ps.set page.toNat text ∧ burnPs ps page text ≠ ps := by
  obtain ⟨h1, h2, h3, h4, h5⟩ := h
  have hy : onBurn ps page text := ⟨h1, by omega, h3, h5⟩
  rw [burnPs_yes hy]
  refine ⟨rfl, fun e => h4 ?_⟩
  have hk : page.toNat < ps.length := by omega
  have e2 : (ps.set page.toNat text)[page.toNat]? = some text := by simp [hk]
  rw [e] at e2
  rw [e2] at h3
  exact h3
theorem burnPs_ne {ps : List ByteArray} {page : Int} {text : ByteArray} (hl : ps.length = 60) (h : ¬ burnOk ps page text) : burnPs ps page text = ps := by
  by_cases hy : onBurn ps page text
  · rw [burnPs_yes hy]
    have ht : text = ByteArray.empty := Classical.byContradiction fun ht => h ⟨hy.1, by have := hy.2.1; omega, hy.2.2.1, ht, hy.2.2.2⟩
    have hk : page.toNat < ps.length := by have := hy.2.1; have := hy.1; omega
    refine set_same ?_
    have := hy.2.2.1
    rw [List.getElem?_eq_getElem hk] at this ⊢
    simp at this
    rw [this, ht]
  · exact burnPs_no hy

theorem specBurn_fn (a b : Option Addr) (ps : List ByteArray) (ws : List Int) (c d : Nat) (page : Int) (text : ByteArray) (w : World) (hp : Rd w a (vsString ps)) (hw : Rd w b (vsInt ws)) (hl : ps.length ≤ 1048576) (hm : ws.length ≤ 1048576) (hs : ∀ s ∈ ps, s.size ≤ 1048576) (ht : text.size ≤ 1048576) :
    Calls Try.prog 11 #[.agg #[.slice a ps.length c, .slice b ws.length d], .int .i64 page, .string text] w fun e w' => ∃ v, e = .returned (.tuple #[v, .bool (burnF ps ws page text)]) ∧ ChipOwn w' w.heap.size v (burnP ps ws page text) (burnW ps ws) ∧ Below w.heap.size w w' := by
  by_cases hok : chipOkP ps ws
  · refine (specBurn_ok a b ps ws c d page text w hp hw hok ht).mono ?_
    rintro e w' ⟨h1, h2, hb⟩
    by_cases hy : burnOk ps page text
    · obtain ⟨v, rfl, ho⟩ := h1 hy
      exact ⟨v, by simp [burnF, hok, hy], by simpa [burnP, burnW, hok, hy] using ho, hb⟩
    · obtain ⟨v, rfl, ho⟩ := h2 hy
      exact ⟨v, by simp [burnF, hok, hy], by simpa [burnP, burnW, hok, hy] using ho, hb⟩
  · refine (specBurn_bad a b ps ws c d page text w hp hw hl hm hs hok).mono ?_
    rintro e w' ⟨v, rfl, ho, hb⟩
    exact ⟨v, by simp [burnF, hok], by simpa [burnP, burnW, hok] using ho, hb⟩

/-- act, at a burning. -/
theorem actBurn_fn (a b : Option Addr) (ps : List ByteArray) (ws : List Int) (c d : Nat) (page : Int) (text : ByteArray) (w : World) (hp : Rd w a (vsString ps)) (hw : Rd w b (vsInt ws)) (hl : ps.length ≤ 1048576) (hm : ws.length ≤ 1048576) (hs : ∀ s ∈ ps, s.size ≤ 1048576) (ht : text.size ≤ 1048576) :
    Calls Try.prog 60 #[.agg #[.slice a ps.length c, .slice b ws.length d], .func (.func 61) #[.agg #[.int .i64 page, .string text]] #[]] w fun e w' => ∃ v, e = .returned (.tuple #[v, .bool (burnF ps ws page text)]) ∧ ChipOwn w' w.heap.size v (burnP ps ws page text) (burnW ps ws) ∧ Below w.heap.size w w' := by
  by_cases hok : chipOkP ps ws
  · have hact : Acts 61 (.agg #[.int .i64 page, .string text]) ps (burnPs ps page text) ws ws := fun w g h => onBurn_any g ps ws page text w h hok.1 ht
    refine (act_okBurn _ a b ps _ ws ws c d w hp hw hok hact (by rw [burnPs_len]; exact hok.1) hok.2.1).mono ?_
    rintro e w' ⟨v, rfl, ho, hb⟩
    by_cases hy : burnOk ps page text
    · obtain ⟨h1, h2⟩ := burnPs_eq hok.1 hy
      rw [h1] at ho
      exact ⟨v, by simp [burnF, hok, hy, h2], by simpa [burnP, burnW, hok, hy] using ho, hb⟩
    · have h1 := burnPs_ne hok.1 hy
      rw [h1] at ho
      exact ⟨v, by simp [burnF, hok, hy, h1], by simpa [burnP, burnW, hok, hy] using ho, hb⟩
  · refine (act_bad 61 _ a b ps ws c d w hp hw hl hm hs hok).mono ?_
    rintro e w' ⟨v, rfl, ho, hb⟩
    exact ⟨v, by simp [burnF, hok], by simpa [burnP, burnW, hok] using ho, hb⟩

set_option maxHeartbeats 1600000 in
theorem implBurn_fn (a b : Option Addr) (ps : List ByteArray) (ws : List Int) (c d : Nat) (page : Int) (text : ByteArray) (w : World) (hp : Rd w a (vsString ps)) (hw : Rd w b (vsInt ws)) (hl : ps.length ≤ 1048576) (hm : ws.length ≤ 1048576) (hs : ∀ s ∈ ps, s.size ≤ 1048576) (ht : text.size ≤ 1048576) :
    Calls Try.prog 10 #[.agg #[.slice a ps.length c, .slice b ws.length d], .int .i64 page, .string text] w fun e w' => ∃ v, e = .returned (.tuple #[v, .bool (burnF ps ws page text)]) ∧ ChipOwn w' w.heap.size v (burnP ps ws page text) (burnW ps ws) ∧ Below w.heap.size w w' := by
  have hmf : ∀ (fn : Fn) (first cap : Array Value) (w : World), (Instr.makeFunc fn first cap).run Try.prog w = .ok (.func fn first cap) w := fun _ _ _ _ => rfl
  obtain ⟨W, hW⟩ : ∃ W, W = (w.alloc (Obj.cells #[.slice a ps.length c, .slice b ws.length d] 27)).alloc (Obj.cells #[.slice none 0 0, .slice none 0 0] 27) := ⟨_, rfl⟩
  have hbW : Below w.heap.size w W := by subst hW; exact ((Below.refl _ _).alloc (Nat.le_refl _) _).alloc (by simp) _
  have cW : W.cell? ⟨w.heap.size + 1, 0, none⟩ = some (.slice none 0 0) ∧ W.cell? ⟨w.heap.size + 1, 1, none⟩ = some (.slice none 0 0) ∧ W.frozen? ⟨w.heap.size + 1, 0, none⟩ = false ∧ W.frozen? ⟨w.heap.size + 1, 1, none⟩ = false ∧ w.heap.size + 1 < W.heap.size := by
    subst hW; refine ⟨?_, ?_, ?_, ?_, ?_⟩ <;> simp [go_sem]
  go_enter Try.func10, Try.ntmps10
  go_wp2_with fail
  rw [← hW]
  clear hW
  refine (actBurn_fn a b ps ws c d page text _ (hp.below hbW) (hw.below hbW) hl hm hs ht).mono ?_
  rintro e w1 ⟨v, rfl, hown, hb1⟩
  obtain ⟨a1, k1, b1, l1, rfl, -⟩ := own_open hown
  have j1 := (hb1.cell (p := ⟨w.heap.size + 1, 0, none⟩) (by show _ < _; exact cW.2.2.2.2)).trans cW.1
  have j2 := (hb1.cell (p := ⟨w.heap.size + 1, 1, none⟩) (by show _ < _; exact cW.2.2.2.2)).trans cW.2.1
  have f1 := (hb1.frozen (p := ⟨w.heap.size + 1, 0, none⟩) (by show _ < _; exact cW.2.2.2.2)).trans cW.2.2.1
  have f2 := (hb1.frozen (p := ⟨w.heap.size + 1, 1, none⟩) (by show _ < _; exact cW.2.2.2.2)).trans cW.2.2.2.1
  have hbw1 := after hbW hb1
  have hlt := cW.2.2.2.2
  have HOWN := hide hown
  clear hb1 hbW cW hp hw hs hown
  obtain ⟨F, hF⟩ : ∃ F, F = burnF ps ws page text := ⟨_, rfl⟩
  rw [← hF]
  have HF := hide hF
  clear hF
  go_wp2
  refine bodyPost_ret (v := .tuple #[.agg #[.slice a1 (burnP ps ws page text).length k1, .slice b1 (burnW ps ws).length l1], .bool F]) (by simp [results, Try.results10, go_sem, j1, j2]) rfl ⟨.agg #[.slice a1 (burnP ps ws page text).length k1, .slice b1 (burnW ps ws).length l1], by rw [HF.out], ?_, (hbw1.setCell (by show _ ≤ _; simp) _).setCell (by show _ ≤ _; simp) _⟩
  exact own_mono (own_set (own_set HOWN.out (show w.heap.size + 1 < W.heap.size by omega) _) (show w.heap.size + 1 < W.heap.size by omega) _) (show w.heap.size ≤ W.heap.size by omega)

end Go.Proofs.Ytelbannfbglgcaa

namespace Go.Proofs.Ytelbannfbglgcaa
open Go.RowKit

/-- What Clear answers; what Half does ('n': how many pages are cleared). -/
noncomputable def clearF (ps : List ByteArray) (ws : List Int) (block : Int) : Bool := open Classical in decide (chipOkP ps ws ∧ clearOk ws block)
noncomputable def halfQ (ps : List ByteArray) (ws : List Int) (block n : Int) : List ByteArray := open Classical in if chipOkP ps ws then (if clearOk ws block then wipeP ps block.toNat n.toNat else ps) else []
noncomputable def clearP (ps : List ByteArray) (ws : List Int) (block : Int) : List ByteArray := halfQ ps ws block 6
noncomputable def clearW (ps : List ByteArray) (ws : List Int) (block : Int) : List Int := open Classical in if chipOkP ps ws then (if clearOk ws block then ws.set block.toNat (ws[block.toNat]?.getD 0 + 1) else ws) else []
theorem halfQ_len (ps : List ByteArray) (ws : List Int) (block n : Int) : (halfQ ps ws block n).length ≤ 60 := by
  unfold halfQ
  split
  · rename_i h; split <;> simp [wipeP_len, h.1]
  · simp
theorem clearP_len (ps : List ByteArray) (ws : List Int) (block : Int) : (clearP ps ws block).length ≤ 60 := halfQ_len _ _ _ _
theorem clearW_len (ps : List ByteArray) (ws : List Int) (block : Int) : (clearW ps ws block).length ≤ 10 := by
  unfold clearW
  split
  · rename_i h; split <;> simp [h.2.1]
  · simp

theorem onClear_iff {ps : List ByteArray} {ws : List Int} {block : Int} (hok : chipOkP ps ws) : onClear ws block ↔ clearOk ws block := by
  unfold onClear clearOk
  constructor
  · rintro ⟨h1, h2, h3⟩; exact ⟨h1, by omega, by omega⟩
  · rintro ⟨h1, h2, h3⟩
    have hk : block.toNat < ws.length := by have := hok.2.1; omega
    have := hok.2.2.2 ws[block.toNat] (List.getElem_mem hk)
    rw [List.getElem?_eq_getElem hk] at h3 ⊢
    simp at h3 ⊢
    exact ⟨h1, by omega, by omega⟩
theorem clearWs_ne {ps : List ByteArray} {ws : List Int} {block : Int} (hok : chipOkP ps ws) (h : clearOk ws block) : clearWs ws block = ws.set block.toNat (ws[block.toNat]?.getD 0 + 1) ∧ clearWs ws block ≠ ws := by
  rw [clearWs_yes ((onClear_iff hok).2 h)]
  refine ⟨rfl, fun e => ?_⟩
  have hk : block.toNat < ws.length := by have := hok.2.1; have := h.1; have := h.2.1; omega
  have e2 : (ws.set block.toNat (ws[block.toNat]?.getD 0 + 1))[block.toNat]? = some (ws[block.toNat]?.getD 0 + 1) := by simp [hk]
  rw [e, List.getElem?_eq_getElem hk] at e2
  simp at e2
  omega

theorem specClear_fn (a b : Option Addr) (ps : List ByteArray) (ws : List Int) (c d : Nat) (block : Int) (w : World) (hp : Rd w a (vsString ps)) (hw : Rd w b (vsInt ws)) (hl : ps.length ≤ 1048576) (hm : ws.length ≤ 1048576) (hs : ∀ s ∈ ps, s.size ≤ 1048576) :
    Calls Try.prog 16 #[.agg #[.slice a ps.length c, .slice b ws.length d], .int .i64 block] w fun e w' => ∃ v, e = .returned (.tuple #[v, .bool (clearF ps ws block)]) ∧ ChipOwn w' w.heap.size v (clearP ps ws block) (clearW ps ws block) ∧ Below w.heap.size w w' := by
  by_cases hok : chipOkP ps ws
  · refine (specClear_ok a b ps ws c d block w hp hw hok).mono ?_
    rintro e w' ⟨h1, h2, hb⟩
    by_cases hy : clearOk ws block
    · obtain ⟨v, rfl, ho⟩ := h1 hy
      exact ⟨v, by simp [clearF, hok, hy], by simpa [clearP, halfQ, clearW, hok, hy] using ho, hb⟩
    · obtain ⟨v, rfl, ho⟩ := h2 hy
      exact ⟨v, by simp [clearF, hok, hy], by simpa [clearP, halfQ, clearW, hok, hy] using ho, hb⟩
  · refine (specClear_bad a b ps ws c d block w hp hw hl hm hs hok).mono ?_
    rintro e w' ⟨v, rfl, ho, hb⟩
    exact ⟨v, by simp [clearF, hok], by simpa [clearP, halfQ, clearW, hok] using ho, hb⟩

/-- act, at a clearing. -/
theorem actClear_fn (a b : Option Addr) (ps : List ByteArray) (ws : List Int) (c d : Nat) (block n : Int) (w : World) (hp : Rd w a (vsString ps)) (hw : Rd w b (vsInt ws)) (hl : ps.length ≤ 1048576) (hm : ws.length ≤ 1048576) (hs : ∀ s ∈ ps, s.size ≤ 1048576) (hn0 : -9223372036854775808 ≤ n) (hn6 : n ≤ 6) :
    Calls Try.prog 60 #[.agg #[.slice a ps.length c, .slice b ws.length d], .func (.func 65) #[.agg #[.int .i64 block, .int .i64 n]] #[]] w fun e w' => ∃ v, e = .returned (.tuple #[v, .bool (clearF ps ws block)]) ∧ ChipOwn w' w.heap.size v (halfQ ps ws block n) (clearW ps ws block) ∧ Below w.heap.size w w' := by
  by_cases hok : chipOkP ps ws
  · have hact : Acts 65 (.agg #[.int .i64 block, .int .i64 n]) ps (clearPs ps ws block n) ws (clearWs ws block) := fun w g h => onClear_any g ps ws block n w h hok.1 hok.2.1 (fun y hy => (hok.2.2.2 y hy).1) hn0 hn6
    refine (act_okClear _ a b ps _ ws _ c d w hp hw hok hact (by rw [clearPs_len]; exact hok.1) (by rw [clearWs_len]; exact hok.2.1)).mono ?_
    rintro e w' ⟨v, rfl, ho, hb⟩
    by_cases hy : clearOk ws block
    · obtain ⟨h1, h2⟩ := clearWs_ne hok hy
      rw [clearPs_yes ((onClear_iff hok).2 hy), h1] at ho
      exact ⟨v, by simp [clearF, hok, hy, h2], by simpa [halfQ, clearW, hok, hy] using ho, hb⟩
    · have hy' : ¬ onClear ws block := fun h => hy ((onClear_iff hok).1 h)
      rw [clearPs_no hy', clearWs_no hy'] at ho
      exact ⟨v, by simp [clearF, hok, hy, clearPs_no hy', clearWs_no hy'], by simpa [halfQ, clearW, hok, hy] using ho, hb⟩
  · refine (act_bad 65 _ a b ps ws c d w hp hw hl hm hs hok).mono ?_
    rintro e w' ⟨v, rfl, ho, hb⟩
    exact ⟨v, by simp [clearF, hok], by simpa [halfQ, clearW, hok] using ho, hb⟩

set_option maxHeartbeats 1600000 in
theorem implClear_fn (a b : Option Addr) (ps : List ByteArray) (ws : List Int) (c d : Nat) (block : Int) (w : World) (hp : Rd w a (vsString ps)) (hw : Rd w b (vsInt ws)) (hl : ps.length ≤ 1048576) (hm : ws.length ≤ 1048576) (hs : ∀ s ∈ ps, s.size ≤ 1048576) :
    Calls Try.prog 15 #[.agg #[.slice a ps.length c, .slice b ws.length d], .int .i64 block] w fun e w' => ∃ v, e = .returned (.tuple #[v, .bool (clearF ps ws block)]) ∧ ChipOwn w' w.heap.size v (clearP ps ws block) (clearW ps ws block) ∧ Below w.heap.size w w' := by
  have hmf : ∀ (fn : Fn) (first cap : Array Value) (w : World), (Instr.makeFunc fn first cap).run Try.prog w = .ok (.func fn first cap) w := fun _ _ _ _ => rfl
  obtain ⟨W, hW⟩ : ∃ W, W = (w.alloc (Obj.cells #[.slice a ps.length c, .slice b ws.length d] 27)).alloc (Obj.cells #[.slice none 0 0, .slice none 0 0] 27) := ⟨_, rfl⟩
  have hbW : Below w.heap.size w W := by subst hW; exact ((Below.refl _ _).alloc (Nat.le_refl _) _).alloc (by simp) _
  have cW : W.cell? ⟨w.heap.size + 1, 0, none⟩ = some (.slice none 0 0) ∧ W.cell? ⟨w.heap.size + 1, 1, none⟩ = some (.slice none 0 0) ∧ W.frozen? ⟨w.heap.size + 1, 0, none⟩ = false ∧ W.frozen? ⟨w.heap.size + 1, 1, none⟩ = false ∧ w.heap.size + 1 < W.heap.size := by
    subst hW; refine ⟨?_, ?_, ?_, ?_, ?_⟩ <;> simp [go_sem]
  go_enter Try.func15, Try.ntmps15
  go_wp2_with fail
  rw [← hW]
  clear hW
  refine (actClear_fn a b ps ws c d block 6 _ (hp.below hbW) (hw.below hbW) hl hm hs (by decide) (by decide)).mono ?_
  rintro e w1 ⟨v, rfl, hown, hb1⟩
  obtain ⟨a1, k1, b1, l1, rfl, -⟩ := own_open hown
  have j1 := (hb1.cell (p := ⟨w.heap.size + 1, 0, none⟩) (by show _ < _; exact cW.2.2.2.2)).trans cW.1
  have j2 := (hb1.cell (p := ⟨w.heap.size + 1, 1, none⟩) (by show _ < _; exact cW.2.2.2.2)).trans cW.2.1
  have f1 := (hb1.frozen (p := ⟨w.heap.size + 1, 0, none⟩) (by show _ < _; exact cW.2.2.2.2)).trans cW.2.2.1
  have f2 := (hb1.frozen (p := ⟨w.heap.size + 1, 1, none⟩) (by show _ < _; exact cW.2.2.2.2)).trans cW.2.2.2.1
  have hbw1 := after hbW hb1
  have hlt := cW.2.2.2.2
  have HOWN := hide hown
  clear hb1 hbW cW hp hw hs hown
  obtain ⟨F, hF⟩ : ∃ F, F = clearF ps ws block := ⟨_, rfl⟩
  rw [← hF]
  have HF := hide hF
  clear hF
  go_wp2
  refine bodyPost_ret (v := .tuple #[.agg #[.slice a1 (halfQ ps ws block 6).length k1, .slice b1 (clearW ps ws block).length l1], .bool F]) (by simp [results, Try.results15, go_sem, j1, j2]) rfl ⟨.agg #[.slice a1 (halfQ ps ws block 6).length k1, .slice b1 (clearW ps ws block).length l1], by rw [HF.out], ?_, (hbw1.setCell (by show _ ≤ _; simp) _).setCell (by show _ ≤ _; simp) _⟩
  exact own_mono (own_set (own_set HOWN.out (show w.heap.size + 1 < W.heap.size by omega) _) (show w.heap.size + 1 < W.heap.size by omega) _) (show w.heap.size ≤ W.heap.size by omega)

end Go.Proofs.Ytelbannfbglgcaa

namespace Go.Proofs.Ytelbannfbglgcaa
open Go.RowKit

set_option maxHeartbeats 1600000 in
theorem specApply_bad (a b : Option Addr) (ps : List ByteArray) (ws : List Int) (c d : Nat) (kind at_ : Int) (text : ByteArray) (w : World) (hp : Rd w a (vsString ps)) (hw : Rd w b (vsInt ws)) (hl : ps.length ≤ 1048576) (hm : ws.length ≤ 1048576) (hs : ∀ s ∈ ps, s.size ≤ 1048576) (hok : ¬ chipOkP ps ws) :
    Calls Try.prog 52 #[.agg #[.slice a ps.length c, .slice b ws.length d], .agg #[.int .i64 kind, .int .i64 at_, .string text]] w fun e w' => ∃ v, e = .returned (.tuple #[v, .bool false]) ∧ ChipOwn w' w.heap.size v [] [] ∧ Below w.heap.size w w' := by
  obtain ⟨W, hW⟩ : ∃ W, W = ((w.alloc (Obj.cells #[.slice a ps.length c, .slice b ws.length d] 27)).alloc (Obj.cells #[.int .i64 kind, .int .i64 at_, .string text] 68)).alloc (Obj.cells #[.slice none 0 0, .slice none 0 0] 27) := ⟨_, rfl⟩
  have hbW : Below w.heap.size w W := by subst hW; exact (((Below.refl _ _).alloc (Nat.le_refl _) _).alloc (by simp) _).alloc (by simp; omega) _
  have cW : W.cell? ⟨w.heap.size + 1 + 1, 0, none⟩ = some (.slice none 0 0) ∧ W.cell? ⟨w.heap.size + 1 + 1, 1, none⟩ = some (.slice none 0 0) ∧ W.frozen? ⟨w.heap.size + 1 + 1, 0, none⟩ = false ∧ W.frozen? ⟨w.heap.size + 1 + 1, 1, none⟩ = false ∧ w.heap.size + 1 + 1 < W.heap.size := by
    subst hW; refine ⟨?_, ?_, ?_, ?_, ?_⟩ <;> simp [go_sem]
  have hB := chipOkB_false hok
  go_enter Try.func52, Try.ntmps52
  go_wp2_with fail
  rw [← hW]
  clear hW
  refine (specChipOk_any a b ps ws c d _ (hp.below hbW) (hw.below hbW) hl hm hs).mono ?_
  rw [hB]
  rintro e w1 ⟨rfl, hb1⟩
  have k1 := (hb1.cell (p := ⟨w.heap.size + 1 + 1, 0, none⟩) (by show _ < _; exact cW.2.2.2.2)).trans cW.1
  have k2 := (hb1.cell (p := ⟨w.heap.size + 1 + 1, 1, none⟩) (by show _ < _; exact cW.2.2.2.2)).trans cW.2.1
  have f1 := (hb1.frozen (p := ⟨w.heap.size + 1 + 1, 0, none⟩) (by show _ < _; exact cW.2.2.2.2)).trans cW.2.2.1
  have f2 := (hb1.frozen (p := ⟨w.heap.size + 1 + 1, 1, none⟩) (by show _ < _; exact cW.2.2.2.2)).trans cW.2.2.2.1
  have hbw1 := after hbW hb1
  clear hb1 hbW cW hp hw hs hok hB
  go_wp2
  exact bodyPost_ret (v := .tuple #[.agg #[.slice none 0 0, .slice none 0 0], .bool false]) (by simp [results, Try.results52, go_sem, k1, k2]) rfl ⟨_, rfl, own_zero _ _, (hbw1.setCell (by show _ ≤ _; simp; omega) _).setCell (by show _ ≤ _; simp; omega) _⟩

set_option maxHeartbeats 3200000 in
theorem specApply_ok (a b : Option Addr) (ps : List ByteArray) (ws : List Int) (c d : Nat) (kind at_ : Int) (text : ByteArray) (w : World) (hp : Rd w a (vsString ps)) (hw : Rd w b (vsInt ws)) (hok : chipOkP ps ws) (ht : text.size ≤ 1048576) :
    Calls Try.prog 52 #[.agg #[.slice a ps.length c, .slice b ws.length d], .agg #[.int .i64 kind, .int .i64 at_, .string text]] w fun e w' =>
      (kind = 1 → ∃ v, e = .returned (.tuple #[v, .bool (burnF ps ws at_ text)]) ∧ ChipOwn w' w.heap.size v (burnP ps ws at_ text) (burnW ps ws)) ∧
      (kind = 2 → ∃ v, e = .returned (.tuple #[v, .bool (clearF ps ws at_)]) ∧ ChipOwn w' w.heap.size v (clearP ps ws at_) (clearW ps ws at_)) ∧
      (kind ≠ 1 → kind ≠ 2 → ∃ v, e = .returned (.tuple #[v, .bool false]) ∧ ChipOwn w' w.heap.size v ps ws) ∧ Below w.heap.size w w' := by
  obtain ⟨W, hW⟩ : ∃ W, W = ((w.alloc (Obj.cells #[.slice a ps.length c, .slice b ws.length d] 27)).alloc (Obj.cells #[.int .i64 kind, .int .i64 at_, .string text] 68)).alloc (Obj.cells #[.slice none 0 0, .slice none 0 0] 27) := ⟨_, rfl⟩
  have hbW : Below w.heap.size w W := by subst hW; exact (((Below.refl _ _).alloc (Nat.le_refl _) _).alloc (by simp) _).alloc (by simp; omega) _
  have hB := chipOkB_true hok
  obtain ⟨hl, hm, hs8, hx⟩ := id hok
  have hsW : W.heap.size = w.heap.size + 1 + 1 + 1 := by subst hW; simp
  have cW : W.cell? ⟨w.heap.size, 0, none⟩ = some (.slice a ps.length c) ∧ W.cell? ⟨w.heap.size, 1, none⟩ = some (.slice b ws.length d) ∧ W.cell? ⟨w.heap.size + 1, 0, none⟩ = some (.int .i64 kind) ∧ W.cell? ⟨w.heap.size + 1, 1, none⟩ = some (.int .i64 at_) ∧ W.cell? ⟨w.heap.size + 1, 2, none⟩ = some (.string text) ∧
      W.cell? ⟨w.heap.size + 1 + 1, 0, none⟩ = some (.slice none 0 0) ∧ W.cell? ⟨w.heap.size + 1 + 1, 1, none⟩ = some (.slice none 0 0) ∧ W.frozen? ⟨w.heap.size + 1 + 1, 0, none⟩ = false ∧ W.frozen? ⟨w.heap.size + 1 + 1, 1, none⟩ = false := by
    subst hW; refine ⟨?_, ?_, ?_, ?_, ?_, ?_, ?_, ?_, ?_⟩ <;> simp [go_sem]
  have HL : Hid (ps.length = 60 ∧ ws.length = 10) := ⟨hl, hm⟩
  have hl1 : 60 ≤ ps.length ∧ ps.length ≤ 60 := by omega
  have hm1 : 10 ≤ ws.length ∧ ws.length ≤ 10 := by omega
  clear hl hm
  go_enter Try.func52, Try.ntmps52
  go_wp2_with fail
  rw [← hW]
  clear hW
  refine (specChipOk_any a b ps ws c d _ (hp.below hbW) (hw.below hbW) (by omega) (by omega) (fun s h => by have := hs8 s h; omega)).mono ?_
  rw [hB]
  rintro e w1 ⟨rfl, hb1⟩
  have hs1 := hb1.size
  have kc : ∀ p : Addr, p.block < W.heap.size → w1.cell? p = W.cell? p := fun p h => hb1.cell h
  have kf : ∀ p : Addr, p.block < W.heap.size → w1.frozen? p = W.frozen? p := fun p h => hb1.frozen h
  have k1 := (kc ⟨w.heap.size, 0, none⟩ (by show _ < _; simp; omega)).trans cW.1
  have k2 := (kc ⟨w.heap.size, 1, none⟩ (by show _ < _; simp; omega)).trans cW.2.1
  have k3 := (kc ⟨w.heap.size + 1, 0, none⟩ (by show _ < _; simp; omega)).trans cW.2.2.1
  have k4 := (kc ⟨w.heap.size + 1, 1, none⟩ (by show _ < _; simp; omega)).trans cW.2.2.2.1
  have k5 := (kc ⟨w.heap.size + 1, 2, none⟩ (by show _ < _; simp; omega)).trans cW.2.2.2.2.1
  have k6 := (kc ⟨w.heap.size + 1 + 1, 0, none⟩ (by show _ < _; simp; omega)).trans cW.2.2.2.2.2.1
  have k7 := (kc ⟨w.heap.size + 1 + 1, 1, none⟩ (by show _ < _; simp; omega)).trans cW.2.2.2.2.2.2.1
  have f1 := (kf ⟨w.heap.size + 1 + 1, 0, none⟩ (by show _ < _; simp; omega)).trans cW.2.2.2.2.2.2.2.1
  have f2 := (kf ⟨w.heap.size + 1 + 1, 1, none⟩ (by show _ < _; simp; omega)).trans cW.2.2.2.2.2.2.2.2
  have hbw1 := after hbW hb1
  have getF : ∀ (w2 : World) (v : Value) (ps' : List ByteArray) (ws' : List Int), ChipOwn w2 w1.heap.size v ps' ws' → Below w1.heap.size w1 w2 → Hid (∃ g n k g' n' k', v = .agg #[.slice g n k, .slice g' n' k'] ∧
      w2.cell? ⟨w.heap.size + 1 + 1, 0, none⟩ = some (.slice none 0 0) ∧ w2.cell? ⟨w.heap.size + 1 + 1, 1, none⟩ = some (.slice none 0 0) ∧ w2.frozen? ⟨w.heap.size + 1 + 1, 0, none⟩ = false ∧ w2.frozen? ⟨w.heap.size + 1 + 1, 1, none⟩ = false ∧ Below w.heap.size w w2 ∧ w1.heap.size ≤ w2.heap.size ∧ Hid (ChipOwn w2 w1.heap.size (.agg #[.slice g n k, .slice g' n' k']) ps' ws')) := by
    intro w2 v ps' ws' ho hb2
    have ho' := ho
    obtain ⟨g, k, g', k', rfl, -⟩ := own_open ho
    have hz : w.heap.size + 1 + 1 < w1.heap.size := by omega
    exact ⟨g, _, k, g', _, k', rfl, (hb2.cell (p := ⟨w.heap.size + 1 + 1, 0, none⟩) hz).trans k6, (hb2.cell (p := ⟨w.heap.size + 1 + 1, 1, none⟩) hz).trans k7, (hb2.frozen (p := ⟨w.heap.size + 1 + 1, 0, none⟩) hz).trans f1, (hb2.frozen (p := ⟨w.heap.size + 1 + 1, 1, none⟩) hz).trans f2, after hbw1 hb2, hb2.size, ho'⟩
  have getA : ∀ (w2 : World) (v : Value) (ps' : List ByteArray) (ws' : List Int), ChipOwn w2 w1.heap.size v ps' ws' → Below w1.heap.size w1 w2 → Hid (∃ g n k g' n' k', v = .agg #[.slice g n k, .slice g' n' k'] ∧ ∃ W2, W2 = w2.alloc (Obj.cells #[.slice g n k, .slice g' n' k'] 27) ∧
      W2.cell? ⟨w.heap.size + 1 + 1, 0, none⟩ = some (.slice none 0 0) ∧ W2.cell? ⟨w.heap.size + 1 + 1, 1, none⟩ = some (.slice none 0 0) ∧ W2.frozen? ⟨w.heap.size + 1 + 1, 0, none⟩ = false ∧ W2.frozen? ⟨w.heap.size + 1 + 1, 1, none⟩ = false ∧ Below w.heap.size w W2 ∧ w1.heap.size ≤ W2.heap.size ∧ Hid (ChipOwn W2 w1.heap.size (.agg #[.slice g n k, .slice g' n' k']) ps' ws')) := by
    intro w2 v ps' ws' ho hb2
    obtain ⟨g, k, g', k', rfl, -⟩ := own_open ho
    have ho2 := own_below ho ((Below.refl w2.heap.size w2).alloc (Nat.le_refl _) (Obj.cells #[.slice g ps'.length k, .slice g' ws'.length k'] 27))
    have hb3 := hb2.alloc hb2.size (Obj.cells #[.slice g ps'.length k, .slice g' ws'.length k'] 27)
    have hz : w.heap.size + 1 + 1 < w1.heap.size := by omega
    exact ⟨g, _, k, g', _, k', rfl, _, rfl, (hb3.cell (p := ⟨w.heap.size + 1 + 1, 0, none⟩) hz).trans k6, (hb3.cell (p := ⟨w.heap.size + 1 + 1, 1, none⟩) hz).trans k7, (hb3.frozen (p := ⟨w.heap.size + 1 + 1, 0, none⟩) hz).trans f1, (hb3.frozen (p := ⟨w.heap.size + 1 + 1, 1, none⟩) hz).trans f2, after hbw1 hb3, hb3.size, ho2⟩
  have HG : Hid _ := getF
  have HA : Hid _ := getA
  have HP : Hid (Rd w1 a (vsString ps)) := hp.below hbw1
  have HW : Hid (Rd w1 b (vsInt ws)) := hw.below hbw1
  have HOK : Hid (chipOkP ps ws) := hok
  have HB : Hid (Below w.heap.size w w1) := hbw1
  have hsz : w.heap.size + 1 + 1 < w1.heap.size := by omega
  clear getF getA kc kf hb1 hbW cW hp hw hB hs8 hx hok hsW hs1 hbw1 hl1 hm1
  by_cases h1 : kind = 1
  · subst h1
    go_wp2_with fail
    refine (specBurn_fn a b ps ws c d at_ text w1 HP.out HW.out (by rw [HL.out.1]; decide) (by rw [HL.out.2]; decide) (fun s h => by have := HOK.out.2.2.1 s h; omega) ht).mono ?_
    rintro e w2 ⟨v, rfl, ho, hb2⟩
    obtain ⟨g, n, k, g', n', k', rfl, W2, hW2, j1, j2, j3, j4, hbw2, hz2, HO⟩ := (HA.out w2 v _ _ ho hb2).out
    rw [hW2] at j1 j2 j3 j4 hbw2 HO
    clear ho hb2 k1 k2 k4 k5 k6 k7 f1 f2 hW2 HA HG
    go_wp2
    refine bodyPost_ret (v := .tuple #[.agg #[.slice g n k, .slice g' n' k'], .bool (burnF ps ws at_ text)]) (by simp [results, Try.results52, go_sem, j1, j2]) rfl ⟨⟨_, rfl, ?_⟩, (hbw2.setCell (by show _ ≤ _; simp; omega) _).setCell (by show _ ≤ _; simp; omega) _⟩
    refine own_mono (own_set (own_set HO.out ?_ _) ?_ _) (show w.heap.size ≤ w1.heap.size by omega)
    · show _ < _; exact hsz
    · show _ < _; exact hsz
  · by_cases h2 : kind = 2
    · subst h2
      go_wp2_with fail
      refine (specClear_fn a b ps ws c d at_ w1 HP.out HW.out (by rw [HL.out.1]; decide) (by rw [HL.out.2]; decide) (fun s h => by have := HOK.out.2.2.1 s h; omega)).mono ?_
      rintro e w2 ⟨v, rfl, ho, hb2⟩
      obtain ⟨g, n, k, g', n', k', rfl, W2, hW2, j1, j2, j3, j4, hbw2, hz2, HO⟩ := (HA.out w2 v _ _ ho hb2).out
      rw [hW2] at j1 j2 j3 j4 hbw2 HO
      clear ho hb2 k1 k2 k4 k5 k6 k7 f1 f2 hW2 HA HG
      go_wp2
      refine bodyPost_ret (v := .tuple #[.agg #[.slice g n k, .slice g' n' k'], .bool (clearF ps ws at_)]) (by simp [results, Try.results52, go_sem, j1, j2]) rfl ⟨⟨_, rfl, ?_⟩, (hbw2.setCell (by show _ ≤ _; simp; omega) _).setCell (by show _ ≤ _; simp; omega) _⟩
      refine own_mono (own_set (own_set HO.out ?_ _) ?_ _) (show w.heap.size ≤ w1.heap.size by omega)
      · show _ < _; exact hsz
      · show _ < _; exact hsz
    · go_wp2_with fail
      refine (copy_any a b ps ws c d w1 HP.out HW.out HL.out.1 HL.out.2).mono ?_
      rintro e w2 ⟨v, rfl, ho, hb2⟩
      obtain ⟨g, n, k, g', n', k', rfl, j1, j2, j3, j4, hbw2, hz2, HO⟩ := (HG.out w2 v _ _ ho hb2).out
      clear ho hb2 k1 k2 k3 k4 k5 k6 k7 f1 f2 HA HG
      go_wp2
      refine bodyPost_ret (v := .tuple #[.agg #[.slice g n k, .slice g' n' k'], .bool false]) (by simp [results, Try.results52, go_sem, j1, j2]) rfl ⟨fun h => absurd h h1, fun h => absurd h h2, fun _ _ => ⟨_, rfl, ?_⟩, (hbw2.setCell (by show _ ≤ _; simp; omega) _).setCell (by show _ ≤ _; simp; omega) _⟩
      refine own_mono (own_set (own_set HO.out ?_ _) ?_ _) (show w.heap.size ≤ w1.heap.size by omega)
      · show _ < _; exact hsz
      · show _ < _; exact hsz

/-- What Apply tells, and the chip that it hands back. -/
noncomputable def applyF (ps : List ByteArray) (ws : List Int) (kind at_ : Int) (text : ByteArray) : Bool := if kind = 1 then burnF ps ws at_ text else if kind = 2 then clearF ps ws at_ else false
noncomputable def applyP (ps : List ByteArray) (ws : List Int) (kind at_ : Int) (text : ByteArray) : List ByteArray := if kind = 1 then burnP ps ws at_ text else if kind = 2 then clearP ps ws at_ else if chipOkB ps ws = true then ps else []
noncomputable def applyW (ps : List ByteArray) (ws : List Int) (kind at_ : Int) : List Int := if kind = 1 then burnW ps ws else if kind = 2 then clearW ps ws at_ else if chipOkB ps ws = true then ws else []

theorem specApply_fn (a b : Option Addr) (ps : List ByteArray) (ws : List Int) (c d : Nat) (kind at_ : Int) (text : ByteArray) (w : World) (hp : Rd w a (vsString ps)) (hw : Rd w b (vsInt ws)) (hl : ps.length ≤ 1048576) (hm : ws.length ≤ 1048576) (hs : ∀ s ∈ ps, s.size ≤ 1048576) (ht : text.size ≤ 1048576) :
    Calls Try.prog 52 #[.agg #[.slice a ps.length c, .slice b ws.length d], .agg #[.int .i64 kind, .int .i64 at_, .string text]] w fun e w' => ∃ v, e = .returned (.tuple #[v, .bool (applyF ps ws kind at_ text)]) ∧ ChipOwn w' w.heap.size v (applyP ps ws kind at_ text) (applyW ps ws kind at_) ∧ Below w.heap.size w w' := by
  by_cases hok : chipOkP ps ws
  · refine (specApply_ok a b ps ws c d kind at_ text w hp hw hok ht).mono ?_
    rintro e w' ⟨h1, h2, h3, hb⟩
    have hB := chipOkB_true hok
    unfold applyF applyP applyW
    by_cases k1 : kind = 1
    · obtain ⟨v, he, ho⟩ := h1 k1
      rw [if_pos k1, if_pos k1, if_pos k1]
      exact ⟨v, he, ho, hb⟩
    · by_cases k2 : kind = 2
      · obtain ⟨v, he, ho⟩ := h2 k2
        rw [if_neg k1, if_neg k1, if_neg k1, if_pos k2, if_pos k2, if_pos k2]
        exact ⟨v, he, ho, hb⟩
      · obtain ⟨v, he, ho⟩ := h3 k1 k2
        rw [if_neg k1, if_neg k1, if_neg k1, if_neg k2, if_neg k2, if_neg k2, if_pos hB, if_pos hB]
        exact ⟨v, he, ho, hb⟩
  · refine (specApply_bad a b ps ws c d kind at_ text w hp hw hl hm hs hok).mono ?_
    rintro e w' ⟨v, he, ho, hb⟩
    have hB := chipOkB_false hok
    have e1 : applyF ps ws kind at_ text = false := by
      unfold applyF; split
      · simp [burnF, hok]
      · split
        · simp [clearF, hok]
        · rfl
    have e2 : applyP ps ws kind at_ text = [] := by
      unfold applyP; split
      · simp [burnP, hok]
      · split
        · simp [clearP, halfQ, hok]
        · simp [hB]
    have e3 : applyW ps ws kind at_ = [] := by
      unfold applyW; split
      · simp [burnW, hok]
      · split
        · simp [clearW, hok]
        · simp [hB]
    rw [e1, e2, e3]
    exact ⟨v, he, ho, hb⟩
end Go.Proofs.Ytelbannfbglgcaa
