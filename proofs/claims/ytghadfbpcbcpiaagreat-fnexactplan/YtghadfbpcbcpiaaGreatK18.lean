/-
  Burn, the specification's and the program's: one answer.
  Clear, the specification's and the program's: one answer.
  Contract of the specification's Apply.
  Contracts of the program's doerOf, of what it hands back, and of Apply.
-/
import Derived.Test.YtghadfbpcbcpiaaGreatK17
import Derived.Test.YtghadfbpcbcpiaaGreatK2
import Derived.Test.YtghadfbpcbcpiaaGreatK1
import Derived.Test.YtghadfbpcbcpiaaGreatK16
import Derived.Laws.EntriesVeiled
namespace Go.Proofs.YtghadfbpcbcpiaaGreat
open Go.RowKit

/-- What Burn answers. -/
noncomputable def burnF (ps : List ByteArray) (ws : List Int) (page : Int) (text : ByteArray) : Bool := open Classical in decide (chipOkP ps ws ∧ burnOk ps page text)
noncomputable def burnP (ps : List ByteArray) (ws : List Int) (page : Int) (text : ByteArray) : List ByteArray := open Classical in if chipOkP ps ws then (if burnOk ps page text then ps.set page.toNat text else ps) else []
noncomputable def burnW (ps : List ByteArray) (ws : List Int) : List Int := open Classical in if chipOkP ps ws then ws else []
theorem burnP_len (ps : List ByteArray) (ws : List Int) (page : Int) (text : ByteArray) : (burnP ps ws page text).length ≤ 60 := by
  unfold burnP
  split
  · rename_i h; split <;> simp [h.1]
  · simp
theorem burnW_len (ps : List ByteArray) (ws : List Int) : (burnW ps ws).length ≤ 10 := by
  unfold burnW
  split
  · rename_i h; simp [h.2.1]
  · simp

theorem set_same {ps : List ByteArray} {k : Nat} {t : ByteArray} (h : ps[k]? = some t) : ps.set k t = ps := by
  obtain ⟨hk, rfl⟩ := List.getElem?_eq_some_iff.1 h
  exact List.set_getElem_self hk
theorem burnPs_eq {ps : List ByteArray} {page : Int} {text : ByteArray} (hl : ps.length = 60) (h : burnOk ps page text) : burnPs ps page text = ps.set page.toNat text ∧ burnPs ps page text ≠ ps := by
  obtain ⟨h1, h2, h3, h4, h5⟩ := h
  have hy : onBurn ps page text := ⟨h1, by omega, h3, h5⟩
  rw [burnPs_yes hy]
  refine ⟨rfl, fun e => h4 ?_⟩
  have hk : page.toNat < ps.length := by omega
  have e2 : (ps.set page.toNat text)[page.toNat]? = some text := by simp [hk]
  rw [e] at e2
  rw [e2] at h3
  exact h3
theorem burnPs_ne {ps : List ByteArray} {page : Int} {text : ByteArray} (hl : ps.length = 60) (h : ¬ burnOk ps page text) : burnPs ps page text = ps := by
  by_cases hy : onBurn ps page text
  · rw [burnPs_yes hy]
    have ht : text = ByteArray.empty := Classical.byContradiction fun ht => h ⟨hy.1, by have := hy.2.1; omega, hy.2.2.1, ht, hy.2.2.2⟩
    have hk : page.toNat < ps.length := by have := hy.2.1; have := hy.1; omega
    refine set_same ?_
    have := hy.2.2.1
    rw [List.getElem?_eq_getElem hk] at this ⊢
    simp at this
    rw [this, ht]
  · exact burnPs_no hy

/-- act, at a burning. -/
theorem actBurn_fn (a b : Option Addr) (ps : List ByteArray) (ws : List Int) (c d : Nat) (page : Int) (text : ByteArray) (w : World) (hp : Rd w a (vsString ps)) (hw : Rd w b (vsInt ws)) (hl : ps.length ≤ 1048576) (hm : ws.length ≤ 1048576) (hs : ∀ s ∈ ps, s.size ≤ 1048576) (ht : text.size ≤ 1048576) :
    Calls Tryz.prog 113 #[.agg #[.slice a ps.length c, .slice b ws.length d], .func (.func 121) #[.agg #[.int .i64 page, .string text]] #[]] w fun e w' => ∃ v, e = .returned (.tuple #[v, .bool (burnF ps ws page text)]) ∧ ChipOwn w' w.heap.size v (burnP ps ws page text) (burnW ps ws) ∧ Below w.heap.size w w' := by
  by_cases hok : chipOkP ps ws
  · have hact : Acts 121 (.agg #[.int .i64 page, .string text]) ps (burnPs ps page text) ws ws := fun w g h => onBurn_any g ps ws page text w h hok.1 ht
    refine (act_okBurn _ a b ps _ ws ws c d w hp hw hok hact (by rw [burnPs_len]; exact hok.1) hok.2.1).mono ?_
    rintro e w' ⟨v, rfl, ho, hb⟩
    by_cases hy : burnOk ps page text
    · obtain ⟨h1, h2⟩ := burnPs_eq hok.1 hy
      rw [h1] at ho
      exact ⟨v, by simp [burnF, hok, hy, h2], by simpa [burnP, burnW, hok, hy] using ho, hb⟩
    · have h1 := burnPs_ne hok.1 hy
      rw [h1] at ho
      exact ⟨v, by simp [burnF, hok, hy, h1], by simpa [burnP, burnW, hok, hy] using ho, hb⟩
  · refine (act_bad 121 _ a b ps ws c d w hp hw hl hm hs hok).mono ?_
    rintro e w' ⟨v, rfl, ho, hb⟩
    exact ⟨v, by simp [burnF, hok], by simpa [burnP, burnW, hok] using ho, hb⟩

set_option maxHeartbeats 1600000 in
theorem implBurn_fn (a b : Option Addr) (ps : List ByteArray) (ws : List Int) (c d : Nat) (page : Int) (text : ByteArray) (w : World) (hp : Rd w a (vsString ps)) (hw : Rd w b (vsInt ws)) (hl : ps.length ≤ 1048576) (hm : ws.length ≤ 1048576) (hs : ∀ s ∈ ps, s.size ≤ 1048576) (ht : text.size ≤ 1048576) :
    Calls Tryz.prog 116 #[.agg #[.slice a ps.length c, .slice b ws.length d], .int .i64 page, .string text] w fun e w' => ∃ v, e = .returned (.tuple #[v, .bool (burnF ps ws page text)]) ∧ ChipOwn w' w.heap.size v (burnP ps ws page text) (burnW ps ws) ∧ Below w.heap.size w w' := by
  have hmf : ∀ (fn : Fn) (first cap : Array Value) (w : World), (Instr.makeFunc fn first cap).run Tryz.prog w = .ok (.func fn first cap) w := fun _ _ _ _ => rfl
  obtain ⟨W, hW⟩ : ∃ W, W = (w.alloc (Obj.cells #[.slice a ps.length c, .slice b ws.length d] 30)).alloc (Obj.cells #[.slice none 0 0, .slice none 0 0] 30) := ⟨_, rfl⟩
  have hbW : Below w.heap.size w W := by subst hW; exact ((Below.refl _ _).alloc (Nat.le_refl _) _).alloc (by simp) _
  have cW : W.cell? ⟨w.heap.size + 1, 0, none⟩ = some (.slice none 0 0) ∧ W.cell? ⟨w.heap.size + 1, 1, none⟩ = some (.slice none 0 0) ∧ W.frozen? ⟨w.heap.size + 1, 0, none⟩ = false ∧ W.frozen? ⟨w.heap.size + 1, 1, none⟩ = false ∧ w.heap.size + 1 < W.heap.size := by
    subst hW; refine ⟨?_, ?_, ?_, ?_, ?_⟩ <;> simp [go_sem]
  go_enter Tryz.func116, Tryz.ntmps116
  go_wp2_with fail
  rw [← hW]
  clear hW
  refine (actBurn_fn a b ps ws c d page text _ (hp.below hbW) (hw.below hbW) hl hm hs ht).mono ?_
  rintro e w1 ⟨v, rfl, hown, hb1⟩
  obtain ⟨a1, k1, b1, l1, rfl, -⟩ := own_open hown
  have j1 := (hb1.cell (p := ⟨w.heap.size + 1, 0, none⟩) (by show _ < _; exact cW.2.2.2.2)).trans cW.1
  have j2 := (hb1.cell (p := ⟨w.heap.size + 1, 1, none⟩) (by show _ < _; exact cW.2.2.2.2)).trans cW.2.1
  have f1 := (hb1.frozen (p := ⟨w.heap.size + 1, 0, none⟩) (by show _ < _; exact cW.2.2.2.2)).trans cW.2.2.1
  have f2 := (hb1.frozen (p := ⟨w.heap.size + 1, 1, none⟩) (by show _ < _; exact cW.2.2.2.2)).trans cW.2.2.2.1
  have hbw1 := after hbW hb1
  have hlt := cW.2.2.2.2
  have HOWN := hide hown
  clear hb1 hbW cW hp hw hs hown
  obtain ⟨F, hF⟩ : ∃ F, F = burnF ps ws page text := ⟨_, rfl⟩
  rw [← hF]
  have HF := hide hF
  clear hF
  go_wp2
  refine bodyPost_ret (v := .tuple #[.agg #[.slice a1 (burnP ps ws page text).length k1, .slice b1 (burnW ps ws).length l1], .bool F]) (by simp [results, Tryz.results116, go_sem, j1, j2]) rfl ⟨.agg #[.slice a1 (burnP ps ws page text).length k1, .slice b1 (burnW ps ws).length l1], by rw [HF.out], ?_, (hbw1.setCell (by show _ ≤ _; simp) _).setCell (by show _ ≤ _; simp) _⟩
  exact own_mono (own_set (own_set HOWN.out (show w.heap.size + 1 < W.heap.size by omega) _) (show w.heap.size + 1 < W.heap.size by omega) _) (show w.heap.size ≤ W.heap.size by omega)

end Go.Proofs.YtghadfbpcbcpiaaGreat

namespace Go.Proofs.YtghadfbpcbcpiaaGreat
open Go.RowKit

/-- What Clear answers; what Half does ('n': how many pages are cleared). -/
noncomputable def clearF (ps : List ByteArray) (ws : List Int) (block : Int) : Bool := open Classical in decide (chipOkP ps ws ∧ clearOk ws block)
noncomputable def halfQ (ps : List ByteArray) (ws : List Int) (block n : Int) : List ByteArray := open Classical in if chipOkP ps ws then (if clearOk ws block then wipeP ps block.toNat n.toNat else ps) else []
noncomputable def clearP (ps : List ByteArray) (ws : List Int) (block : Int) : List ByteArray := halfQ ps ws block 6
noncomputable def clearW (ps : List ByteArray) (ws : List Int) (block : Int) : List Int := open Classical in if chipOkP ps ws then (if clearOk ws block then ws.set block.toNat (ws[block.toNat]?.getD 0 + 1) else ws) else []
theorem halfQ_len (ps : List ByteArray) (ws : List Int) (block n : Int) : (halfQ ps ws block n).length ≤ 60 := by
  unfold halfQ
  split
  · rename_i h; split <;> simp [wipeP_len, h.1]
  · simp
theorem clearP_len (ps : List ByteArray) (ws : List Int) (block : Int) : (clearP ps ws block).length ≤ 60 := halfQ_len _ _ _ _
theorem clearW_len (ps : List ByteArray) (ws : List Int) (block : Int) : (clearW ps ws block).length ≤ 10 := by
  unfold clearW
  split
  · rename_i h; split <;> simp [h.2.1]
  · simp

theorem onClear_iff {ps : List ByteArray} {ws : List Int} {block : Int} (hok : chipOkP ps ws) : onClear ws block ↔ clearOk ws block := by
  unfold onClear clearOk
  constructor
  · rintro ⟨h1, h2, h3⟩; exact ⟨h1, by omega, by omega⟩
  · rintro ⟨h1, h2, h3⟩
    have hk : block.toNat < ws.length := by have := hok.2.1; omega
    have := hok.2.2.2 ws[block.toNat] (List.getElem_mem hk)
    rw [List.getElem?_eq_getElem hk] at h3 ⊢
    simp at h3 ⊢
    exact ⟨h1, by omega, by omega⟩
theorem clearWs_ne {ps : List ByteArray} {ws : List Int} {block : Int} (hok : chipOkP ps ws) (h : clearOk ws block) : clearWs ws block = ws.set block.toNat (ws[block.toNat]?.getD 0 + 1) ∧ clearWs ws block ≠ ws := by
  rw [clearWs_yes ((onClear_iff hok).2 h)]
  refine ⟨rfl, fun e => ?_⟩
  have hk : block.toNat < ws.length := by have := hok.2.1; have := h.1; have := h.2.1; omega
  have e2 : (ws.set block.toNat (ws[block.toNat]?.getD 0 + 1))[block.toNat]? = some (ws[block.toNat]?.getD 0 + 1) := by simp [hk]
  rw [e, List.getElem?_eq_getElem hk] at e2
  simp at e2
  omega

/-- act, at a clearing. -/
theorem actClear_fn (a b : Option Addr) (ps : List ByteArray) (ws : List Int) (c d : Nat) (block n : Int) (w : World) (hp : Rd w a (vsString ps)) (hw : Rd w b (vsInt ws)) (hl : ps.length ≤ 1048576) (hm : ws.length ≤ 1048576) (hs : ∀ s ∈ ps, s.size ≤ 1048576) (hn0 : -9223372036854775808 ≤ n) (hn6 : n ≤ 6) :
    Calls Tryz.prog 113 #[.agg #[.slice a ps.length c, .slice b ws.length d], .func (.func 122) #[.agg #[.int .i64 block, .int .i64 n]] #[]] w fun e w' => ∃ v, e = .returned (.tuple #[v, .bool (clearF ps ws block)]) ∧ ChipOwn w' w.heap.size v (halfQ ps ws block n) (clearW ps ws block) ∧ Below w.heap.size w w' := by
  by_cases hok : chipOkP ps ws
  · have hact : Acts 122 (.agg #[.int .i64 block, .int .i64 n]) ps (clearPs ps ws block n) ws (clearWs ws block) := fun w g h => onClear_any g ps ws block n w h hok.1 hok.2.1 (fun y hy => (hok.2.2.2 y hy).1) hn0 hn6
    refine (act_okClear _ a b ps _ ws _ c d w hp hw hok hact (by rw [clearPs_len]; exact hok.1) (by rw [clearWs_len]; exact hok.2.1)).mono ?_
    rintro e w' ⟨v, rfl, ho, hb⟩
    by_cases hy : clearOk ws block
    · obtain ⟨h1, h2⟩ := clearWs_ne hok hy
      rw [clearPs_yes ((onClear_iff hok).2 hy), h1] at ho
      exact ⟨v, by simp [clearF, hok, hy, h2], by simpa [halfQ, clearW, hok, hy] using ho, hb⟩
    · have hy' : ¬ onClear ws block := fun h => hy ((onClear_iff hok).1 h)
      rw [clearPs_no hy', clearWs_no hy'] at ho
      exact ⟨v, by simp [clearF, hok, hy, clearPs_no hy', clearWs_no hy'], by simpa [halfQ, clearW, hok, hy] using ho, hb⟩
  · refine (act_bad 122 _ a b ps ws c d w hp hw hl hm hs hok).mono ?_
    rintro e w' ⟨v, rfl, ho, hb⟩
    exact ⟨v, by simp [clearF, hok], by simpa [halfQ, clearW, hok] using ho, hb⟩

set_option maxHeartbeats 1600000 in
theorem implClear_fn (a b : Option Addr) (ps : List ByteArray) (ws : List Int) (c d : Nat) (block : Int) (w : World) (hp : Rd w a (vsString ps)) (hw : Rd w b (vsInt ws)) (hl : ps.length ≤ 1048576) (hm : ws.length ≤ 1048576) (hs : ∀ s ∈ ps, s.size ≤ 1048576) :
    Calls Tryz.prog 118 #[.agg #[.slice a ps.length c, .slice b ws.length d], .int .i64 block] w fun e w' => ∃ v, e = .returned (.tuple #[v, .bool (clearF ps ws block)]) ∧ ChipOwn w' w.heap.size v (clearP ps ws block) (clearW ps ws block) ∧ Below w.heap.size w w' := by
  have hmf : ∀ (fn : Fn) (first cap : Array Value) (w : World), (Instr.makeFunc fn first cap).run Tryz.prog w = .ok (.func fn first cap) w := fun _ _ _ _ => rfl
  obtain ⟨W, hW⟩ : ∃ W, W = (w.alloc (Obj.cells #[.slice a ps.length c, .slice b ws.length d] 30)).alloc (Obj.cells #[.slice none 0 0, .slice none 0 0] 30) := ⟨_, rfl⟩
  have hbW : Below w.heap.size w W := by subst hW; exact ((Below.refl _ _).alloc (Nat.le_refl _) _).alloc (by simp) _
  have cW : W.cell? ⟨w.heap.size + 1, 0, none⟩ = some (.slice none 0 0) ∧ W.cell? ⟨w.heap.size + 1, 1, none⟩ = some (.slice none 0 0) ∧ W.frozen? ⟨w.heap.size + 1, 0, none⟩ = false ∧ W.frozen? ⟨w.heap.size + 1, 1, none⟩ = false ∧ w.heap.size + 1 < W.heap.size := by
    subst hW; refine ⟨?_, ?_, ?_, ?_, ?_⟩ <;> simp [go_sem]
  go_enter Tryz.func118, Tryz.ntmps118
  go_wp2_with fail
  rw [← hW]
  clear hW
  refine (actClear_fn a b ps ws c d block 6 _ (hp.below hbW) (hw.below hbW) hl hm hs (by decide) (by decide)).mono ?_
  rintro e w1 ⟨v, rfl, hown, hb1⟩
  obtain ⟨a1, k1, b1, l1, rfl, -⟩ := own_open hown
  have j1 := (hb1.cell (p := ⟨w.heap.size + 1, 0, none⟩) (by show _ < _; exact cW.2.2.2.2)).trans cW.1
  have j2 := (hb1.cell (p := ⟨w.heap.size + 1, 1, none⟩) (by show _ < _; exact cW.2.2.2.2)).trans cW.2.1
  have f1 := (hb1.frozen (p := ⟨w.heap.size + 1, 0, none⟩) (by show _ < _; exact cW.2.2.2.2)).trans cW.2.2.1
  have f2 := (hb1.frozen (p := ⟨w.heap.size + 1, 1, none⟩) (by show _ < _; exact cW.2.2.2.2)).trans cW.2.2.2.1
  have hbw1 := after hbW hb1
  have hlt := cW.2.2.2.2
  have HOWN := hide hown
  clear hb1 hbW cW hp hw hs hown
  obtain ⟨F, hF⟩ : ∃ F, F = clearF ps ws block := ⟨_, rfl⟩
  rw [← hF]
  have HF := hide hF
  clear hF
  go_wp2
  refine bodyPost_ret (v := .tuple #[.agg #[.slice a1 (halfQ ps ws block 6).length k1, .slice b1 (clearW ps ws block).length l1], .bool F]) (by simp [results, Tryz.results118, go_sem, j1, j2]) rfl ⟨.agg #[.slice a1 (halfQ ps ws block 6).length k1, .slice b1 (clearW ps ws block).length l1], by rw [HF.out], ?_, (hbw1.setCell (by show _ ≤ _; simp) _).setCell (by show _ ≤ _; simp) _⟩
  exact own_mono (own_set (own_set HOWN.out (show w.heap.size + 1 < W.heap.size by omega) _) (show w.heap.size + 1 < W.heap.size by omega) _) (show w.heap.size ≤ W.heap.size by omega)

end Go.Proofs.YtghadfbpcbcpiaaGreat

namespace Go.Proofs.YtghadfbpcbcpiaaGreat
open Go.RowKit

/-- What Apply tells, and the chip that it hands back. -/
noncomputable def applyF (ps : List ByteArray) (ws : List Int) (kind at_ : Int) (text : ByteArray) : Bool := if kind = 1 then burnF ps ws at_ text else if kind = 2 then clearF ps ws at_ else false
noncomputable def applyP (ps : List ByteArray) (ws : List Int) (kind at_ : Int) (text : ByteArray) : List ByteArray := if kind = 1 then burnP ps ws at_ text else if kind = 2 then clearP ps ws at_ else if chipOkB ps ws = true then ps else []
noncomputable def applyW (ps : List ByteArray) (ws : List Int) (kind at_ : Int) : List Int := if kind = 1 then burnW ps ws else if kind = 2 then clearW ps ws at_ else if chipOkB ps ws = true then ws else []

end Go.Proofs.YtghadfbpcbcpiaaGreat

namespace Go.Proofs.YtghadfbpcbcpiaaGreat
open Go.RowKit

set_option maxHeartbeats 1600000 in
theorem act_bad0 (f : Nat) (a b : Option Addr) (ps : List ByteArray) (ws : List Int) (c d : Nat) (w : World) (hp : Rd w a (vsString ps)) (hw : Rd w b (vsInt ws)) (hl : ps.length ≤ 1048576) (hm : ws.length ≤ 1048576) (hs : ∀ s ∈ ps, s.size ≤ 1048576) (hok : ¬ chipOkP ps ws) :
    Calls Tryz.prog 113 #[.agg #[.slice a ps.length c, .slice b ws.length d], .func (.func f) #[] #[]] w fun e w' => ∃ v, e = .returned (.tuple #[v, .bool false]) ∧ ChipOwn w' w.heap.size v [] [] ∧ Below w.heap.size w w' := by
  obtain ⟨W, hW⟩ : ∃ W, W = (w.alloc (Obj.cells #[.slice a ps.length c, .slice b ws.length d] 30)).alloc (Obj.cells #[.slice none 0 0, .slice none 0 0] 30) := ⟨_, rfl⟩
  have hbW : Below w.heap.size w W := by subst hW; exact ((Below.refl _ _).alloc (Nat.le_refl _) _).alloc (by simp) _
  have cW : W.cell? ⟨w.heap.size + 1, 0, none⟩ = some (.slice none 0 0) ∧ W.cell? ⟨w.heap.size + 1, 1, none⟩ = some (.slice none 0 0) ∧ W.frozen? ⟨w.heap.size + 1, 0, none⟩ = false ∧ W.frozen? ⟨w.heap.size + 1, 1, none⟩ = false ∧ w.heap.size + 1 < W.heap.size := by
    subst hW; refine ⟨?_, ?_, ?_, ?_, ?_⟩ <;> simp [go_sem]
  have hB := chipOkB_false hok
  go_enter Tryz.func113, Tryz.ntmps113
  go_wp2_with fail
  rw [← hW]
  clear hW
  refine (implChipOk_any a b ps ws c d _ (hp.below hbW) (hw.below hbW) hl hm hs).mono ?_
  rw [hB]
  rintro e w1 ⟨rfl, hb1⟩
  have k1 := (hb1.cell (p := ⟨w.heap.size + 1, 0, none⟩) (by show _ < _; exact cW.2.2.2.2)).trans cW.1
  have k2 := (hb1.cell (p := ⟨w.heap.size + 1, 1, none⟩) (by show _ < _; exact cW.2.2.2.2)).trans cW.2.1
  have f1 := (hb1.frozen (p := ⟨w.heap.size + 1, 0, none⟩) (by show _ < _; exact cW.2.2.2.2)).trans cW.2.2.1
  have f2 := (hb1.frozen (p := ⟨w.heap.size + 1, 1, none⟩) (by show _ < _; exact cW.2.2.2.2)).trans cW.2.2.2.1
  have hbw1 := after hbW hb1
  clear hb1 hbW cW hp hw hs hok hB
  go_wp2
  exact bodyPost_ret (v := .tuple #[.agg #[.slice none 0 0, .slice none 0 0], .bool false]) (by simp [results, Tryz.results113, go_sem, k1, k2]) rfl ⟨_, rfl, own_zero _ _, (hbw1.setCell (by show _ ≤ _; simp) _).setCell (by show _ ≤ _; simp) _⟩

/-- What an act with nothing of its own does to a board. -/
def Acts0 (f : Nat) (ps qs : List ByteArray) (ws us : List Int) : Prop :=
  ∀ (w : World) (g : Nat), Board w g ps ws → Calls Tryz.prog f #[.pointer (some ⟨g, 0, none⟩)] w fun e w' => (∃ v, e = .returned v) ∧ Board w' g qs us ∧ OnlyIn w w' [some g]

set_option maxHeartbeats 3200000 in
theorem act_ok0 (a b : Option Addr) (ps qs : List ByteArray) (ws us : List Int) (c d : Nat) (w : World) (hp : Rd w a (vsString ps)) (hw : Rd w b (vsInt ws)) (hok : chipOkP ps ws) (hact : Acts0 114 ps qs ws us) (hql : qs.length = 60) (hul : us.length = 10) :
    Calls Tryz.prog 113 #[.agg #[.slice a ps.length c, .slice b ws.length d], .func (.func 114) #[] #[]] w fun e w' => ∃ v, e = .returned (.tuple #[v, .bool (decide (qs ≠ ps ∨ us ≠ ws))]) ∧ ChipOwn w' w.heap.size v qs us ∧ Below w.heap.size w w' := by
  obtain ⟨hz, _⟩ := zero_of_info infoBoard
  obtain ⟨W, hW⟩ : ∃ W, W = (w.alloc (Obj.cells #[.slice a ps.length c, .slice b ws.length d] 30)).alloc (Obj.cells #[.slice none 0 0, .slice none 0 0] 30) := ⟨_, rfl⟩
  have hbW : Below w.heap.size w W := by subst hW; exact ((Below.refl _ _).alloc (Nat.le_refl _) _).alloc (by simp) _
  have cW : W.cell? ⟨w.heap.size, 0, none⟩ = some (.slice a ps.length c) ∧ W.cell? ⟨w.heap.size, 1, none⟩ = some (.slice b ws.length d) := by
    subst hW; refine ⟨?_, ?_⟩ <;> simp [go_sem]
  have hR : W.heap[w.heap.size + 1]? = some (.cells #[.slice none 0 0, .slice none 0 0] 30 (0, 0)) := by subst hW; exact heap_alloc2_new _ _ _
  have hsW : w.heap.size + 1 < W.heap.size := by subst hW; simp
  have hB := chipOkB_true hok
  obtain ⟨hl, hm, hs8, hx⟩ := hok
  have HL : Hid (ps.length = 60 ∧ ws.length = 10 ∧ qs.length = 60 ∧ us.length = 10) := ⟨hl, hm, hql, hul⟩
  have hl1 : ps.length ≤ 60 := by omega
  have hm1 : ws.length ≤ 10 := by omega
  have HI : Hid ((Tryz.prog.info? 140).map (·.size) = some (bd ps ws).size) := by show _ = _; rw [szBoard, bd_size, hl, hm]
  have HO : Hid ((bd ps0 ws0).size = (bd ps ws).size) := by show _ = _; rw [bd_size, bd_size, hl, hm, ps0_len, ws0_len]
  have HA := hide hact
  have HR := hide hR
  clear hl hm hql hul hact hR
  go_enter Tryz.func113, Tryz.ntmps113
  go_wp2_with fail
  rw [← hW]
  clear hW
  refine (implChipOk_any a b ps ws c d _ (hp.below hbW) (hw.below hbW) (by omega) (by omega) (fun s h => by have := hs8 s h; omega)).mono ?_
  rw [hB]
  rintro e w1 ⟨rfl, hb1⟩
  have k1 := (hb1.cell (p := ⟨w.heap.size, 0, none⟩) (by show _ < _; simp; omega)).trans cW.1
  have k2 := (hb1.cell (p := ⟨w.heap.size, 1, none⟩) (by show _ < _; simp; omega)).trans cW.2
  have hbw1 := after hbW hb1
  have hs1 := hb1.size
  go_wp2_with fail
  refine (boardOf_any a b ps ws c d _ (hp.below hbw1) (hw.below hbw1) HL.out.1 HL.out.2.1).mono ?_
  rintro e w2 ⟨rfl, hb2⟩
  have hb12 := after hb1 hb2
  have hbw2 := after hbw1 hb2
  have HR2 : Hid (w2.heap[w.heap.size + 1]? = some (.cells #[.slice none 0 0, .slice none 0 0] 30 (0, 0))) := (hb12.block _ hsW).trans HR.out
  clear hbW cW hb1 hb2 k1 k2 hp hw hs8 hx hB HR
  obtain ⟨X, hX⟩ : ∃ X, X = bd ps ws := ⟨_, rfl⟩
  have HX := hide hX
  rw [← hX] at HI HO ⊢
  clear hX
  have HZ : Hid (X.all (·.oneCell') = true) := by show _ = _; rw [HX.out]; exact one_bd ps ws
  go_wp2_with (first
    | (refine wpList_store_row rfl 140 (.tmp 6) (.tmp 13) rfl w2.heap.size X rfl rfl 140 (bd ps0 ws0) (heap_alloc_last _ _) HI.out HO.out HZ.out ?_; rw [setRow_alloc_at rfl])
    | (refine wpList_load_row rfl 140 (.tmp 6) rfl w2.heap.size rfl 140 X (0, 0) _ (heap_alloc_last _ _) Tryz.underlying140 rfl HI.out ?_)
    | (refine wpList_store_row rfl 140 (.tmp 7) (.tmp 14) rfl (w2.heap.size + 1) X rfl rfl 140 (bd ps0 ws0) (heap_alloc2_new _ _ _) HI.out HO.out HZ.out ?_; rw [setRow_alloc_at (by simp)]))
  obtain ⟨V, hV⟩ : ∃ V, V = (w2.alloc (Obj.cells X 140)).alloc (Obj.cells X 140) := ⟨_, rfl⟩
  have hbV : Below w2.heap.size w2 V := by subst hV; exact ((Below.refl _ _).alloc (Nat.le_refl _) _).alloc (by simp) _
  have B1 : Board V w2.heap.size ps ws := by subst hV; rw [HX.out]; exact heap_alloc2_old _ _ _
  have B2 : Board V (w2.heap.size + 1) ps ws := by subst hV; rw [HX.out]; exact heap_alloc2_new _ _ _
  have HRV : Hid (V.heap[w.heap.size + 1]? = some (.cells #[.slice none 0 0, .slice none 0 0] 30 (0, 0))) := (hbV.block _ (Nat.lt_of_lt_of_le hsW hb12.size)).trans HR2.out
  have hsV : w2.heap.size + 1 < V.heap.size := by subst hV; simp
  have hsb := hb12.size
  rw [← hV]
  clear hV hz HI HO HZ HX HR2 hb12
  refine (HA.out V _ B2).mono ?_
  rintro e w4 ⟨⟨v, rfl⟩, B24, hO4⟩
  have B14 : Board w4 w2.heap.size ps ws := B1.other hO4 (by simp)
  have hbw4 : Below w.heap.size w w4 := (after hbw2 hbV).trans (hO4.below (Nat.le_of_lt (Nat.lt_of_le_of_lt (Nat.le_trans hbw2.size (Nat.le_add_right _ 1)) hsV)) (by intro k hk; simp at hk; have := hbw2.size; omega))
  have HR4 : Hid (w4.heap[w.heap.size + 1]? = some (.cells #[.slice none 0 0, .slice none 0 0] 30 (0, 0))) := (hO4.block _ (by omega) (by simp; omega)).trans HRV.out
  have hs4 : V.heap.size ≤ w4.heap.size := hO4.size
  obtain ⟨QP, hQP⟩ : ∃ L, L = vsString qs := ⟨_, rfl⟩
  obtain ⟨PP, hPP⟩ : ∃ L, L = vsString ps := ⟨_, rfl⟩
  obtain ⟨QU, hQU⟩ : ∃ L, L = vsInt us := ⟨_, rfl⟩
  obtain ⟨PU, hPU⟩ : ∃ L, L = vsInt ws := ⟨_, rfl⟩
  have i1 : (Tryz.prog.info? 138).map (·.size) = some QP.length := by rw [hQP, List.length_map, HL.out.2.2.1]; kernel_rfl
  have i2 : (Tryz.prog.info? 138).map (·.size) = some PP.length := by rw [hPP, List.length_map, HL.out.1]; kernel_rfl
  have i3 : (Tryz.prog.info? 101).map (·.size) = some QU.length := by rw [hQU, List.length_map, HL.out.2.2.2]; kernel_rfl
  have i4 : (Tryz.prog.info? 101).map (·.size) = some PU.length := by rw [hPU, List.length_map, HL.out.2.1]; kernel_rfl
  have u1 := Tryz.underlying138
  have u2 := Tryz.underlying101
  have HS : Hid (∀ u, Below w4.heap.size w4 u → u.rangeAt (w2.heap.size + 1) 0 QP ∧ u.rangeAt w2.heap.size 0 PP ∧ u.rangeAt (w2.heap.size + 1) 60 QU ∧ u.rangeAt w2.heap.size 60 PU) := by
    intro u hu
    have b1 := B14.below hu
    have b2 := B24.below hu
    rw [hQP, hPP, hQU, hPU]
    exact ⟨range_pages b2, range_pages b1, range_wear b2 HL.out.2.2.1, range_wear b1 HL.out.1⟩
  have hE : ∀ w, (Op.equalIn 10000 138 (.agg QP.toArray) (.agg PP.toArray)).run Tryz.prog w = .ok (decide (qs = ps)) w := by intro w; rw [hQP, hPP]; exact equal_pages w HL.out.2.2.1 HL.out.1
  have hF : ∀ w, (Op.equalIn 10000 101 (.agg QU.toArray) (.agg PU.toArray)).run Tryz.prog w = .ok (decide (us = ws)) w := by intro w; rw [hQU, hPU]; exact equal_wear w HL.out.2.2.2 HL.out.2.1
  clear hQP hPP hQU hPU B1 B2 hbV hO4 HRV hbw2
  have HB24 := hide B24
  have HBW4 := hide hbw4
  clear B24 B14 hbw4
  obtain ⟨D, hD⟩ : ∃ D, D = decide (us = ws) := ⟨_, rfl⟩
  rw [← hD] at hF
  have HD := hide hD
  clear hD
  by_cases hq : qs = ps
  · have hq' : decide (qs = ps) = true := by simp [hq]
    rw [hq'] at hE
    have HQ := hide hq
    clear hq hq'
    go_wp2_with fail
    refine wp_region_held_drew (S := fun w' => w'.rangeAt (w2.heap.size + 1) 0 QP ∧ w'.rangeAt w2.heap.size 0 PP ∧ w'.rangeAt (w2.heap.size + 1) 60 QU ∧ w'.rangeAt w2.heap.size 60 PU) (by kernel_rfl) (HS.out _ (after_drew (Below.refl _ _) 1)) (fun hHeld => ?_)
    refine take_at (i := 1) (some 18) (v := .pointer (some ⟨w2.heap.size + 1, 0, none⟩)) rfl rfl (by kernel_rfl) (by kernel_rfl) (by kernel_rfl) (fun _ _ _ h => h) (Or.inl ⟨by rfl, fun w _ => by go_simp⟩) (by assumption) ?_
    simp only [Act.put, List.setIfInBounds_toArray, List.set_cons_zero, List.set_cons_succ]
    refine take_at (i := 2) (some 19) (v := .agg QP.toArray) rfl rfl (by kernel_rfl) (by kernel_rfl) (by kernel_rfl) (fun _ _ _ h => h) (yieldsIf_load_mid (by rfl) _ _ rfl (w2.heap.size + 1) 0 rfl QP _ (fun w h => h.1) u1 rfl i1) (by assumption) ?_
    simp only [Act.put, List.setIfInBounds_toArray, List.set_cons_zero, List.set_cons_succ]
    refine take_at (i := 3) (some 20) (v := .pointer (some ⟨w2.heap.size, 0, none⟩)) rfl rfl (by kernel_rfl) (by kernel_rfl) (by kernel_rfl) (fun _ _ _ h => h) (Or.inl ⟨by rfl, fun w _ => by go_simp⟩) (by assumption) ?_
    simp only [Act.put, List.setIfInBounds_toArray, List.set_cons_zero, List.set_cons_succ]
    refine take_at (i := 4) (some 21) (v := .agg PP.toArray) rfl rfl (by kernel_rfl) (by kernel_rfl) (by kernel_rfl) (fun _ _ _ h => h) (yieldsIf_load_mid (by rfl) _ _ rfl (w2.heap.size) 0 rfl PP _ (fun w h => h.2.1) u1 rfl i2) (by assumption) ?_
    simp only [Act.put, List.setIfInBounds_toArray, List.set_cons_zero, List.set_cons_succ]
    refine take_at (i := 5) (some 22) (v := .bool false) rfl rfl (by kernel_rfl) (by kernel_rfl) (by kernel_rfl) (fun _ _ _ h => h) (Or.inl ⟨by rfl, fun w _ => by go_simp⟩) (by assumption) ?_
    simp only [Act.put, List.setIfInBounds_toArray, List.set_cons_zero, List.set_cons_succ]
    refine wpAnyH_ready (rs := [0]) (by kernel_rfl) (by simp) ?_
    refine AllReadyH.cons rfl (fun K hK => ?_) AllReadyH.nil
    go_simp
    refine (chip_any (w2.heap.size + 1) qs us w4.drew HB24.out HL.out.2.2.1 HL.out.2.2.2).mono ?_
    rintro e w5 ⟨vv, rfl, hown, hb5⟩
    obtain ⟨g, kg, g', kg', rfl, ho1, ho2, hne, hg1, hg2, hg3, hg4⟩ := own_form hown (by rw [HL.out.2.2.1]; decide) (by rw [HL.out.2.2.2]; decide)
    have hdr : Below w4.heap.size w4 w4.drew := after_drew (Below.refl _ _) 1
    have hb45 : Below w4.heap.size w4 w5 := after hdr hb5
    have HOWN := hide hown
    have HB5 := hide hb45
    clear hown hb5 hb45 ho1 ho2 hdr
    refine hK.out _ _ (HS.out _ HB5.out) (fun hHeld => ?_)
    clear hK K
    refine take_at (i := 6) (some 23) (v := .bool false) rfl rfl (by kernel_rfl) (by kernel_rfl) (by kernel_rfl) (fun _ _ _ h => h) (Or.inl ⟨by rfl, fun w _ => by go_simp⟩) (by assumption) ?_
    simp only [Act.put, List.setIfInBounds_toArray, List.set_cons_zero, List.set_cons_succ]
    refine take_at (i := 7) (some 24) (v := .pointer (some ⟨w2.heap.size + 1, 60, none⟩)) rfl rfl (by kernel_rfl) (by kernel_rfl) (by kernel_rfl) (fun _ _ _ h => h) (Or.inl ⟨by rfl, fun w _ => by go_simp⟩) (by assumption) ?_
    simp only [Act.put, List.setIfInBounds_toArray, List.set_cons_zero, List.set_cons_succ]
    refine take_at (i := 8) (some 25) (v := .agg QU.toArray) rfl rfl (by kernel_rfl) (by kernel_rfl) (by kernel_rfl) (fun _ _ _ h => h) (yieldsIf_load_mid (by rfl) _ _ rfl (w2.heap.size + 1) 60 rfl QU _ (fun w h => h.2.2.1) u2 rfl i3) (by assumption) ?_
    simp only [Act.put, List.setIfInBounds_toArray, List.set_cons_zero, List.set_cons_succ]
    refine take_at (i := 9) (some 26) (v := .pointer (some ⟨w2.heap.size, 60, none⟩)) rfl rfl (by kernel_rfl) (by kernel_rfl) (by kernel_rfl) (fun _ _ _ h => h) (Or.inl ⟨by rfl, fun w _ => by go_simp⟩) (by assumption) ?_
    simp only [Act.put, List.setIfInBounds_toArray, List.set_cons_zero, List.set_cons_succ]
    refine take_at (i := 10) (some 27) (v := .agg PU.toArray) rfl rfl (by kernel_rfl) (by kernel_rfl) (by kernel_rfl) (fun _ _ _ h => h) (yieldsIf_load_mid (by rfl) _ _ rfl (w2.heap.size) 60 rfl PU _ (fun w h => h.2.2.2) u2 rfl i4) (by assumption) ?_
    simp only [Act.put, List.setIfInBounds_toArray, List.set_cons_zero, List.set_cons_succ]
    refine take_at (i := 11) (some 28) (v := .bool (!D)) rfl rfl (by kernel_rfl) (by kernel_rfl) (by kernel_rfl) (fun _ _ _ h => h) (Or.inl ⟨by rfl, fun w _ => by go_simp⟩) (by assumption) ?_
    simp only [Act.put, List.setIfInBounds_toArray, List.set_cons_zero, List.set_cons_succ]
    refine take_at (i := 12) (some 29) (v := .bool (!D)) rfl rfl (by kernel_rfl) (by kernel_rfl) (by kernel_rfl) (fun _ _ _ h => h) (Or.inl ⟨by rfl, fun w _ => by go_simp⟩) (by assumption) ?_
    simp only [Act.put, List.setIfInBounds_toArray, List.set_cons_zero, List.set_cons_succ]
    have HR5 : w5.heap[w.heap.size + 1]? = some (.cells #[.slice none 0 0, .slice none 0 0] 30 (0, 0)) := (HB5.out.block _ (by omega)).trans HR4.out
    have z0 : w5.cell? ⟨w.heap.size + 1, 0, none⟩ = some (.slice none 0 0) := by rw [cell_of_row w5 _ _ _ _ _ HR5]; rfl
    have z1 : w5.cell? ⟨w.heap.size + 1, 1, none⟩ = some (.slice none 0 0) := by rw [cell_of_row w5 _ _ _ _ _ HR5]; rfl
    have y0 : w5.frozen? ⟨w.heap.size + 1, 0, none⟩ = false := frozen_of_row w5 _ _ _ _ HR5
    have y1 : w5.frozen? ⟨w.heap.size + 1, 1, none⟩ = false := frozen_of_row w5 _ _ _ _ HR5
    clear HR5
    refine wpAnyH_ready (rs := [13]) (by kernel_rfl) (by simp) ?_
    refine AllReadyH.cons rfl (fun K hK => ?_) AllReadyH.nil
    go_simp
    refine hK.out _ _ ⟨range_set (range_set hHeld.1 (by omega) _) (by omega) _, range_set (range_set hHeld.2.1 (by omega) _) (by omega) _, range_set (range_set hHeld.2.2.1 (by omega) _) (by omega) _, range_set (range_set hHeld.2.2.2 (by omega) _) (by omega) _⟩ (fun hHeld => ?_)
    clear hK K
    refine take_at (i := 14) (some 5) (v := .bool (!D)) rfl rfl (by kernel_rfl) (by kernel_rfl) (by kernel_rfl) (fun _ _ _ h => h) (Or.inl ⟨by rfl, fun w _ => by go_simp⟩) (by assumption) ?_
    simp only [Act.put, List.setIfInBounds_toArray, List.set_cons_zero, List.set_cons_succ]
    refine wpAnyH_done (by kernel_rfl) ?_ _
    clear hHeld
    go_wp2
    refine bodyPost_ret (v := .tuple #[.agg #[.slice (some ⟨g, 0, none⟩) qs.length kg, .slice (some ⟨g', 0, none⟩) us.length kg'], .bool (!D)]) (by simp [results, Tryz.results113, go_sem, z0, z1]) rfl ⟨.agg #[.slice (some ⟨g, 0, none⟩) qs.length kg, .slice (some ⟨g', 0, none⟩) us.length kg'], ?_, ?_, ?_⟩
    · have hb : (!D) = decide (qs ≠ ps ∨ us ≠ ws) := by rw [HD.out]; simp [HQ.out]
      rw [hb]
    · exact own_mono (own_set (own_set HOWN.out (show w.heap.size + 1 < w4.heap.size by omega) _) (show w.heap.size + 1 < w4.heap.size by omega) _) (show w.heap.size ≤ w4.heap.size by omega)
    · exact ((HBW4.out.trans (HB5.out.mono HBW4.out.size)).setCell (by show _ ≤ _; simp) _).setCell (by show _ ≤ _; simp) _
  · have hq' : decide (qs = ps) = false := by simp [hq]
    rw [hq'] at hE
    have HQ := hide hq
    clear hq hq'
    go_wp2_with fail
    refine wp_region_held_drew (S := fun w' => w'.rangeAt (w2.heap.size + 1) 0 QP ∧ w'.rangeAt w2.heap.size 0 PP ∧ w'.rangeAt (w2.heap.size + 1) 60 QU ∧ w'.rangeAt w2.heap.size 60 PU) (by kernel_rfl) (HS.out _ (after_drew (Below.refl _ _) 1)) (fun hHeld => ?_)
    refine take_at (i := 1) (some 18) (v := .pointer (some ⟨w2.heap.size + 1, 0, none⟩)) rfl rfl (by kernel_rfl) (by kernel_rfl) (by kernel_rfl) (fun _ _ _ h => h) (Or.inl ⟨by rfl, fun w _ => by go_simp⟩) (by assumption) ?_
    simp only [Act.put, List.setIfInBounds_toArray, List.set_cons_zero, List.set_cons_succ]
    refine take_at (i := 2) (some 19) (v := .agg QP.toArray) rfl rfl (by kernel_rfl) (by kernel_rfl) (by kernel_rfl) (fun _ _ _ h => h) (yieldsIf_load_mid (by rfl) _ _ rfl (w2.heap.size + 1) 0 rfl QP _ (fun w h => h.1) u1 rfl i1) (by assumption) ?_
    simp only [Act.put, List.setIfInBounds_toArray, List.set_cons_zero, List.set_cons_succ]
    refine take_at (i := 3) (some 20) (v := .pointer (some ⟨w2.heap.size, 0, none⟩)) rfl rfl (by kernel_rfl) (by kernel_rfl) (by kernel_rfl) (fun _ _ _ h => h) (Or.inl ⟨by rfl, fun w _ => by go_simp⟩) (by assumption) ?_
    simp only [Act.put, List.setIfInBounds_toArray, List.set_cons_zero, List.set_cons_succ]
    refine take_at (i := 4) (some 21) (v := .agg PP.toArray) rfl rfl (by kernel_rfl) (by kernel_rfl) (by kernel_rfl) (fun _ _ _ h => h) (yieldsIf_load_mid (by rfl) _ _ rfl (w2.heap.size) 0 rfl PP _ (fun w h => h.2.1) u1 rfl i2) (by assumption) ?_
    simp only [Act.put, List.setIfInBounds_toArray, List.set_cons_zero, List.set_cons_succ]
    refine take_at (i := 5) (some 22) (v := .bool true) rfl rfl (by kernel_rfl) (by kernel_rfl) (by kernel_rfl) (fun _ _ _ h => h) (Or.inl ⟨by rfl, fun w _ => by go_simp⟩) (by assumption) ?_
    simp only [Act.put, List.setIfInBounds_toArray, List.set_cons_zero, List.set_cons_succ]
    refine wpAnyH_ready (rs := [0]) (by kernel_rfl) (by simp) ?_
    refine AllReadyH.cons rfl (fun K hK => ?_) AllReadyH.nil
    go_simp
    refine (chip_any (w2.heap.size + 1) qs us w4.drew HB24.out HL.out.2.2.1 HL.out.2.2.2).mono ?_
    rintro e w5 ⟨vv, rfl, hown, hb5⟩
    obtain ⟨g, kg, g', kg', rfl, ho1, ho2, hne, hg1, hg2, hg3, hg4⟩ := own_form hown (by rw [HL.out.2.2.1]; decide) (by rw [HL.out.2.2.2]; decide)
    have hdr : Below w4.heap.size w4 w4.drew := after_drew (Below.refl _ _) 1
    have hb45 : Below w4.heap.size w4 w5 := after hdr hb5
    have HOWN := hide hown
    have HB5 := hide hb45
    clear hown hb5 hb45 ho1 ho2 hdr
    refine hK.out _ _ (HS.out _ HB5.out) (fun hHeld => ?_)
    clear hK K
    refine take_at (i := 6) (some 23) (v := .bool true) rfl rfl (by kernel_rfl) (by kernel_rfl) (by kernel_rfl) (fun _ _ _ h => h) (Or.inl ⟨by rfl, fun w _ => by go_simp⟩) (by assumption) ?_
    simp only [Act.put, List.setIfInBounds_toArray, List.set_cons_zero, List.set_cons_succ]
    refine take_at (i := 7) (some 24) (v := undef) rfl rfl (by kernel_rfl) (by kernel_rfl) (by kernel_rfl) (fun _ _ _ h => h) (Or.inr ⟨by rfl, rfl⟩) (by assumption) ?_
    simp only [Act.put, List.setIfInBounds_toArray, List.set_cons_zero, List.set_cons_succ]
    refine take_at (i := 8) (some 25) (v := undef) rfl rfl (by kernel_rfl) (by kernel_rfl) (by kernel_rfl) (fun _ _ _ h => h) (Or.inr ⟨by rfl, rfl⟩) (by assumption) ?_
    simp only [Act.put, List.setIfInBounds_toArray, List.set_cons_zero, List.set_cons_succ]
    refine take_at (i := 9) (some 26) (v := undef) rfl rfl (by kernel_rfl) (by kernel_rfl) (by kernel_rfl) (fun _ _ _ h => h) (Or.inr ⟨by rfl, rfl⟩) (by assumption) ?_
    simp only [Act.put, List.setIfInBounds_toArray, List.set_cons_zero, List.set_cons_succ]
    refine take_at (i := 10) (some 27) (v := undef) rfl rfl (by kernel_rfl) (by kernel_rfl) (by kernel_rfl) (fun _ _ _ h => h) (Or.inr ⟨by rfl, rfl⟩) (by assumption) ?_
    simp only [Act.put, List.setIfInBounds_toArray, List.set_cons_zero, List.set_cons_succ]
    refine take_at (i := 11) (some 28) (v := undef) rfl rfl (by kernel_rfl) (by kernel_rfl) (by kernel_rfl) (fun _ _ _ h => h) (Or.inr ⟨by rfl, rfl⟩) (by assumption) ?_
    simp only [Act.put, List.setIfInBounds_toArray, List.set_cons_zero, List.set_cons_succ]
    refine take_at (i := 12) (some 29) (v := .bool true) rfl rfl (by kernel_rfl) (by kernel_rfl) (by kernel_rfl) (fun _ _ _ h => h) (Or.inl ⟨by rfl, fun w _ => by go_simp⟩) (by assumption) ?_
    simp only [Act.put, List.setIfInBounds_toArray, List.set_cons_zero, List.set_cons_succ]
    have HR5 : w5.heap[w.heap.size + 1]? = some (.cells #[.slice none 0 0, .slice none 0 0] 30 (0, 0)) := (HB5.out.block _ (by omega)).trans HR4.out
    have z0 : w5.cell? ⟨w.heap.size + 1, 0, none⟩ = some (.slice none 0 0) := by rw [cell_of_row w5 _ _ _ _ _ HR5]; rfl
    have z1 : w5.cell? ⟨w.heap.size + 1, 1, none⟩ = some (.slice none 0 0) := by rw [cell_of_row w5 _ _ _ _ _ HR5]; rfl
    have y0 : w5.frozen? ⟨w.heap.size + 1, 0, none⟩ = false := frozen_of_row w5 _ _ _ _ HR5
    have y1 : w5.frozen? ⟨w.heap.size + 1, 1, none⟩ = false := frozen_of_row w5 _ _ _ _ HR5
    clear HR5
    refine wpAnyH_ready (rs := [13]) (by kernel_rfl) (by simp) ?_
    refine AllReadyH.cons rfl (fun K hK => ?_) AllReadyH.nil
    go_simp
    refine hK.out _ _ ⟨range_set (range_set hHeld.1 (by omega) _) (by omega) _, range_set (range_set hHeld.2.1 (by omega) _) (by omega) _, range_set (range_set hHeld.2.2.1 (by omega) _) (by omega) _, range_set (range_set hHeld.2.2.2 (by omega) _) (by omega) _⟩ (fun hHeld => ?_)
    clear hK K
    refine take_at (i := 14) (some 5) (v := .bool true) rfl rfl (by kernel_rfl) (by kernel_rfl) (by kernel_rfl) (fun _ _ _ h => h) (Or.inl ⟨by rfl, fun w _ => by go_simp⟩) (by assumption) ?_
    simp only [Act.put, List.setIfInBounds_toArray, List.set_cons_zero, List.set_cons_succ]
    refine wpAnyH_done (by kernel_rfl) ?_ _
    clear hHeld
    go_wp2
    refine bodyPost_ret (v := .tuple #[.agg #[.slice (some ⟨g, 0, none⟩) qs.length kg, .slice (some ⟨g', 0, none⟩) us.length kg'], .bool true]) (by simp [results, Tryz.results113, go_sem, z0, z1]) rfl ⟨.agg #[.slice (some ⟨g, 0, none⟩) qs.length kg, .slice (some ⟨g', 0, none⟩) us.length kg'], ?_, ?_, ?_⟩
    · have hb : true = decide (qs ≠ ps ∨ us ≠ ws) := by simp [HQ.out]
      rw [hb]
    · exact own_mono (own_set (own_set HOWN.out (show w.heap.size + 1 < w4.heap.size by omega) _) (show w.heap.size + 1 < w4.heap.size by omega) _) (show w.heap.size ≤ w4.heap.size by omega)
    · exact ((HBW4.out.trans (HB5.out.mono HBW4.out.size)).setCell (by show _ ≤ _; simp) _).setCell (by show _ ≤ _; simp) _



set_option maxHeartbeats 400000 in
theorem onNone_any (g : Nat) (ps : List ByteArray) (ws : List Int) (w : World) (h : Board w g ps ws) : Calls Tryz.prog 114 #[.pointer (some ⟨g, 0, none⟩)] w fun e w' => (∃ v, e = .returned v) ∧ Board w' g ps ws ∧ OnlyIn w w' [some g] := by
  have HB := hide h
  clear h
  go_enter Tryz.func114, Tryz.ntmps114
  go_wp2
  exact bodyPost_end (by simp [results, Tryz.results114]; rfl) rfl ⟨⟨_, rfl⟩, HB.out, OnlyIn.of_below (Below.refl _ _) _⟩

/-- act, at what does nothing. -/
theorem actNone_fn (a b : Option Addr) (ps : List ByteArray) (ws : List Int) (c d : Nat) (w : World) (hp : Rd w a (vsString ps)) (hw : Rd w b (vsInt ws)) (hl : ps.length ≤ 1048576) (hm : ws.length ≤ 1048576) (hs : ∀ s ∈ ps, s.size ≤ 1048576) :
    Calls Tryz.prog 113 #[.agg #[.slice a ps.length c, .slice b ws.length d], .func (.func 114) #[] #[]] w fun e w' => ∃ v, e = .returned (.tuple #[v, .bool false]) ∧ ChipOwn w' w.heap.size v (if chipOkB ps ws = true then ps else []) (if chipOkB ps ws = true then ws else []) ∧ Below w.heap.size w w' := by
  by_cases hok : chipOkP ps ws
  · have hB := chipOkB_true hok
    rw [if_pos hB, if_pos hB]
    refine (act_ok0 a b ps ps ws ws c d w hp hw hok (fun w g h => onNone_any g ps ws w h) hok.1 hok.2.1).mono ?_
    rintro e w' ⟨v, rfl, ho, hb⟩
    exact ⟨v, by simp, ho, hb⟩
  · have hB := chipOkB_false hok
    rw [if_neg (by simp [hB]), if_neg (by simp [hB])]
    exact act_bad0 114 a b ps ws c d w hp hw hl hm hs hok

set_option maxHeartbeats 1600000 in
theorem doer1_any (a b : Option Addr) (ps : List ByteArray) (ws : List Int) (c d : Nat) (kind at_ : Int) (text : ByteArray) (w : World) (hp : Rd w a (vsString ps)) (hw : Rd w b (vsInt ws)) (hl : ps.length ≤ 1048576) (hm : ws.length ≤ 1048576) (hs : ∀ s ∈ ps, s.size ≤ 1048576) :
    Calls Tryz.prog 112 #[.agg #[.slice a ps.length c, .slice b ws.length d], .agg #[.int .i64 kind, .int .i64 at_, .string text]] w fun e w' => ∃ v, e = .returned (.tuple #[v, .bool (false)]) ∧ ChipOwn w' w.heap.size v (if chipOkB ps ws = true then ps else []) (if chipOkB ps ws = true then ws else []) ∧ Below w.heap.size w w' := by
  obtain ⟨F, hF⟩ : ∃ F, F = false := ⟨_, rfl⟩
  obtain ⟨PS, hPS⟩ : ∃ PS, PS = if chipOkB ps ws = true then ps else [] := ⟨_, rfl⟩
  obtain ⟨WS, hWS⟩ : ∃ WS, WS = if chipOkB ps ws = true then ws else [] := ⟨_, rfl⟩
  obtain ⟨W, hW⟩ : ∃ W, W = ((w.alloc (Obj.cells #[.slice a ps.length c, .slice b ws.length d] 30)).alloc (Obj.cells #[.int .i64 kind, .int .i64 at_, .string text] 62)).alloc (Obj.cells #[.slice none 0 0, .slice none 0 0] 30) := ⟨_, rfl⟩
  have hbW : Below w.heap.size w W := by subst hW; exact (((Below.refl _ _).alloc (Nat.le_refl _) _).alloc (by simp) _).alloc (by simp; omega) _
  have cW : W.cell? ⟨w.heap.size + 1 + 1, 0, none⟩ = some (.slice none 0 0) ∧ W.cell? ⟨w.heap.size + 1 + 1, 1, none⟩ = some (.slice none 0 0) ∧ W.frozen? ⟨w.heap.size + 1 + 1, 0, none⟩ = false ∧ W.frozen? ⟨w.heap.size + 1 + 1, 1, none⟩ = false ∧ w.heap.size + 1 + 1 < W.heap.size := by
    subst hW; refine ⟨?_, ?_, ?_, ?_, ?_⟩ <;> simp [go_sem]
  have HC := hide (actNone_fn a b ps ws c d W (hp.below hbW) (hw.below hbW) hl hm hs)
  rw [← hF, ← hPS, ← hWS] at HC
  rw [← hF, ← hPS, ← hWS]
  clear hF hPS hWS
  go_enter Tryz.func112, Tryz.ntmps112
  go_wp2_with fail
  rw [← hW]
  clear hW
  refine HC.out.mono ?_
  rintro e w1 ⟨v, rfl, hown, hb1⟩
  obtain ⟨a1, k1, b1, l1, rfl, -⟩ := own_open hown
  have j1 := (hb1.cell (p := ⟨w.heap.size + 1 + 1, 0, none⟩) (by show _ < _; exact cW.2.2.2.2)).trans cW.1
  have j2 := (hb1.cell (p := ⟨w.heap.size + 1 + 1, 1, none⟩) (by show _ < _; exact cW.2.2.2.2)).trans cW.2.1
  have f1 := (hb1.frozen (p := ⟨w.heap.size + 1 + 1, 0, none⟩) (by show _ < _; exact cW.2.2.2.2)).trans cW.2.2.1
  have f2 := (hb1.frozen (p := ⟨w.heap.size + 1 + 1, 1, none⟩) (by show _ < _; exact cW.2.2.2.2)).trans cW.2.2.2.1
  have hbw1 := after hbW hb1
  have hlt := cW.2.2.2.2
  have HOWN := hide hown
  clear hb1 hbW cW hp hw hs hown HC
  go_wp2
  refine bodyPost_ret (v := .tuple #[.agg #[.slice a1 PS.length k1, .slice b1 WS.length l1], .bool F]) (by simp [results, Tryz.results112, go_sem, j1, j2]) rfl ⟨.agg #[.slice a1 PS.length k1, .slice b1 WS.length l1], rfl, ?_, (hbw1.setCell (by show _ ≤ _; simp; omega) _).setCell (by show _ ≤ _; simp; omega) _⟩
  exact own_mono (own_set (own_set HOWN.out (show w.heap.size + 1 + 1 < W.heap.size by omega) _) (show w.heap.size + 1 + 1 < W.heap.size by omega) _) (show w.heap.size ≤ W.heap.size by omega)

set_option maxHeartbeats 1600000 in
theorem doer2_any (a b : Option Addr) (ps : List ByteArray) (ws : List Int) (c d : Nat) (kind at_ : Int) (text : ByteArray) (w : World) (hp : Rd w a (vsString ps)) (hw : Rd w b (vsInt ws)) (hl : ps.length ≤ 1048576) (hm : ws.length ≤ 1048576) (hs : ∀ s ∈ ps, s.size ≤ 1048576) (ht : text.size ≤ 1048576) :
    Calls Tryz.prog 115 #[.agg #[.slice a ps.length c, .slice b ws.length d], .agg #[.int .i64 kind, .int .i64 at_, .string text]] w fun e w' => ∃ v, e = .returned (.tuple #[v, .bool (burnF ps ws at_ text)]) ∧ ChipOwn w' w.heap.size v (burnP ps ws at_ text) (burnW ps ws) ∧ Below w.heap.size w w' := by
  obtain ⟨F, hF⟩ : ∃ F, F = burnF ps ws at_ text := ⟨_, rfl⟩
  obtain ⟨PS, hPS⟩ : ∃ PS, PS = burnP ps ws at_ text := ⟨_, rfl⟩
  obtain ⟨WS, hWS⟩ : ∃ WS, WS = burnW ps ws := ⟨_, rfl⟩
  obtain ⟨W, hW⟩ : ∃ W, W = ((w.alloc (Obj.cells #[.slice a ps.length c, .slice b ws.length d] 30)).alloc (Obj.cells #[.int .i64 kind, .int .i64 at_, .string text] 62)).alloc (Obj.cells #[.slice none 0 0, .slice none 0 0] 30) := ⟨_, rfl⟩
  have hbW : Below w.heap.size w W := by subst hW; exact (((Below.refl _ _).alloc (Nat.le_refl _) _).alloc (by simp) _).alloc (by simp; omega) _
  have cW : W.cell? ⟨w.heap.size + 1 + 1, 0, none⟩ = some (.slice none 0 0) ∧ W.cell? ⟨w.heap.size + 1 + 1, 1, none⟩ = some (.slice none 0 0) ∧ W.frozen? ⟨w.heap.size + 1 + 1, 0, none⟩ = false ∧ W.frozen? ⟨w.heap.size + 1 + 1, 1, none⟩ = false ∧ w.heap.size + 1 + 1 < W.heap.size := by
    subst hW; refine ⟨?_, ?_, ?_, ?_, ?_⟩ <;> simp [go_sem]
  have HC := hide (implBurn_fn a b ps ws c d at_ text W (hp.below hbW) (hw.below hbW) hl hm hs ht)
  rw [← hF, ← hPS, ← hWS] at HC
  rw [← hF, ← hPS, ← hWS]
  clear hF hPS hWS
  go_enter Tryz.func115, Tryz.ntmps115
  go_wp2_with fail
  rw [← hW]
  clear hW
  refine HC.out.mono ?_
  rintro e w1 ⟨v, rfl, hown, hb1⟩
  obtain ⟨a1, k1, b1, l1, rfl, -⟩ := own_open hown
  have j1 := (hb1.cell (p := ⟨w.heap.size + 1 + 1, 0, none⟩) (by show _ < _; exact cW.2.2.2.2)).trans cW.1
  have j2 := (hb1.cell (p := ⟨w.heap.size + 1 + 1, 1, none⟩) (by show _ < _; exact cW.2.2.2.2)).trans cW.2.1
  have f1 := (hb1.frozen (p := ⟨w.heap.size + 1 + 1, 0, none⟩) (by show _ < _; exact cW.2.2.2.2)).trans cW.2.2.1
  have f2 := (hb1.frozen (p := ⟨w.heap.size + 1 + 1, 1, none⟩) (by show _ < _; exact cW.2.2.2.2)).trans cW.2.2.2.1
  have hbw1 := after hbW hb1
  have hlt := cW.2.2.2.2
  have HOWN := hide hown
  clear hb1 hbW cW hp hw hs hown HC
  go_wp2
  refine bodyPost_ret (v := .tuple #[.agg #[.slice a1 PS.length k1, .slice b1 WS.length l1], .bool F]) (by simp [results, Tryz.results115, go_sem, j1, j2]) rfl ⟨.agg #[.slice a1 PS.length k1, .slice b1 WS.length l1], rfl, ?_, (hbw1.setCell (by show _ ≤ _; simp; omega) _).setCell (by show _ ≤ _; simp; omega) _⟩
  exact own_mono (own_set (own_set HOWN.out (show w.heap.size + 1 + 1 < W.heap.size by omega) _) (show w.heap.size + 1 + 1 < W.heap.size by omega) _) (show w.heap.size ≤ W.heap.size by omega)

set_option maxHeartbeats 1600000 in
theorem doer3_any (a b : Option Addr) (ps : List ByteArray) (ws : List Int) (c d : Nat) (kind at_ : Int) (text : ByteArray) (w : World) (hp : Rd w a (vsString ps)) (hw : Rd w b (vsInt ws)) (hl : ps.length ≤ 1048576) (hm : ws.length ≤ 1048576) (hs : ∀ s ∈ ps, s.size ≤ 1048576) :
    Calls Tryz.prog 117 #[.agg #[.slice a ps.length c, .slice b ws.length d], .agg #[.int .i64 kind, .int .i64 at_, .string text]] w fun e w' => ∃ v, e = .returned (.tuple #[v, .bool (clearF ps ws at_)]) ∧ ChipOwn w' w.heap.size v (clearP ps ws at_) (clearW ps ws at_) ∧ Below w.heap.size w w' := by
  obtain ⟨F, hF⟩ : ∃ F, F = clearF ps ws at_ := ⟨_, rfl⟩
  obtain ⟨PS, hPS⟩ : ∃ PS, PS = clearP ps ws at_ := ⟨_, rfl⟩
  obtain ⟨WS, hWS⟩ : ∃ WS, WS = clearW ps ws at_ := ⟨_, rfl⟩
  obtain ⟨W, hW⟩ : ∃ W, W = ((w.alloc (Obj.cells #[.slice a ps.length c, .slice b ws.length d] 30)).alloc (Obj.cells #[.int .i64 kind, .int .i64 at_, .string text] 62)).alloc (Obj.cells #[.slice none 0 0, .slice none 0 0] 30) := ⟨_, rfl⟩
  have hbW : Below w.heap.size w W := by subst hW; exact (((Below.refl _ _).alloc (Nat.le_refl _) _).alloc (by simp) _).alloc (by simp; omega) _
  have cW : W.cell? ⟨w.heap.size + 1 + 1, 0, none⟩ = some (.slice none 0 0) ∧ W.cell? ⟨w.heap.size + 1 + 1, 1, none⟩ = some (.slice none 0 0) ∧ W.frozen? ⟨w.heap.size + 1 + 1, 0, none⟩ = false ∧ W.frozen? ⟨w.heap.size + 1 + 1, 1, none⟩ = false ∧ w.heap.size + 1 + 1 < W.heap.size := by
    subst hW; refine ⟨?_, ?_, ?_, ?_, ?_⟩ <;> simp [go_sem]
  have HC := hide (implClear_fn a b ps ws c d at_ W (hp.below hbW) (hw.below hbW) hl hm hs)
  rw [← hF, ← hPS, ← hWS] at HC
  rw [← hF, ← hPS, ← hWS]
  clear hF hPS hWS
  go_enter Tryz.func117, Tryz.ntmps117
  go_wp2_with fail
  rw [← hW]
  clear hW
  refine HC.out.mono ?_
  rintro e w1 ⟨v, rfl, hown, hb1⟩
  obtain ⟨a1, k1, b1, l1, rfl, -⟩ := own_open hown
  have j1 := (hb1.cell (p := ⟨w.heap.size + 1 + 1, 0, none⟩) (by show _ < _; exact cW.2.2.2.2)).trans cW.1
  have j2 := (hb1.cell (p := ⟨w.heap.size + 1 + 1, 1, none⟩) (by show _ < _; exact cW.2.2.2.2)).trans cW.2.1
  have f1 := (hb1.frozen (p := ⟨w.heap.size + 1 + 1, 0, none⟩) (by show _ < _; exact cW.2.2.2.2)).trans cW.2.2.1
  have f2 := (hb1.frozen (p := ⟨w.heap.size + 1 + 1, 1, none⟩) (by show _ < _; exact cW.2.2.2.2)).trans cW.2.2.2.1
  have hbw1 := after hbW hb1
  have hlt := cW.2.2.2.2
  have HOWN := hide hown
  clear hb1 hbW cW hp hw hs hown HC
  go_wp2
  refine bodyPost_ret (v := .tuple #[.agg #[.slice a1 PS.length k1, .slice b1 WS.length l1], .bool F]) (by simp [results, Tryz.results117, go_sem, j1, j2]) rfl ⟨.agg #[.slice a1 PS.length k1, .slice b1 WS.length l1], rfl, ?_, (hbw1.setCell (by show _ ≤ _; simp; omega) _).setCell (by show _ ≤ _; simp; omega) _⟩
  exact own_mono (own_set (own_set HOWN.out (show w.heap.size + 1 + 1 < W.heap.size by omega) _) (show w.heap.size + 1 + 1 < W.heap.size by omega) _) (show w.heap.size ≤ W.heap.size by omega)

set_option maxHeartbeats 800000 in
theorem doerOf_one (w : World) : Calls Tryz.prog 109 #[.int .i64 1] w fun e w' => e = .returned (.func (.func 115) #[] #[]) ∧ Below w.heap.size w w' := by
  go_enter Tryz.func109, Tryz.ntmps109
  go_wp2
  go_ret
  exact ⟨rfl, (Below.refl _ _).alloc (Nat.le_refl _) _⟩
set_option maxHeartbeats 800000 in
theorem doerOf_two (w : World) : Calls Tryz.prog 109 #[.int .i64 2] w fun e w' => e = .returned (.func (.func 117) #[] #[]) ∧ Below w.heap.size w w' := by
  go_enter Tryz.func109, Tryz.ntmps109
  go_wp2
  go_ret
  exact ⟨rfl, (Below.refl _ _).alloc (Nat.le_refl _) _⟩
set_option maxHeartbeats 800000 in
theorem doerOf_other (kind : Int) (w : World) (h1 : kind ≠ 1) (h2 : kind ≠ 2) : Calls Tryz.prog 109 #[.int .i64 kind] w fun e w' => e = .returned (.func (.func 112) #[] #[]) ∧ Below w.heap.size w w' := by
  by_cases h0 : kind < 0
  · clear h1 h2
    go_enter Tryz.func109, Tryz.ntmps109
    go_wp2
    go_ret
    exact ⟨rfl, (Below.refl _ _).alloc (Nat.le_refl _) _⟩
  · by_cases h3 : 3 ≤ kind
    · clear h1 h2
      go_enter Tryz.func109, Tryz.ntmps109
      go_wp2
      go_ret
      exact ⟨rfl, (Below.refl _ _).alloc (Nat.le_refl _) _⟩
    · obtain rfl : kind = 0 := by omega
      clear h1 h2 h0 h3
      go_enter Tryz.func109, Tryz.ntmps109
      go_wp2
      go_ret
      exact ⟨rfl, (Below.refl _ _).alloc (Nat.le_refl _) _⟩

set_option maxHeartbeats 3200000 in
theorem applyAt1 (F : Bool) (PS : List ByteArray) (WS : List Int) (a b : Option Addr) (ps : List ByteArray) (ws : List Int) (c d : Nat) (kind at_ : Int) (text : ByteArray) (w : World) (hp : Rd w a (vsString ps)) (hw : Rd w b (vsInt ws))
    (hdo : ∀ u, Calls Tryz.prog 109 #[.int .i64 kind] u fun e w' => e = .returned (.func (.func 112) #[] #[]) ∧ Below u.heap.size u w')
    (hact : ∀ u, Rd u a (vsString ps) → Rd u b (vsInt ws) → Calls Tryz.prog 112 #[.agg #[.slice a ps.length c, .slice b ws.length d], .agg #[.int .i64 kind, .int .i64 at_, .string text]] u fun e w' => ∃ v, e = .returned (.tuple #[v, .bool F]) ∧ ChipOwn w' u.heap.size v PS WS ∧ Below u.heap.size u w') :
    Calls Tryz.prog 97 #[.agg #[.slice a ps.length c, .slice b ws.length d], .agg #[.int .i64 kind, .int .i64 at_, .string text]] w fun e w' => ∃ v, e = .returned (.tuple #[v, .bool F]) ∧ ChipOwn w' w.heap.size v PS WS ∧ Below w.heap.size w w' := by
  obtain ⟨W, hW⟩ : ∃ W, W = ((w.alloc (Obj.cells #[.slice a ps.length c, .slice b ws.length d] 30)).alloc (Obj.cells #[.int .i64 kind, .int .i64 at_, .string text] 62)).alloc (Obj.cells #[.slice none 0 0, .slice none 0 0] 30) := ⟨_, rfl⟩
  have hbW : Below w.heap.size w W := by subst hW; exact (((Below.refl _ _).alloc (Nat.le_refl _) _).alloc (by simp) _).alloc (by simp; omega) _
  have hsW : W.heap.size = w.heap.size + 1 + 1 + 1 := by subst hW; simp
  have x0 : W.cell? ⟨w.heap.size, 0, none⟩ = some (.slice a ps.length c) := by subst hW; simp [go_sem]
  have x1 : W.cell? ⟨w.heap.size, 1, none⟩ = some (.slice b ws.length d) := by subst hW; simp [go_sem]
  have x2 : W.cell? ⟨w.heap.size + 1, 0, none⟩ = some (.int .i64 kind) := by subst hW; simp [go_sem]
  have x3 : W.cell? ⟨w.heap.size + 1, 1, none⟩ = some (.int .i64 at_) := by subst hW; simp [go_sem]
  have x4 : W.cell? ⟨w.heap.size + 1, 2, none⟩ = some (.string text) := by subst hW; simp [go_sem]
  have x5 : W.cell? ⟨w.heap.size + 1 + 1, 0, none⟩ = some (.slice none 0 0) := by subst hW; simp [go_sem]
  have x6 : W.cell? ⟨w.heap.size + 1 + 1, 1, none⟩ = some (.slice none 0 0) := by subst hW; simp [go_sem]
  have y5 : W.frozen? ⟨w.heap.size + 1 + 1, 0, none⟩ = false := by subst hW; simp [go_sem]
  have y6 : W.frozen? ⟨w.heap.size + 1 + 1, 1, none⟩ = false := by subst hW; simp [go_sem]
  have HK : Hid (∀ u, Below W.heap.size W.drew u → (u.cell? ⟨w.heap.size, 0, none⟩ = some (.slice a ps.length c) ∧ u.cell? ⟨w.heap.size, 1, none⟩ = some (.slice b ws.length d) ∧ u.cell? ⟨w.heap.size + 1, 0, none⟩ = some (.int .i64 kind) ∧ u.cell? ⟨w.heap.size + 1, 1, none⟩ = some (.int .i64 at_) ∧ u.cell? ⟨w.heap.size + 1, 2, none⟩ = some (.string text)) ∧ u.cell? ⟨w.heap.size + 1 + 1, 0, none⟩ = some (.slice none 0 0) ∧ u.cell? ⟨w.heap.size + 1 + 1, 1, none⟩ = some (.slice none 0 0) ∧ u.frozen? ⟨w.heap.size + 1 + 1, 0, none⟩ = false ∧ u.frozen? ⟨w.heap.size + 1 + 1, 1, none⟩ = false) := fun u hu =>
    ⟨⟨(hu.cell (p := ⟨w.heap.size, 0, none⟩) (by show w.heap.size < _; omega)).trans (by simpa using x0), (hu.cell (p := ⟨w.heap.size, 1, none⟩) (by show w.heap.size < _; omega)).trans (by simpa using x1), (hu.cell (p := ⟨w.heap.size + 1, 0, none⟩) (by show w.heap.size + 1 < _; omega)).trans (by simpa using x2), (hu.cell (p := ⟨w.heap.size + 1, 1, none⟩) (by show w.heap.size + 1 < _; omega)).trans (by simpa using x3), (hu.cell (p := ⟨w.heap.size + 1, 2, none⟩) (by show w.heap.size + 1 < _; omega)).trans (by simpa using x4)⟩,
      (hu.cell (p := ⟨w.heap.size + 1 + 1, 0, none⟩) (by show w.heap.size + 1 + 1 < _; omega)).trans (by simpa using x5), (hu.cell (p := ⟨w.heap.size + 1 + 1, 1, none⟩) (by show w.heap.size + 1 + 1 < _; omega)).trans (by simpa using x6), (hu.frozen (p := ⟨w.heap.size + 1 + 1, 0, none⟩) (by show w.heap.size + 1 + 1 < _; omega)).trans (by simpa using y5), (hu.frozen (p := ⟨w.heap.size + 1 + 1, 1, none⟩) (by show w.heap.size + 1 + 1 < _; omega)).trans (by simpa using y6)⟩
  have HDO := hide hdo
  have HACT : Hid (∀ u, Below W.heap.size W.drew u → Calls Tryz.prog 112 #[.agg #[.slice a ps.length c, .slice b ws.length d], .agg #[.int .i64 kind, .int .i64 at_, .string text]] u fun e w' => ∃ v, e = .returned (.tuple #[v, .bool F]) ∧ ChipOwn w' u.heap.size v PS WS ∧ Below u.heap.size u w') := fun u hu =>
    hact u (hp.below ((after_drew hbW 1).trans (hu.mono hbW.size))) (hw.below ((after_drew hbW 1).trans (hu.mono hbW.size)))
  have HB := hide hbW
  have m1 : w.heap.size + 1 + 1 ≠ w.heap.size := by omega
  have m2 : w.heap.size + 1 + 1 ≠ w.heap.size + 1 := by omega
  clear hp hw hdo hact hbW
  go_enter Tryz.func97, Tryz.ntmps97
  go_wp2_with (rw [← hW]; clear hW)
  go_region_held (fun w' => w'.cell? ⟨w.heap.size, 0, none⟩ = some (.slice a ps.length c) ∧ w'.cell? ⟨w.heap.size, 1, none⟩ = some (.slice b ws.length d) ∧ w'.cell? ⟨w.heap.size + 1, 0, none⟩ = some (.int .i64 kind) ∧ w'.cell? ⟨w.heap.size + 1, 1, none⟩ = some (.int .i64 at_) ∧ w'.cell? ⟨w.heap.size + 1, 2, none⟩ = some (.string text)) (first | assumption | go_keep | exact ⟨cell_other (cell_other hK2.1 m1) m1, cell_other (cell_other hK2.2.1 m1) m1, cell_other (cell_other hK2.2.2.1 m2) m2, cell_other (cell_other hK2.2.2.2.1 m2) m2, cell_other (cell_other hK2.2.2.2.2 m2) m2⟩)
    ((first
      | (go_at_call 109; refine (HDO.out W.drew).mono ?_; rintro e w1 ⟨rfl, hb1⟩; have hK1 := (HK.out w1 hb1).1; have HB1 : Hid (Below W.heap.size W.drew w1) := hb1; clear hb1)
      | (refine (HACT.out w1 HB1.out).mono ?_; rintro e w2 ⟨v, rfl, hown, hb2⟩; obtain ⟨a1, q1, b1, l1, rfl, -⟩ := own_open hown; have HB2 : Hid (Below W.heap.size W.drew w2) := HB1.out.trans (hb2.mono HB1.out.size); obtain ⟨hK2, k5, k6, g5, g6⟩ := HK.out w2 HB2.out; have HOWN : Hid (ChipOwn w2 w1.heap.size (.agg #[.slice a1 PS.length q1, .slice b1 WS.length l1]) PS WS) := hown; clear hb2 hown)))
  have HSZ : Hid (w.heap.size ≤ W.heap.size ∧ W.heap.size ≤ w1.heap.size) := ⟨HB.out.size, HB1.out.size⟩
  have HBW : Hid (Below w.heap.size w w2) := (after_drew HB.out 1).trans (HB2.out.mono HB.out.size)
  clear hK1 hK2 HK HDO HACT HB HB1 HB2 x0 x1 x2 x3 x4 x5 x6 y5 y6
  go_wp2
  have hz := HSZ.out
  refine bodyPost_ret (v := .tuple #[.agg #[.slice a1 PS.length q1, .slice b1 WS.length l1], .bool F]) (by simp [results, Tryz.results97, go_sem, k5, k6]) rfl ⟨.agg #[.slice a1 PS.length q1, .slice b1 WS.length l1], rfl, ?_, (HBW.out.setCell (by show _ ≤ _; simp; omega) _).setCell (by show _ ≤ _; simp; omega) _⟩
  exact own_mono (own_set (own_set HOWN.out (show w.heap.size + 1 + 1 < w1.heap.size by omega) _) (show w.heap.size + 1 + 1 < w1.heap.size by omega) _) (show w.heap.size ≤ w1.heap.size by omega)

set_option maxHeartbeats 3200000 in
theorem applyAt2 (F : Bool) (PS : List ByteArray) (WS : List Int) (a b : Option Addr) (ps : List ByteArray) (ws : List Int) (c d : Nat) (kind at_ : Int) (text : ByteArray) (w : World) (hp : Rd w a (vsString ps)) (hw : Rd w b (vsInt ws))
    (hdo : ∀ u, Calls Tryz.prog 109 #[.int .i64 kind] u fun e w' => e = .returned (.func (.func 115) #[] #[]) ∧ Below u.heap.size u w')
    (hact : ∀ u, Rd u a (vsString ps) → Rd u b (vsInt ws) → Calls Tryz.prog 115 #[.agg #[.slice a ps.length c, .slice b ws.length d], .agg #[.int .i64 kind, .int .i64 at_, .string text]] u fun e w' => ∃ v, e = .returned (.tuple #[v, .bool F]) ∧ ChipOwn w' u.heap.size v PS WS ∧ Below u.heap.size u w') :
    Calls Tryz.prog 97 #[.agg #[.slice a ps.length c, .slice b ws.length d], .agg #[.int .i64 kind, .int .i64 at_, .string text]] w fun e w' => ∃ v, e = .returned (.tuple #[v, .bool F]) ∧ ChipOwn w' w.heap.size v PS WS ∧ Below w.heap.size w w' := by
  obtain ⟨W, hW⟩ : ∃ W, W = ((w.alloc (Obj.cells #[.slice a ps.length c, .slice b ws.length d] 30)).alloc (Obj.cells #[.int .i64 kind, .int .i64 at_, .string text] 62)).alloc (Obj.cells #[.slice none 0 0, .slice none 0 0] 30) := ⟨_, rfl⟩
  have hbW : Below w.heap.size w W := by subst hW; exact (((Below.refl _ _).alloc (Nat.le_refl _) _).alloc (by simp) _).alloc (by simp; omega) _
  have hsW : W.heap.size = w.heap.size + 1 + 1 + 1 := by subst hW; simp
  have x0 : W.cell? ⟨w.heap.size, 0, none⟩ = some (.slice a ps.length c) := by subst hW; simp [go_sem]
  have x1 : W.cell? ⟨w.heap.size, 1, none⟩ = some (.slice b ws.length d) := by subst hW; simp [go_sem]
  have x2 : W.cell? ⟨w.heap.size + 1, 0, none⟩ = some (.int .i64 kind) := by subst hW; simp [go_sem]
  have x3 : W.cell? ⟨w.heap.size + 1, 1, none⟩ = some (.int .i64 at_) := by subst hW; simp [go_sem]
  have x4 : W.cell? ⟨w.heap.size + 1, 2, none⟩ = some (.string text) := by subst hW; simp [go_sem]
  have x5 : W.cell? ⟨w.heap.size + 1 + 1, 0, none⟩ = some (.slice none 0 0) := by subst hW; simp [go_sem]
  have x6 : W.cell? ⟨w.heap.size + 1 + 1, 1, none⟩ = some (.slice none 0 0) := by subst hW; simp [go_sem]
  have y5 : W.frozen? ⟨w.heap.size + 1 + 1, 0, none⟩ = false := by subst hW; simp [go_sem]
  have y6 : W.frozen? ⟨w.heap.size + 1 + 1, 1, none⟩ = false := by subst hW; simp [go_sem]
  have HK : Hid (∀ u, Below W.heap.size W.drew u → (u.cell? ⟨w.heap.size, 0, none⟩ = some (.slice a ps.length c) ∧ u.cell? ⟨w.heap.size, 1, none⟩ = some (.slice b ws.length d) ∧ u.cell? ⟨w.heap.size + 1, 0, none⟩ = some (.int .i64 kind) ∧ u.cell? ⟨w.heap.size + 1, 1, none⟩ = some (.int .i64 at_) ∧ u.cell? ⟨w.heap.size + 1, 2, none⟩ = some (.string text)) ∧ u.cell? ⟨w.heap.size + 1 + 1, 0, none⟩ = some (.slice none 0 0) ∧ u.cell? ⟨w.heap.size + 1 + 1, 1, none⟩ = some (.slice none 0 0) ∧ u.frozen? ⟨w.heap.size + 1 + 1, 0, none⟩ = false ∧ u.frozen? ⟨w.heap.size + 1 + 1, 1, none⟩ = false) := fun u hu =>
    ⟨⟨(hu.cell (p := ⟨w.heap.size, 0, none⟩) (by show w.heap.size < _; omega)).trans (by simpa using x0), (hu.cell (p := ⟨w.heap.size, 1, none⟩) (by show w.heap.size < _; omega)).trans (by simpa using x1), (hu.cell (p := ⟨w.heap.size + 1, 0, none⟩) (by show w.heap.size + 1 < _; omega)).trans (by simpa using x2), (hu.cell (p := ⟨w.heap.size + 1, 1, none⟩) (by show w.heap.size + 1 < _; omega)).trans (by simpa using x3), (hu.cell (p := ⟨w.heap.size + 1, 2, none⟩) (by show w.heap.size + 1 < _; omega)).trans (by simpa using x4)⟩,
      (hu.cell (p := ⟨w.heap.size + 1 + 1, 0, none⟩) (by show w.heap.size + 1 + 1 < _; omega)).trans (by simpa using x5), (hu.cell (p := ⟨w.heap.size + 1 + 1, 1, none⟩) (by show w.heap.size + 1 + 1 < _; omega)).trans (by simpa using x6), (hu.frozen (p := ⟨w.heap.size + 1 + 1, 0, none⟩) (by show w.heap.size + 1 + 1 < _; omega)).trans (by simpa using y5), (hu.frozen (p := ⟨w.heap.size + 1 + 1, 1, none⟩) (by show w.heap.size + 1 + 1 < _; omega)).trans (by simpa using y6)⟩
  have HDO := hide hdo
  have HACT : Hid (∀ u, Below W.heap.size W.drew u → Calls Tryz.prog 115 #[.agg #[.slice a ps.length c, .slice b ws.length d], .agg #[.int .i64 kind, .int .i64 at_, .string text]] u fun e w' => ∃ v, e = .returned (.tuple #[v, .bool F]) ∧ ChipOwn w' u.heap.size v PS WS ∧ Below u.heap.size u w') := fun u hu =>
    hact u (hp.below ((after_drew hbW 1).trans (hu.mono hbW.size))) (hw.below ((after_drew hbW 1).trans (hu.mono hbW.size)))
  have HB := hide hbW
  have m1 : w.heap.size + 1 + 1 ≠ w.heap.size := by omega
  have m2 : w.heap.size + 1 + 1 ≠ w.heap.size + 1 := by omega
  clear hp hw hdo hact hbW
  go_enter Tryz.func97, Tryz.ntmps97
  go_wp2_with (rw [← hW]; clear hW)
  go_region_held (fun w' => w'.cell? ⟨w.heap.size, 0, none⟩ = some (.slice a ps.length c) ∧ w'.cell? ⟨w.heap.size, 1, none⟩ = some (.slice b ws.length d) ∧ w'.cell? ⟨w.heap.size + 1, 0, none⟩ = some (.int .i64 kind) ∧ w'.cell? ⟨w.heap.size + 1, 1, none⟩ = some (.int .i64 at_) ∧ w'.cell? ⟨w.heap.size + 1, 2, none⟩ = some (.string text)) (first | assumption | go_keep | exact ⟨cell_other (cell_other hK2.1 m1) m1, cell_other (cell_other hK2.2.1 m1) m1, cell_other (cell_other hK2.2.2.1 m2) m2, cell_other (cell_other hK2.2.2.2.1 m2) m2, cell_other (cell_other hK2.2.2.2.2 m2) m2⟩)
    ((first
      | (go_at_call 109; refine (HDO.out W.drew).mono ?_; rintro e w1 ⟨rfl, hb1⟩; have hK1 := (HK.out w1 hb1).1; have HB1 : Hid (Below W.heap.size W.drew w1) := hb1; clear hb1)
      | (refine (HACT.out w1 HB1.out).mono ?_; rintro e w2 ⟨v, rfl, hown, hb2⟩; obtain ⟨a1, q1, b1, l1, rfl, -⟩ := own_open hown; have HB2 : Hid (Below W.heap.size W.drew w2) := HB1.out.trans (hb2.mono HB1.out.size); obtain ⟨hK2, k5, k6, g5, g6⟩ := HK.out w2 HB2.out; have HOWN : Hid (ChipOwn w2 w1.heap.size (.agg #[.slice a1 PS.length q1, .slice b1 WS.length l1]) PS WS) := hown; clear hb2 hown)))
  have HSZ : Hid (w.heap.size ≤ W.heap.size ∧ W.heap.size ≤ w1.heap.size) := ⟨HB.out.size, HB1.out.size⟩
  have HBW : Hid (Below w.heap.size w w2) := (after_drew HB.out 1).trans (HB2.out.mono HB.out.size)
  clear hK1 hK2 HK HDO HACT HB HB1 HB2 x0 x1 x2 x3 x4 x5 x6 y5 y6
  go_wp2
  have hz := HSZ.out
  refine bodyPost_ret (v := .tuple #[.agg #[.slice a1 PS.length q1, .slice b1 WS.length l1], .bool F]) (by simp [results, Tryz.results97, go_sem, k5, k6]) rfl ⟨.agg #[.slice a1 PS.length q1, .slice b1 WS.length l1], rfl, ?_, (HBW.out.setCell (by show _ ≤ _; simp; omega) _).setCell (by show _ ≤ _; simp; omega) _⟩
  exact own_mono (own_set (own_set HOWN.out (show w.heap.size + 1 + 1 < w1.heap.size by omega) _) (show w.heap.size + 1 + 1 < w1.heap.size by omega) _) (show w.heap.size ≤ w1.heap.size by omega)

set_option maxHeartbeats 3200000 in
theorem applyAt3 (F : Bool) (PS : List ByteArray) (WS : List Int) (a b : Option Addr) (ps : List ByteArray) (ws : List Int) (c d : Nat) (kind at_ : Int) (text : ByteArray) (w : World) (hp : Rd w a (vsString ps)) (hw : Rd w b (vsInt ws))
    (hdo : ∀ u, Calls Tryz.prog 109 #[.int .i64 kind] u fun e w' => e = .returned (.func (.func 117) #[] #[]) ∧ Below u.heap.size u w')
    (hact : ∀ u, Rd u a (vsString ps) → Rd u b (vsInt ws) → Calls Tryz.prog 117 #[.agg #[.slice a ps.length c, .slice b ws.length d], .agg #[.int .i64 kind, .int .i64 at_, .string text]] u fun e w' => ∃ v, e = .returned (.tuple #[v, .bool F]) ∧ ChipOwn w' u.heap.size v PS WS ∧ Below u.heap.size u w') :
    Calls Tryz.prog 97 #[.agg #[.slice a ps.length c, .slice b ws.length d], .agg #[.int .i64 kind, .int .i64 at_, .string text]] w fun e w' => ∃ v, e = .returned (.tuple #[v, .bool F]) ∧ ChipOwn w' w.heap.size v PS WS ∧ Below w.heap.size w w' := by
  obtain ⟨W, hW⟩ : ∃ W, W = ((w.alloc (Obj.cells #[.slice a ps.length c, .slice b ws.length d] 30)).alloc (Obj.cells #[.int .i64 kind, .int .i64 at_, .string text] 62)).alloc (Obj.cells #[.slice none 0 0, .slice none 0 0] 30) := ⟨_, rfl⟩
  have hbW : Below w.heap.size w W := by subst hW; exact (((Below.refl _ _).alloc (Nat.le_refl _) _).alloc (by simp) _).alloc (by simp; omega) _
  have hsW : W.heap.size = w.heap.size + 1 + 1 + 1 := by subst hW; simp
  have x0 : W.cell? ⟨w.heap.size, 0, none⟩ = some (.slice a ps.length c) := by subst hW; simp [go_sem]
  have x1 : W.cell? ⟨w.heap.size, 1, none⟩ = some (.slice b ws.length d) := by subst hW; simp [go_sem]
  have x2 : W.cell? ⟨w.heap.size + 1, 0, none⟩ = some (.int .i64 kind) := by subst hW; simp [go_sem]
  have x3 : W.cell? ⟨w.heap.size + 1, 1, none⟩ = some (.int .i64 at_) := by subst hW; simp [go_sem]
  have x4 : W.cell? ⟨w.heap.size + 1, 2, none⟩ = some (.string text) := by subst hW; simp [go_sem]
  have x5 : W.cell? ⟨w.heap.size + 1 + 1, 0, none⟩ = some (.slice none 0 0) := by subst hW; simp [go_sem]
  have x6 : W.cell? ⟨w.heap.size + 1 + 1, 1, none⟩ = some (.slice none 0 0) := by subst hW; simp [go_sem]
  have y5 : W.frozen? ⟨w.heap.size + 1 + 1, 0, none⟩ = false := by subst hW; simp [go_sem]
  have y6 : W.frozen? ⟨w.heap.size + 1 + 1, 1, none⟩ = false := by subst hW; simp [go_sem]
  have HK : Hid (∀ u, Below W.heap.size W.drew u → (u.cell? ⟨w.heap.size, 0, none⟩ = some (.slice a ps.length c) ∧ u.cell? ⟨w.heap.size, 1, none⟩ = some (.slice b ws.length d) ∧ u.cell? ⟨w.heap.size + 1, 0, none⟩ = some (.int .i64 kind) ∧ u.cell? ⟨w.heap.size + 1, 1, none⟩ = some (.int .i64 at_) ∧ u.cell? ⟨w.heap.size + 1, 2, none⟩ = some (.string text)) ∧ u.cell? ⟨w.heap.size + 1 + 1, 0, none⟩ = some (.slice none 0 0) ∧ u.cell? ⟨w.heap.size + 1 + 1, 1, none⟩ = some (.slice none 0 0) ∧ u.frozen? ⟨w.heap.size + 1 + 1, 0, none⟩ = false ∧ u.frozen? ⟨w.heap.size + 1 + 1, 1, none⟩ = false) := fun u hu =>
    ⟨⟨(hu.cell (p := ⟨w.heap.size, 0, none⟩) (by show w.heap.size < _; omega)).trans (by simpa using x0), (hu.cell (p := ⟨w.heap.size, 1, none⟩) (by show w.heap.size < _; omega)).trans (by simpa using x1), (hu.cell (p := ⟨w.heap.size + 1, 0, none⟩) (by show w.heap.size + 1 < _; omega)).trans (by simpa using x2), (hu.cell (p := ⟨w.heap.size + 1, 1, none⟩) (by show w.heap.size + 1 < _; omega)).trans (by simpa using x3), (hu.cell (p := ⟨w.heap.size + 1, 2, none⟩) (by show w.heap.size + 1 < _; omega)).trans (by simpa using x4)⟩,
      (hu.cell (p := ⟨w.heap.size + 1 + 1, 0, none⟩) (by show w.heap.size + 1 + 1 < _; omega)).trans (by simpa using x5), (hu.cell (p := ⟨w.heap.size + 1 + 1, 1, none⟩) (by show w.heap.size + 1 + 1 < _; omega)).trans (by simpa using x6), (hu.frozen (p := ⟨w.heap.size + 1 + 1, 0, none⟩) (by show w.heap.size + 1 + 1 < _; omega)).trans (by simpa using y5), (hu.frozen (p := ⟨w.heap.size + 1 + 1, 1, none⟩) (by show w.heap.size + 1 + 1 < _; omega)).trans (by simpa using y6)⟩
  have HDO := hide hdo
  have HACT : Hid (∀ u, Below W.heap.size W.drew u → Calls Tryz.prog 117 #[.agg #[.slice a ps.length c, .slice b ws.length d], .agg #[.int .i64 kind, .int .i64 at_, .string text]] u fun e w' => ∃ v, e = .returned (.tuple #[v, .bool F]) ∧ ChipOwn w' u.heap.size v PS WS ∧ Below u.heap.size u w') := fun u hu =>
    hact u (hp.below ((after_drew hbW 1).trans (hu.mono hbW.size))) (hw.below ((after_drew hbW 1).trans (hu.mono hbW.size)))
  have HB := hide hbW
  have m1 : w.heap.size + 1 + 1 ≠ w.heap.size := by omega
  have m2 : w.heap.size + 1 + 1 ≠ w.heap.size + 1 := by omega
  clear hp hw hdo hact hbW
  go_enter Tryz.func97, Tryz.ntmps97
  go_wp2_with (rw [← hW]; clear hW)
  go_region_held (fun w' => w'.cell? ⟨w.heap.size, 0, none⟩ = some (.slice a ps.length c) ∧ w'.cell? ⟨w.heap.size, 1, none⟩ = some (.slice b ws.length d) ∧ w'.cell? ⟨w.heap.size + 1, 0, none⟩ = some (.int .i64 kind) ∧ w'.cell? ⟨w.heap.size + 1, 1, none⟩ = some (.int .i64 at_) ∧ w'.cell? ⟨w.heap.size + 1, 2, none⟩ = some (.string text)) (first | assumption | go_keep | exact ⟨cell_other (cell_other hK2.1 m1) m1, cell_other (cell_other hK2.2.1 m1) m1, cell_other (cell_other hK2.2.2.1 m2) m2, cell_other (cell_other hK2.2.2.2.1 m2) m2, cell_other (cell_other hK2.2.2.2.2 m2) m2⟩)
    ((first
      | (go_at_call 109; refine (HDO.out W.drew).mono ?_; rintro e w1 ⟨rfl, hb1⟩; have hK1 := (HK.out w1 hb1).1; have HB1 : Hid (Below W.heap.size W.drew w1) := hb1; clear hb1)
      | (refine (HACT.out w1 HB1.out).mono ?_; rintro e w2 ⟨v, rfl, hown, hb2⟩; obtain ⟨a1, q1, b1, l1, rfl, -⟩ := own_open hown; have HB2 : Hid (Below W.heap.size W.drew w2) := HB1.out.trans (hb2.mono HB1.out.size); obtain ⟨hK2, k5, k6, g5, g6⟩ := HK.out w2 HB2.out; have HOWN : Hid (ChipOwn w2 w1.heap.size (.agg #[.slice a1 PS.length q1, .slice b1 WS.length l1]) PS WS) := hown; clear hb2 hown)))
  have HSZ : Hid (w.heap.size ≤ W.heap.size ∧ W.heap.size ≤ w1.heap.size) := ⟨HB.out.size, HB1.out.size⟩
  have HBW : Hid (Below w.heap.size w w2) := (after_drew HB.out 1).trans (HB2.out.mono HB.out.size)
  clear hK1 hK2 HK HDO HACT HB HB1 HB2 x0 x1 x2 x3 x4 x5 x6 y5 y6
  go_wp2
  have hz := HSZ.out
  refine bodyPost_ret (v := .tuple #[.agg #[.slice a1 PS.length q1, .slice b1 WS.length l1], .bool F]) (by simp [results, Tryz.results97, go_sem, k5, k6]) rfl ⟨.agg #[.slice a1 PS.length q1, .slice b1 WS.length l1], rfl, ?_, (HBW.out.setCell (by show _ ≤ _; simp; omega) _).setCell (by show _ ≤ _; simp; omega) _⟩
  exact own_mono (own_set (own_set HOWN.out (show w.heap.size + 1 + 1 < w1.heap.size by omega) _) (show w.heap.size + 1 + 1 < w1.heap.size by omega) _) (show w.heap.size ≤ w1.heap.size by omega)

theorem implApply_fn (a b : Option Addr) (ps : List ByteArray) (ws : List Int) (c d : Nat) (kind at_ : Int) (text : ByteArray) (w : World) (hp : Rd w a (vsString ps)) (hw : Rd w b (vsInt ws)) (hl : ps.length ≤ 1048576) (hm : ws.length ≤ 1048576) (hs : ∀ s ∈ ps, s.size ≤ 1048576) (ht : text.size ≤ 1048576) :
    Calls Tryz.prog 97 #[.agg #[.slice a ps.length c, .slice b ws.length d], .agg #[.int .i64 kind, .int .i64 at_, .string text]] w fun e w' => ∃ v, e = .returned (.tuple #[v, .bool (applyF ps ws kind at_ text)]) ∧ ChipOwn w' w.heap.size v (applyP ps ws kind at_ text) (applyW ps ws kind at_) ∧ Below w.heap.size w w' := by
  unfold applyF applyP applyW
  by_cases k1 : kind = 1
  · subst k1
    rw [if_pos rfl, if_pos rfl, if_pos rfl]
    exact applyAt2 _ _ _ a b ps ws c d 1 at_ text w hp hw (fun u => doerOf_one u) (fun u h1 h2 => doer2_any a b ps ws c d 1 at_ text u h1 h2 hl hm hs ht)
  · by_cases k2 : kind = 2
    · subst k2
      rw [if_neg k1, if_neg k1, if_neg k1, if_pos rfl, if_pos rfl, if_pos rfl]
      exact applyAt3 _ _ _ a b ps ws c d 2 at_ text w hp hw (fun u => doerOf_two u) (fun u h1 h2 => doer3_any a b ps ws c d 2 at_ text u h1 h2 hl hm hs)
    · rw [if_neg k1, if_neg k1, if_neg k1, if_neg k2, if_neg k2, if_neg k2]
      exact applyAt1 _ _ _ a b ps ws c d kind at_ text w hp hw (fun u => doerOf_other kind u k1 k2) (fun u h1 h2 => doer1_any a b ps ws c d kind at_ text u h1 h2 hl hm hs)

end Go.Proofs.YtghadfbpcbcpiaaGreat
