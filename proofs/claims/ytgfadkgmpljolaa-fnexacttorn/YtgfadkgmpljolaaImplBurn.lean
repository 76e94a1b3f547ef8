/-
  Burn, the specification's and the program's: one answer.
-/
import Derived.Test.YtgfadkgmpljolaaAct
import Derived.Test.YtgfadkgmpljolaaOnBurn
import Derived.Test.YtgfadkgmpljolaaSpecBurn
import Derived.Test.YtgfadkgmpljolaaArgChip
namespace Go.Proofs.Ytgfadkgmpljolaa
open Go.RowKit

/-- What Burn answers. -/
noncomputable def burnF (ps : List ByteArray) (ws : List Int) (page : Int) (text : ByteArray) : Bool := open Classical in decide (chipOkP ps ws ∧ burnOk ps page text)
noncomputable def burnP (ps : List ByteArray) (ws : List Int) (page : Int) (text : ByteArray) : List ByteArray := open Classical in if chipOkP ps ws then (if burnOk ps page text then ps.set page.toNat text else ps) else []
noncomputable def burnW (ps : List ByteArray) (ws : List Int) : List Int := open Classical in if chipOkP ps ws then ws else []
theorem burnP_len (ps : List ByteArray) (ws : List Int) (page : Int) (text : ByteArray) : (burnP ps ws page text).length ≤ 60 := by
  unfold burnP
  split
  · rename_i h; split <;> simp [h.1]
  · simp
theorem burnW_len (ps : List ByteArray) (ws : List Int) : (burnW ps ws).length ≤ 10 := by
  unfold burnW
  split
  · rename_i h; simp [h.2.1]
  · simp

theorem set_same {ps : List ByteArray} {k : Nat} {t : ByteArray} (h : ps[k]? = some t) : ps.set k t = ps := by
  obtain ⟨hk, rfl⟩ := List.getElem?_eq_some_iff.1 h
  exact List.set_getElem_self hk
theorem burnPs_eq {ps : List ByteArray} {page : Int} {text : ByteArray} (hl : ps.length = 60) (h : burnOk ps page text) : burnPs ps page text = ps.set page.toNat text ∧ burnPs ps page text ≠ ps := by
  obtain ⟨h1, h2, h3, h4, h5⟩ := h
  have hy : onBurn ps page text := ⟨h1, by omega, h3, h5⟩
  rw [burnPs_yes hy]
  refine ⟨rfl, fun e => h4 ?_⟩
  have hk : page.toNat < ps.length := by omega
  have e2 : (ps.set page.toNat text)[page.toNat]? = some text := by simp [hk]
  rw [e] at e2
  rw [e2] at h3
  exact h3
theorem burnPs_ne {ps : List ByteArray} {page : Int} {text : ByteArray} (hl : ps.length = 60) (h : ¬ burnOk ps page text) : burnPs ps page text = ps := by
  by_cases hy : onBurn ps page text
  · rw [burnPs_yes hy]
    have ht : text = ByteArray.empty := Classical.byContradiction fun ht => h ⟨hy.1, by have := hy.2.1; omega, hy.2.2.1, ht, hy.2.2.2⟩
    have hk : page.toNat < ps.length := by have := hy.2.1; have := hy.1; omega
    refine set_same ?_
    have := hy.2.2.1
    rw [List.getElem?_eq_getElem hk] at this ⊢
    simp at this
    rw [this, ht]
  · exact burnPs_no hy

theorem specBurn_fn (a b : Option Addr) (ps : List ByteArray) (ws : List Int) (c d : Nat) (page : Int) (text : ByteArray) (w : World) (hp : Rd w a (vsString ps)) (hw : Rd w b (vsInt ws)) (hl : ps.length ≤ 1048576) (hm : ws.length ≤ 1048576) (hs : ∀ s ∈ ps, s.size ≤ 1048576) (ht : text.size ≤ 1048576) :
    Calls Try.prog 18 #[.agg #[.slice a ps.length c, .slice b ws.length d], .int .i64 page, .string text] w fun e w' => ∃ v, e = .returned (.tuple #[v, .bool (burnF ps ws page text)]) ∧ ChipOwn w' w.heap.size v (burnP ps ws page text) (burnW ps ws) ∧ Below w.heap.size w w' := by
  by_cases hok : chipOkP ps ws
  · refine (specBurn_ok a b ps ws c d page text w hp hw hok ht).mono ?_
    rintro e w' ⟨h1, h2, hb⟩
    by_cases hy : burnOk ps page text
    · obtain ⟨v, rfl, ho⟩ := h1 hy
      exact ⟨v, by simp [burnF, hok, hy], by simpa [burnP, burnW, hok, hy] using ho, hb⟩
    · obtain ⟨v, rfl, ho⟩ := h2 hy
      exact ⟨v, by simp [burnF, hok, hy], by simpa [burnP, burnW, hok, hy] using ho, hb⟩
  · refine (specBurn_bad a b ps ws c d page text w hp hw hl hm hs hok).mono ?_
    rintro e w' ⟨v, rfl, ho, hb⟩
    exact ⟨v, by simp [burnF, hok], by simpa [burnP, burnW, hok] using ho, hb⟩

/-- act, at a burning. -/
theorem actBurn_fn (a b : Option Addr) (ps : List ByteArray) (ws : List Int) (c d : Nat) (page : Int) (text : ByteArray) (w : World) (hp : Rd w a (vsString ps)) (hw : Rd w b (vsInt ws)) (hl : ps.length ≤ 1048576) (hm : ws.length ≤ 1048576) (hs : ∀ s ∈ ps, s.size ≤ 1048576) (ht : text.size ≤ 1048576) :
    Calls Try.prog 39 #[.agg #[.slice a ps.length c, .slice b ws.length d], .func (.func 40) #[.agg #[.int .i64 page, .string text]] #[]] w fun e w' => ∃ v, e = .returned (.tuple #[v, .bool (burnF ps ws page text)]) ∧ ChipOwn w' w.heap.size v (burnP ps ws page text) (burnW ps ws) ∧ Below w.heap.size w w' := by
  by_cases hok : chipOkP ps ws
  · have hact : Acts 40 (.agg #[.int .i64 page, .string text]) ps (burnPs ps page text) ws ws := fun w g h => onBurn_any g ps ws page text w h hok.1 ht
    refine (act_okBurn _ a b ps _ ws ws c d w hp hw hok hact (by rw [burnPs_len]; exact hok.1) hok.2.1).mono ?_
    rintro e w' ⟨v, rfl, ho, hb⟩
    by_cases hy : burnOk ps page text
    · obtain ⟨h1, h2⟩ := burnPs_eq hok.1 hy
      rw [h1] at ho
      exact ⟨v, by simp [burnF, hok, hy, h2], by simpa [burnP, burnW, hok, hy] using ho, hb⟩
    · have h1 := burnPs_ne hok.1 hy
      rw [h1] at ho
      exact ⟨v, by simp [burnF, hok, hy, h1], by simpa [burnP, burnW, hok, hy] using ho, hb⟩
  · refine (act_bad 40 _ a b ps ws c d w hp hw hl hm hs hok).mono ?_
    rintro e w' ⟨v, rfl, ho, hb⟩
    exact ⟨v, by simp [burnF, hok], by simpa [burnP, burnW, hok] using ho, hb⟩

set_option maxHeartbeats 1600000 in
theorem implBurn_fn (a b : Option Addr) (ps : List ByteArray) (ws : List Int) (c d : Nat) (page : Int) (text : ByteArray) (w : World) (hp : Rd w a (vsString ps)) (hw : Rd w b (vsInt ws)) (hl : ps.length ≤ 1048576) (hm : ws.length ≤ 1048576) (hs : ∀ s ∈ ps, s.size ≤ 1048576) (ht : text.size ≤ 1048576) :
    Calls Try.prog 19 #[.agg #[.slice a ps.length c, .slice b ws.length d], .int .i64 page, .string text] w fun e w' => ∃ v, e = .returned (.tuple #[v, .bool (burnF ps ws page text)]) ∧ ChipOwn w' w.heap.size v (burnP ps ws page text) (burnW ps ws) ∧ Below w.heap.size w w' := by
  have hmf : ∀ (fn : Fn) (first cap : Array Value) (w : World), (Instr.makeFunc fn first cap).run Try.prog w = .ok (.func fn first cap) w := fun _ _ _ _ => rfl
  obtain ⟨W, hW⟩ : ∃ W, W = (w.alloc (Obj.cells #[.slice a ps.length c, .slice b ws.length d] 28)).alloc (Obj.cells #[.slice none 0 0, .slice none 0 0] 28) := ⟨_, rfl⟩
  have hbW : Below w.heap.size w W := by subst hW; exact ((Below.refl _ _).alloc (Nat.le_refl _) _).alloc (by simp) _
  have cW : W.cell? ⟨w.heap.size + 1, 0, none⟩ = some (.slice none 0 0) ∧ W.cell? ⟨w.heap.size + 1, 1, none⟩ = some (.slice none 0 0) ∧ W.frozen? ⟨w.heap.size + 1, 0, none⟩ = false ∧ W.frozen? ⟨w.heap.size + 1, 1, none⟩ = false ∧ w.heap.size + 1 < W.heap.size := by
    subst hW; refine ⟨?_, ?_, ?_, ?_, ?_⟩ <;> simp [go_sem]
  go_enter Try.func19, Try.ntmps19
  go_wp2_with fail
  rw [← hW]
  clear hW
  refine (actBurn_fn a b ps ws c d page text _ (hp.below hbW) (hw.below hbW) hl hm hs ht).mono ?_
  rintro e w1 ⟨v, rfl, hown, hb1⟩
  obtain ⟨a1, k1, b1, l1, rfl, -⟩ := own_open hown
  have j1 := (hb1.cell (p := ⟨w.heap.size + 1, 0, none⟩) (by show _ < _; exact cW.2.2.2.2)).trans cW.1
  have j2 := (hb1.cell (p := ⟨w.heap.size + 1, 1, none⟩) (by show _ < _; exact cW.2.2.2.2)).trans cW.2.1
  have f1 := (hb1.frozen (p := ⟨w.heap.size + 1, 0, none⟩) (by show _ < _; exact cW.2.2.2.2)).trans cW.2.2.1
  have f2 := (hb1.frozen (p := ⟨w.heap.size + 1, 1, none⟩) (by show _ < _; exact cW.2.2.2.2)).trans cW.2.2.2.1
  have hbw1 := after hbW hb1
  have hlt := cW.2.2.2.2
  have HOWN := hide hown
  clear hb1 hbW cW hp hw hs hown
  obtain ⟨F, hF⟩ : ∃ F, F = burnF ps ws page text := ⟨_, rfl⟩
  rw [← hF]
  have HF := hide hF
  clear hF
  go_wp2
  refine bodyPost_ret (v := .tuple #[.agg #[.slice a1 (burnP ps ws page text).length k1, .slice b1 (burnW ps ws).length l1], .bool F]) (by simp [results, Try.results19, go_sem, j1, j2]) rfl ⟨.agg #[.slice a1 (burnP ps ws page text).length k1, .slice b1 (burnW ps ws).length l1], by rw [HF.out], ?_, (hbw1.setCell (by show _ ≤ _; simp) _).setCell (by show _ ≤ _; simp) _⟩
  exact own_mono (own_set (own_set HOWN.out (show w.heap.size + 1 < W.heap.size by omega) _) (show w.heap.size + 1 < W.heap.size by omega) _) (show w.heap.size ≤ W.heap.size by omega)

end Go.Proofs.Ytgfadkgmpljolaa
