/-
  Contract of the program's (burning).on: a clear page of the board gets the text.
  Burn, the specification's and the program's: one answer.
  Clear, the specification's and the program's: one answer.
-/
import Derived.Test.YtdicjbabnknjhaaGreatJRecover18
import Derived.Test.YtdicjbabnknjhaaGreatJRecover8
import Derived.RegionTactic
import Derived.BigRegion
import Derived.Deep.QuietTactic
import Derived.BigQuiet
import Derived.Test.YtdicjbabnknjhaaGreatJRecover19
import Derived.Test.YtdicjbabnknjhaaGreatJRecover3
import Derived.Test.YtdicjbabnknjhaaGreatJRecover2
import Derived.Test.YtdicjbabnknjhaaGreatJRecover17
namespace Go.Proofs.YtdicjbabnknjhaaGreat
open Go.RowKit

/-- The page is there and clear, the text is short enough. -/
def onBurn (ps : List ByteArray) (page : Int) (text : ByteArray) : Prop := 0 ≤ page ∧ page < 60 ∧ ps[page.toNat]?.getD ByteArray.empty = ByteArray.empty ∧ text.size ≤ 800
/-- What the pages are then. -/
noncomputable def burnPs (ps : List ByteArray) (page : Int) (text : ByteArray) : List ByteArray := open Classical in if onBurn ps page text then ps.set page.toNat text else ps
theorem burnPs_yes {ps : List ByteArray} {page : Int} {text : ByteArray} (h : onBurn ps page text) : burnPs ps page text = ps.set page.toNat text := by simp [burnPs, h]
theorem burnPs_no {ps : List ByteArray} {page : Int} {text : ByteArray} (h : ¬ onBurn ps page text) : burnPs ps page text = ps := by simp [burnPs, h]
theorem burnPs_len (ps : List ByteArray) (page : Int) (text : ByteArray) : (burnPs ps page text).length = ps.length := by unfold burnPs; split <;> simp

set_option maxHeartbeats 3200000 in
theorem onBurn_any (g : Nat) (ps : List ByteArray) (ws : List Int) (page : Int) (text : ByteArray) (w : World) (h : Board w g ps ws) (hl : ps.length = 60) (ht : text.size ≤ 1048576) :
    Calls Tryz.prog 147 #[.agg #[.int .i64 page, .string text], .pointer (some ⟨g, 0, none⟩)] w fun e w' => (∃ v, e = .returned v) ∧ Board w' g (burnPs ps page text) ws ∧ OnlyIn w w' [some g] := by
  obtain ⟨W, hW⟩ : ∃ W, W = w.alloc (Obj.cells #[.int .i64 page, .string text] 169) := ⟨_, rfl⟩
  have hbW : Below w.heap.size w W := by subst hW; exact (Below.refl _ _).alloc (Nat.le_refl _) _
  have c0 : W.cell? ⟨w.heap.size, 0, none⟩ = some (.int .i64 page) := by subst hW; simp
  have c1 : W.cell? ⟨w.heap.size, 1, none⟩ = some (.string text) := by subst hW; simp
  have hB := h.below hbW
  have hg := h.lt
  have hO : OnlyIn w W [some g] := OnlyIn.of_below hbW _
  clear h hbW
  by_cases h1 : page < 0
  · have t1 : decide (page < 0) = true := by simpa using h1
    have hn : ¬ onBurn ps page text := fun h => by have := h.1; omega
    rw [burnPs_no hn]
    clear hn
    go_enter Tryz.func147, Tryz.ntmps147
    go_wp2_with fail
    rw [← hW]
    clear hW
    go_quiet (fail)
    all_goals go_wp2
    all_goals exact bodyPost_ret (by simp [results, Tryz.results147]; rfl) rfl ⟨⟨_, rfl⟩, hB, hO.drewN _⟩
  · by_cases h2 : 60 ≤ page
    · have t1 : decide (page < 0) = false := by simpa using h1
      have t2 : decide (60 ≤ page) = true := by simpa using h2
      have hn : ¬ onBurn ps page text := fun h => by have := h.2.1; omega
      rw [burnPs_no hn]
      clear hn
      go_enter Tryz.func147, Tryz.ntmps147
      go_wp2_with fail
      rw [← hW]
      clear hW
      go_quiet (fail)
      all_goals go_wp2
      all_goals exact bodyPost_ret (by simp [results, Tryz.results147]; rfl) rfl ⟨⟨_, rfl⟩, hB, hO.drewN _⟩
    · obtain ⟨P, rfl⟩ : ∃ P : Nat, page = P := ⟨page.toNat, by omega⟩
      have hP : P < ps.length := by omega
      have t1 : decide ((P : Int) < 0) = false := by simp
      have t2 : decide (60 ≤ (P : Int)) = false := by simp; omega
      have t3 : (0 : Int) ≤ (P : Int) := by omega
      have t4 : (P : Int) < 60 := by omega
      obtain ⟨x, hx⟩ : ∃ x, ps[P]? = some x := ⟨_, List.getElem?_eq_getElem hP⟩
      have hc : W.cell? ⟨g, P, none⟩ = some (.string x) := by rw [hB.cell, bd_page hP, List.getElem?_map, hx]; rfl
      have hf : W.frozen? ⟨g, P, none⟩ = false := hB.frozen P
      have HX := hide hx
      clear hx
      by_cases hxe : x = ByteArray.empty
      · by_cases ht8 : (800 : Int) < (text.size : Int)
        · have t6 : decide (800 < (text.size : Int)) = true := by simpa using ht8
          have hn : ¬ onBurn ps P text := fun h => by have := h.2.2.2; omega
          rw [burnPs_no hn]
          clear hn
          subst hxe
          go_enter Tryz.func147, Tryz.ntmps147
          go_wp2_with fail
          rw [← hW]
          clear hW
          go_quiet (fail)
          all_goals go_wp2
          all_goals exact bodyPost_ret (by simp [results, Tryz.results147]; rfl) rfl ⟨⟨_, rfl⟩, hB, hO.drewN _⟩
        · have t6 : decide (800 < (text.size : Int)) = false := by simpa using ht8
          have hy : onBurn ps P text := ⟨by omega, by omega, by rw [Int.toNat_natCast, HX.out, hxe]; rfl, by omega⟩
          rw [burnPs_yes hy, Int.toNat_natCast]
          clear hy
          subst hxe
          go_enter Tryz.func147, Tryz.ntmps147
          go_wp2_with fail
          rw [← hW]
          clear hW
          go_quiet (fail)
          obtain ⟨V, hV⟩ : ∃ V, V = W.drewN nq := ⟨_, rfl⟩
          have e0 : V.cell? ⟨w.heap.size, 0, none⟩ = some (.int .i64 P) := by rw [hV]; exact c0
          have e1 : V.cell? ⟨w.heap.size, 1, none⟩ = some (.string text) := by rw [hV]; exact c1
          have hcV : V.cell? ⟨g, P, none⟩ = some (.string ByteArray.empty) := by rw [hV]; exact hc
          have hfV : V.frozen? ⟨g, P, none⟩ = false := by rw [hV]; exact hf
          have hB' : Board (V.setCell ⟨g, P, none⟩ (.string text)).drew g (ps.set P text) ws := by rw [hV]; exact hB.setPage hP text
          have hO' : OnlyIn w (V.setCell ⟨g, P, none⟩ (.string text)).drew [some g] := by
            have := (hO.drewN nq).trans (OnlyIn.of_grown (grown_setB (W.drewN nq) g P (.string text)))
            rw [hV]
            exact ⟨this.os, this.tape, this.output, this.size, fun i hi hn => this.block i hi (by simpa using hn)⟩
          rw [← hV]
          clear hV hB hO c0 c1 hc hf
          go_wp2_with fail
          go_region
          go_wp2
          go_end0
          exact ⟨⟨_, rfl⟩, hB', hO'⟩
      · have hn : ¬ onBurn ps P text := fun h => hxe (by have := h.2.2.1; rw [Int.toNat_natCast, HX.out] at this; exact this)
        rw [burnPs_no hn]
        have hxi := isEmpty_str hxe
        clear hn hxe
        go_enter Tryz.func147, Tryz.ntmps147
        go_wp2_with fail
        rw [← hW]
        clear hW
        go_quiet (fail)
        all_goals go_wp2
        all_goals exact bodyPost_ret (by simp [results, Tryz.results147]; rfl) rfl ⟨⟨_, rfl⟩, hB, hO.drewN _⟩

end Go.Proofs.YtdicjbabnknjhaaGreat

namespace Go.Proofs.YtdicjbabnknjhaaGreat
open Go.RowKit

/-- What Burn answers. -/
noncomputable def burnF (ps : List ByteArray) (ws : List Int) (page : Int) (text : ByteArray) : Bool := open Classical in decide (chipOkP ps ws ∧ burnOk ps page text)
noncomputable def burnP (ps : List ByteArray) (ws : List Int) (page : Int) (text : ByteArray) : List ByteArray := open Classical in if chipOkP ps ws then (if burnOk ps page text then ps.set page.toNat text else ps) else []
noncomputable def burnW (ps : List ByteArray) (ws : List Int) : List Int := open Classical in if chipOkP ps ws then ws else []
theorem burnP_len (ps : List ByteArray) (ws : List Int) (page : Int) (text : ByteArray) : (burnP ps ws page text).length ≤ 60 := by
  unfold burnP
  split
  · rename_i h; split <;> simp [h.1]
  · simp
theorem burnW_len (ps : List ByteArray) (ws : List Int) : (burnW ps ws).length ≤ 10 := by
  unfold burnW
  split
  · rename_i h; simp [h.2.1]
  · simp

theorem set_same {ps : List ByteArray} {k : Nat} {t : ByteArray} (h : ps[k]? = some t) : ps.set k t = ps := by
  obtain ⟨hk, rfl⟩ := List.getElem?_eq_some_iff.1 h
  exact List.set_getElem_self hk
theorem burnPs_eq {ps : List ByteArray} {page : Int} {text : ByteArray} (hl : ps.length = 60) (h : burnOk ps page text) : burnPs ps page text = ps.set page.toNat text ∧ burnPs ps page text ≠ ps := by
  obtain ⟨h1, h2, h3, h4, h5⟩ := h
  have hy : onBurn ps page text := ⟨h1, by omega, h3, h5⟩
  rw [burnPs_yes hy]
  refine ⟨rfl, fun e => h4 ?_⟩
  have hk : page.toNat < ps.length := by omega
  have e2 : (ps.set page.toNat text)[page.toNat]? = some text := by simp [hk]
  rw [e] at e2
  rw [e2] at h3
  exact h3
theorem burnPs_ne {ps : List ByteArray} {page : Int} {text : ByteArray} (hl : ps.length = 60) (h : ¬ burnOk ps page text) : burnPs ps page text = ps := by
  by_cases hy : onBurn ps page text
  · rw [burnPs_yes hy]
    have ht : text = ByteArray.empty := Classical.byContradiction fun ht => h ⟨hy.1, by have := hy.2.1; omega, hy.2.2.1, ht, hy.2.2.2⟩
    have hk : page.toNat < ps.length := by have := hy.2.1; have := hy.1; omega
    refine set_same ?_
    have := hy.2.2.1
    rw [List.getElem?_eq_getElem hk] at this ⊢
    simp at this
    rw [this, ht]
  · exact burnPs_no hy

/-- act, at a burning. -/
theorem actBurn_fn (a b : Option Addr) (ps : List ByteArray) (ws : List Int) (c d : Nat) (page : Int) (text : ByteArray) (w : World) (hp : Rd w a (vsString ps)) (hw : Rd w b (vsInt ws)) (hl : ps.length ≤ 1048576) (hm : ws.length ≤ 1048576) (hs : ∀ s ∈ ps, s.size ≤ 1048576) (ht : text.size ≤ 1048576) :
    Calls Tryz.prog 139 #[.agg #[.slice a ps.length c, .slice b ws.length d], .func (.func 147) #[.agg #[.int .i64 page, .string text]] #[]] w fun e w' => ∃ v, e = .returned (.tuple #[v, .bool (burnF ps ws page text)]) ∧ ChipOwn w' w.heap.size v (burnP ps ws page text) (burnW ps ws) ∧ Below w.heap.size w w' := by
  by_cases hok : chipOkP ps ws
  · have hact : Acts 147 (.agg #[.int .i64 page, .string text]) ps (burnPs ps page text) ws ws := fun w g h => onBurn_any g ps ws page text w h hok.1 ht
    refine (act_okBurn _ a b ps _ ws ws c d w hp hw hok hact (by rw [burnPs_len]; exact hok.1) hok.2.1).mono ?_
    rintro e w' ⟨v, rfl, ho, hb⟩
    by_cases hy : burnOk ps page text
    · obtain ⟨h1, h2⟩ := burnPs_eq hok.1 hy
      rw [h1] at ho
      exact ⟨v, by simp [burnF, hok, hy, h2], by simpa [burnP, burnW, hok, hy] using ho, hb⟩
    · have h1 := burnPs_ne hok.1 hy
      rw [h1] at ho
      exact ⟨v, by simp [burnF, hok, hy, h1], by simpa [burnP, burnW, hok, hy] using ho, hb⟩
  · refine (act_bad 147 _ a b ps ws c d w hp hw hl hm hs hok).mono ?_
    rintro e w' ⟨v, rfl, ho, hb⟩
    exact ⟨v, by simp [burnF, hok], by simpa [burnP, burnW, hok] using ho, hb⟩

set_option maxHeartbeats 1600000 in
theorem implBurn_fn (a b : Option Addr) (ps : List ByteArray) (ws : List Int) (c d : Nat) (page : Int) (text : ByteArray) (w : World) (hp : Rd w a (vsString ps)) (hw : Rd w b (vsInt ws)) (hl : ps.length ≤ 1048576) (hm : ws.length ≤ 1048576) (hs : ∀ s ∈ ps, s.size ≤ 1048576) (ht : text.size ≤ 1048576) :
    Calls Tryz.prog 142 #[.agg #[.slice a ps.length c, .slice b ws.length d], .int .i64 page, .string text] w fun e w' => ∃ v, e = .returned (.tuple #[v, .bool (burnF ps ws page text)]) ∧ ChipOwn w' w.heap.size v (burnP ps ws page text) (burnW ps ws) ∧ Below w.heap.size w w' := by
  have hmf : ∀ (fn : Fn) (first cap : Array Value) (w : World), (Instr.makeFunc fn first cap).run Tryz.prog w = .ok (.func fn first cap) w := fun _ _ _ _ => rfl
  obtain ⟨W, hW⟩ : ∃ W, W = (w.alloc (Obj.cells #[.slice a ps.length c, .slice b ws.length d] 32)).alloc (Obj.cells #[.slice none 0 0, .slice none 0 0] 32) := ⟨_, rfl⟩
  have hbW : Below w.heap.size w W := by subst hW; exact ((Below.refl _ _).alloc (Nat.le_refl _) _).alloc (by simp) _
  have cW : W.cell? ⟨w.heap.size + 1, 0, none⟩ = some (.slice none 0 0) ∧ W.cell? ⟨w.heap.size + 1, 1, none⟩ = some (.slice none 0 0) ∧ W.frozen? ⟨w.heap.size + 1, 0, none⟩ = false ∧ W.frozen? ⟨w.heap.size + 1, 1, none⟩ = false ∧ w.heap.size + 1 < W.heap.size := by
    subst hW; refine ⟨?_, ?_, ?_, ?_, ?_⟩ <;> simp [go_sem]
  go_enter Tryz.func142, Tryz.ntmps142
  go_wp2_with fail
  rw [← hW]
  clear hW
  refine (actBurn_fn a b ps ws c d page text _ (hp.below hbW) (hw.below hbW) hl hm hs ht).mono ?_
  rintro e w1 ⟨v, rfl, hown, hb1⟩
  obtain ⟨a1, k1, b1, l1, rfl, -⟩ := own_open hown
  have j1 := (hb1.cell (p := ⟨w.heap.size + 1, 0, none⟩) (by show _ < _; exact cW.2.2.2.2)).trans cW.1
  have j2 := (hb1.cell (p := ⟨w.heap.size + 1, 1, none⟩) (by show _ < _; exact cW.2.2.2.2)).trans cW.2.1
  have f1 := (hb1.frozen (p := ⟨w.heap.size + 1, 0, none⟩) (by show _ < _; exact cW.2.2.2.2)).trans cW.2.2.1
  have f2 := (hb1.frozen (p := ⟨w.heap.size + 1, 1, none⟩) (by show _ < _; exact cW.2.2.2.2)).trans cW.2.2.2.1
  have hbw1 := after hbW hb1
  have hlt := cW.2.2.2.2
  have HOWN := hide hown
  clear hb1 hbW cW hp hw hs hown
  obtain ⟨F, hF⟩ : ∃ F, F = burnF ps ws page text := ⟨_, rfl⟩
  rw [← hF]
  have HF := hide hF
  clear hF
  go_wp2
  refine bodyPost_ret (v := .tuple #[.agg #[.slice a1 (burnP ps ws page text).length k1, .slice b1 (burnW ps ws).length l1], .bool F]) (by simp [results, Tryz.results142, go_sem, j1, j2]) rfl ⟨.agg #[.slice a1 (burnP ps ws page text).length k1, .slice b1 (burnW ps ws).length l1], by rw [HF.out], ?_, (hbw1.setCell (by show _ ≤ _; simp) _).setCell (by show _ ≤ _; simp) _⟩
  exact own_mono (own_set (own_set HOWN.out (show w.heap.size + 1 < W.heap.size by omega) _) (show w.heap.size + 1 < W.heap.size by omega) _) (show w.heap.size ≤ W.heap.size by omega)

end Go.Proofs.YtdicjbabnknjhaaGreat

namespace Go.Proofs.YtdicjbabnknjhaaGreat
open Go.RowKit

/-- What Clear answers; what Half does ('n': how many pages are cleared). -/
noncomputable def clearF (ps : List ByteArray) (ws : List Int) (block : Int) : Bool := open Classical in decide (chipOkP ps ws ∧ clearOk ws block)
noncomputable def halfQ (ps : List ByteArray) (ws : List Int) (block n : Int) : List ByteArray := open Classical in if chipOkP ps ws then (if clearOk ws block then wipeP ps block.toNat n.toNat else ps) else []
noncomputable def clearP (ps : List ByteArray) (ws : List Int) (block : Int) : List ByteArray := halfQ ps ws block 6
noncomputable def clearW (ps : List ByteArray) (ws : List Int) (block : Int) : List Int := open Classical in if chipOkP ps ws then (if clearOk ws block then ws.set block.toNat (ws[block.toNat]?.getD 0 + 1) else ws) else []
theorem halfQ_len (ps : List ByteArray) (ws : List Int) (block n : Int) : (halfQ ps ws block n).length ≤ 60 := by
  unfold halfQ
  split
  · rename_i h; split <;> simp [wipeP_len, h.1]
  · simp
theorem clearP_len (ps : List ByteArray) (ws : List Int) (block : Int) : (clearP ps ws block).length ≤ 60 := halfQ_len _ _ _ _
theorem clearW_len (ps : List ByteArray) (ws : List Int) (block : Int) : (clearW ps ws block).length ≤ 10 := by
  unfold clearW
  split
  · rename_i h; split <;> simp [h.2.1]
  · simp

theorem onClear_iff {ps : List ByteArray} {ws : List Int} {block : Int} (hok : chipOkP ps ws) : onClear ws block ↔ clearOk ws block := by
  unfold onClear clearOk
  constructor
  · rintro ⟨h1, h2, h3⟩; exact ⟨h1, by omega, by omega⟩
  · rintro ⟨h1, h2, h3⟩
    have hk : block.toNat < ws.length := by have := hok.2.1; omega
    have := hok.2.2.2 ws[block.toNat] (List.getElem_mem hk)
    rw [List.getElem?_eq_getElem hk] at h3 ⊢
    simp at h3 ⊢
    exact ⟨h1, by omega, by omega⟩
theorem clearWs_ne {ps : List ByteArray} {ws : List Int} {block : Int} (hok : chipOkP ps ws) (h : clearOk ws block) : clearWs ws block = ws.set block.toNat (ws[block.toNat]?.getD 0 + 1) ∧ clearWs ws block ≠ ws := by
  rw [clearWs_yes ((onClear_iff hok).2 h)]
  refine ⟨rfl, fun e => ?_⟩
  have hk : block.toNat < ws.length := by have := hok.2.1; have := h.1; have := h.2.1; omega
  have e2 : (ws.set block.toNat (ws[block.toNat]?.getD 0 + 1))[block.toNat]? = some (ws[block.toNat]?.getD 0 + 1) := by simp [hk]
  rw [e, List.getElem?_eq_getElem hk] at e2
  simp at e2
  omega

/-- act, at a clearing. -/
theorem actClear_fn (a b : Option Addr) (ps : List ByteArray) (ws : List Int) (c d : Nat) (block n : Int) (w : World) (hp : Rd w a (vsString ps)) (hw : Rd w b (vsInt ws)) (hl : ps.length ≤ 1048576) (hm : ws.length ≤ 1048576) (hs : ∀ s ∈ ps, s.size ≤ 1048576) (hn0 : -9223372036854775808 ≤ n) (hn6 : n ≤ 6) :
    Calls Tryz.prog 139 #[.agg #[.slice a ps.length c, .slice b ws.length d], .func (.func 148) #[.agg #[.int .i64 block, .int .i64 n]] #[]] w fun e w' => ∃ v, e = .returned (.tuple #[v, .bool (clearF ps ws block)]) ∧ ChipOwn w' w.heap.size v (halfQ ps ws block n) (clearW ps ws block) ∧ Below w.heap.size w w' := by
  by_cases hok : chipOkP ps ws
  · have hact : Acts 148 (.agg #[.int .i64 block, .int .i64 n]) ps (clearPs ps ws block n) ws (clearWs ws block) := fun w g h => onClear_any g ps ws block n w h hok.1 hok.2.1 (fun y hy => (hok.2.2.2 y hy).1) hn0 hn6
    refine (act_okClear _ a b ps _ ws _ c d w hp hw hok hact (by rw [clearPs_len]; exact hok.1) (by rw [clearWs_len]; exact hok.2.1)).mono ?_
    rintro e w' ⟨v, rfl, ho, hb⟩
    by_cases hy : clearOk ws block
    · obtain ⟨h1, h2⟩ := clearWs_ne hok hy
      rw [clearPs_yes ((onClear_iff hok).2 hy), h1] at ho
      exact ⟨v, by simp [clearF, hok, hy, h2], by simpa [halfQ, clearW, hok, hy] using ho, hb⟩
    · have hy' : ¬ onClear ws block := fun h => hy ((onClear_iff hok).1 h)
      rw [clearPs_no hy', clearWs_no hy'] at ho
      exact ⟨v, by simp [clearF, hok, hy, clearPs_no hy', clearWs_no hy'], by simpa [halfQ, clearW, hok, hy] using ho, hb⟩
  · refine (act_bad 148 _ a b ps ws c d w hp hw hl hm hs hok).mono ?_
    rintro e w' ⟨v, rfl, ho, hb⟩
    exact ⟨v, by simp [clearF, hok], by simpa [halfQ, clearW, hok] using ho, hb⟩

set_option maxHeartbeats 1600000 in
theorem implClear_fn (a b : Option Addr) (ps : List ByteArray) (ws : List Int) (c d : Nat) (block : Int) (w : World) (hp : Rd w a (vsString ps)) (hw : Rd w b (vsInt ws)) (hl : ps.length ≤ 1048576) (hm : ws.length ≤ 1048576) (hs : ∀ s ∈ ps, s.size ≤ 1048576) :
    Calls Tryz.prog 144 #[.agg #[.slice a ps.length c, .slice b ws.length d], .int .i64 block] w fun e w' => ∃ v, e = .returned (.tuple #[v, .bool (clearF ps ws block)]) ∧ ChipOwn w' w.heap.size v (clearP ps ws block) (clearW ps ws block) ∧ Below w.heap.size w w' := by
  have hmf : ∀ (fn : Fn) (first cap : Array Value) (w : World), (Instr.makeFunc fn first cap).run Tryz.prog w = .ok (.func fn first cap) w := fun _ _ _ _ => rfl
  obtain ⟨W, hW⟩ : ∃ W, W = (w.alloc (Obj.cells #[.slice a ps.length c, .slice b ws.length d] 32)).alloc (Obj.cells #[.slice none 0 0, .slice none 0 0] 32) := ⟨_, rfl⟩
  have hbW : Below w.heap.size w W := by subst hW; exact ((Below.refl _ _).alloc (Nat.le_refl _) _).alloc (by simp) _
  have cW : W.cell? ⟨w.heap.size + 1, 0, none⟩ = some (.slice none 0 0) ∧ W.cell? ⟨w.heap.size + 1, 1, none⟩ = some (.slice none 0 0) ∧ W.frozen? ⟨w.heap.size + 1, 0, none⟩ = false ∧ W.frozen? ⟨w.heap.size + 1, 1, none⟩ = false ∧ w.heap.size + 1 < W.heap.size := by
    subst hW; refine ⟨?_, ?_, ?_, ?_, ?_⟩ <;> simp [go_sem]
  go_enter Tryz.func144, Tryz.ntmps144
  go_wp2_with fail
  rw [← hW]
  clear hW
  refine (actClear_fn a b ps ws c d block 6 _ (hp.below hbW) (hw.below hbW) hl hm hs (by decide) (by decide)).mono ?_
  rintro e w1 ⟨v, rfl, hown, hb1⟩
  obtain ⟨a1, k1, b1, l1, rfl, -⟩ := own_open hown
  have j1 := (hb1.cell (p := ⟨w.heap.size + 1, 0, none⟩) (by show _ < _; exact cW.2.2.2.2)).trans cW.1
  have j2 := (hb1.cell (p := ⟨w.heap.size + 1, 1, none⟩) (by show _ < _; exact cW.2.2.2.2)).trans cW.2.1
  have f1 := (hb1.frozen (p := ⟨w.heap.size + 1, 0, none⟩) (by show _ < _; exact cW.2.2.2.2)).trans cW.2.2.1
  have f2 := (hb1.frozen (p := ⟨w.heap.size + 1, 1, none⟩) (by show _ < _; exact cW.2.2.2.2)).trans cW.2.2.2.1
  have hbw1 := after hbW hb1
  have hlt := cW.2.2.2.2
  have HOWN := hide hown
  clear hb1 hbW cW hp hw hs hown
  obtain ⟨F, hF⟩ : ∃ F, F = clearF ps ws block := ⟨_, rfl⟩
  rw [← hF]
  have HF := hide hF
  clear hF
  go_wp2
  refine bodyPost_ret (v := .tuple #[.agg #[.slice a1 (halfQ ps ws block 6).length k1, .slice b1 (clearW ps ws block).length l1], .bool F]) (by simp [results, Tryz.results144, go_sem, j1, j2]) rfl ⟨.agg #[.slice a1 (halfQ ps ws block 6).length k1, .slice b1 (clearW ps ws block).length l1], by rw [HF.out], ?_, (hbw1.setCell (by show _ ≤ _; simp) _).setCell (by show _ ≤ _; simp) _⟩
  exact own_mono (own_set (own_set HOWN.out (show w.heap.size + 1 < W.heap.size by omega) _) (show w.heap.size + 1 < W.heap.size by omega) _) (show w.heap.size ≤ W.heap.size by omega)

end Go.Proofs.YtdicjbabnknjhaaGreat
