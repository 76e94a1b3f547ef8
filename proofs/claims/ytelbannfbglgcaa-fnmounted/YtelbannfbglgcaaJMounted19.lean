/-
  Contract of the program's (clearing).on: the first pages of a block of the board are cleared, its number is one more.
  Contract of the program's act: one act on a copy of a chip.
  Contract of the program's (burning).on: a clear page of the board gets the text.
-/
import Derived.Test.YtelbannfbglgcaaJMounted17
import Derived.Test.YtelbannfbglgcaaJMounted8
import Derived.RegionTactic
import Derived.BigRegion
import Derived.Deep.QuietTactic
import Derived.BigQuiet
import Derived.Test.YtelbannfbglgcaaJMounted18
import Derived.Test.YtelbannfbglgcaaJMounted13
import Derived.Deep.WholeRow
namespace Go.Proofs.Ytelbannfbglgcaa
open Go.RowKit

/-- The block is there, and can be cleared once more. -/
def onClear (ws : List Int) (block : Int) : Prop := 0 ≤ block ∧ block < 10 ∧ ws[block.toNat]?.getD 0 < 1000000000
/-- What the pages and the numbers are then. -/
noncomputable def clearPs (ps : List ByteArray) (ws : List Int) (block n : Int) : List ByteArray := open Classical in if onClear ws block then wipeP ps block.toNat n.toNat else ps
noncomputable def clearWs (ws : List Int) (block : Int) : List Int := open Classical in if onClear ws block then ws.set block.toNat (ws[block.toNat]?.getD 0 + 1) else ws
theorem clearPs_yes {ps : List ByteArray} {ws : List Int} {block n : Int} (h : onClear ws block) : clearPs ps ws block n = wipeP ps block.toNat n.toNat := by simp [clearPs, h]
theorem clearPs_no {ps : List ByteArray} {ws : List Int} {block n : Int} (h : ¬ onClear ws block) : clearPs ps ws block n = ps := by simp [clearPs, h]
theorem clearWs_yes {ws : List Int} {block : Int} (h : onClear ws block) : clearWs ws block = ws.set block.toNat (ws[block.toNat]?.getD 0 + 1) := by simp [clearWs, h]
theorem clearWs_no {ws : List Int} {block : Int} (h : ¬ onClear ws block) : clearWs ws block = ws := by simp [clearWs, h]
theorem clearPs_len (ps : List ByteArray) (ws : List Int) (block n : Int) : (clearPs ps ws block n).length = ps.length := by unfold clearPs; split <;> simp [wipeP_len]
theorem clearWs_len (ws : List Int) (block : Int) : (clearWs ws block).length = ws.length := by unfold clearWs; split <;> simp

set_option maxHeartbeats 3200000 in
theorem onClear_any (g : Nat) (ps : List ByteArray) (ws : List Int) (block n : Int) (w : World) (h : Board w g ps ws) (hl : ps.length = 60) (hm : ws.length = 10) (hws : ∀ y ∈ ws, 0 ≤ y) (hn0 : -9223372036854775808 ≤ n) (hn6 : n ≤ 6) :
    Calls Try.prog 65 #[.agg #[.int .i64 block, .int .i64 n], .pointer (some ⟨g, 0, none⟩)] w fun e w' => (∃ v, e = .returned v) ∧ Board w' g (clearPs ps ws block n) (clearWs ws block) ∧ OnlyIn w w' [some g] := by
  obtain ⟨W, hW⟩ : ∃ W, W = w.alloc (Obj.cells #[.int .i64 block, .int .i64 n] 88) := ⟨_, rfl⟩
  have hbW : Below w.heap.size w W := by subst hW; exact (Below.refl _ _).alloc (Nat.le_refl _) _
  have c0 : W.cell? ⟨w.heap.size, 0, none⟩ = some (.int .i64 block) := by subst hW; simp
  have c1 : W.cell? ⟨w.heap.size, 1, none⟩ = some (.int .i64 n) := by subst hW; simp
  have hB := h.below hbW
  have hg := h.lt
  have hsW : w.heap.size < W.heap.size := by subst hW; simp
  have hO : OnlyIn w W [some g] := OnlyIn.of_below hbW _
  clear h hbW
  by_cases h1 : block < 0
  · have t1 : decide (block < 0) = true := by simpa using h1
    have hn : ¬ onClear ws block := fun h => by have := h.1; omega
    rw [clearPs_no hn, clearWs_no hn]
    clear hn
    go_enter Try.func65, Try.ntmps65
    go_wp2_with fail
    rw [← hW]
    clear hW
    go_quiet (fail)
    all_goals go_wp2
    all_goals exact bodyPost_ret (by simp [results, Try.results65]; rfl) rfl ⟨⟨_, rfl⟩, hB, hO.drewN _⟩
  · by_cases h2 : 10 ≤ block
    · have t1 : decide (block < 0) = false := by simpa using h1
      have t2 : decide (10 ≤ block) = true := by simpa using h2
      have hn : ¬ onClear ws block := fun h => by have := h.2.1; omega
      rw [clearPs_no hn, clearWs_no hn]
      clear hn
      go_enter Try.func65, Try.ntmps65
      go_wp2_with fail
      rw [← hW]
      clear hW
      go_quiet (fail)
      all_goals go_wp2
      all_goals exact bodyPost_ret (by simp [results, Try.results65]; rfl) rfl ⟨⟨_, rfl⟩, hB, hO.drewN _⟩
    · obtain ⟨P, rfl⟩ : ∃ P : Nat, block = P := ⟨block.toNat, by omega⟩
      have hP : P < ws.length := by omega
      have t1 : decide ((P : Int) < 0) = false := by simp
      have t2 : decide (10 ≤ (P : Int)) = false := by simp; omega
      have t3 : (0 : Int) ≤ (P : Int) := by omega
      have t4 : (P : Int) < 10 := by omega
      obtain ⟨x, hx⟩ : ∃ x, ws[P]? = some x := ⟨_, List.getElem?_eq_getElem hP⟩
      have hc : W.cell? ⟨g, 60 + P, none⟩ = some (.int .i64 x) := by rw [hB.cell, bd_wear hl, List.getElem?_map, hx]; rfl
      have hf : W.frozen? ⟨g, 60 + P, none⟩ = false := hB.frozen _
      have HX := hide hx
      clear hx
      by_cases hx9 : 1000000000 ≤ x
      · have t5 : decide (1000000000 ≤ x) = true := by simpa using hx9
        have hn : ¬ onClear ws P := fun h => by have := h.2.2; rw [Int.toNat_natCast, HX.out] at this; simp at this; omega
        rw [clearPs_no hn, clearWs_no hn]
        clear hn
        go_enter Try.func65, Try.ntmps65
        go_wp2_with fail
        rw [← hW]
        clear hW
        go_quiet (fail)
        all_goals go_wp2
        all_goals exact bodyPost_ret (by simp [results, Try.results65]; rfl) rfl ⟨⟨_, rfl⟩, hB, hO.drewN _⟩
      · have t5 : decide (1000000000 ≤ x) = false := by simpa using hx9
        have hy : onClear ws P := ⟨by omega, by omega, by rw [Int.toNat_natCast, HX.out]; simp; omega⟩
        rw [clearPs_yes hy, clearWs_yes hy, Int.toNat_natCast, HX.out]
        clear hy
        go_enter Try.func65, Try.ntmps65
        go_wp2_with fail
        rw [← hW]
        clear hW
        go_quiet (fail)
        obtain ⟨V, hV⟩ : ∃ V, V = W.drewN nq := ⟨_, rfl⟩
        have e0 : V.cell? ⟨w.heap.size, 0, none⟩ = some (.int .i64 P) := by rw [hV]; exact c0
        have e1 : V.cell? ⟨w.heap.size, 1, none⟩ = some (.int .i64 n) := by rw [hV]; exact c1
        have hcV : V.cell? ⟨g, 60 + P, none⟩ = some (.int .i64 x) := by rw [hV]; exact hc
        have hfV : V.frozen? ⟨g, 60 + P, none⟩ = false := by rw [hV]; exact hf
        have hBV : Board V g ps ws := by rw [hV]; exact hB
        have hOV : OnlyIn w V [some g] := by rw [hV]; exact hO.drewN _
        rw [← hV]
        clear hV hc hf hB hO c0 c1
        have hB0 : Board (V.setCell ⟨g, 60 + P, none⟩ (.int .i64 (x + 1))).drew g (wipeP ps P 0) (ws.set P (x + 1)) := hBV.setWear hl P (x + 1)
        have hO0 : OnlyIn w (V.setCell ⟨g, 60 + P, none⟩ (.int .i64 (x + 1))).drew [some g] := by
          have := hOV.trans (OnlyIn.of_grown (grown_setB V g (60 + P) (.int .i64 (x + 1))))
          exact ⟨this.os, this.tape, this.output, this.size, fun i hi hn => this.block i hi (by simpa using hn)⟩
        have hgn : ¬ g = w.heap.size := by omega
        have hx0 : 0 ≤ x := hws x (List.mem_of_getElem? HX.out)
        have HHL := hide hl
        clear hBV hOV hl
        obtain ⟨U, hU⟩ : ∃ U, U = (V.setCell ⟨g, 60 + P, none⟩ (.int .i64 (x + 1))).drew := ⟨_, rfl⟩
        rw [← hU] at hB0 hO0
        obtain ⟨M, hM⟩ : ∃ M, M = n.toNat := ⟨_, rfl⟩
        have HM := hide hM
        have hM6 : M ≤ 6 := by omega
        have hP10 : P < 10 := by omega
        clear hM hws
        go_wp2_with fail
        go_region
        go_wp2
        rw [← hU]
        clear hU
        go_loopw [40] (fun i wr => ∃ j : Nat, j ≤ M ∧ i = .int .i64 j ∧ Board wr g (wipeP ps P j) (ws.set P (x + 1)) ∧ OnlyIn w wr [some g]) (fun i _ => M - (intOf i).toNat)
        case atStart => exact ⟨0, Nat.zero_le _, rfl, hB0, hO0⟩
        case round =>
          obtain ⟨j, hj, rfl, hBr, hOr⟩ := hrel
          by_cases hlt : j < M
          · have q1 : (j : Int) < n := by have := HM.out; omega
            have hjl : P * 6 + j < (wipeP ps P j).length := by rw [wipeP_len, HHL.out]; omega
            have hB' : Hid (Board (wr.setCell ⟨g, P * 6 + j, none⟩ (.string ⟨#[]⟩)) g (wipeP ps P (j + 1)) (ws.set P (x + 1))) := hBr.setPage hjl ByteArray.empty
            have hO' : Hid (OnlyIn w (wr.setCell ⟨g, P * 6 + j, none⟩ (.string ⟨#[]⟩)) [some g]) := by
              have := hOr.trans (OnlyIn.of_grown (grown_setB wr g (P * 6 + j) (.string ⟨#[]⟩)))
              exact ⟨this.os, this.tape, this.output, this.size, fun i hi hn => this.block i hi (by simpa using hn)⟩
            obtain ⟨u, hcu⟩ : ∃ u, wr.cell? ⟨g, P * 6 + j, none⟩ = some u := ⟨_, by rw [hBr.cell, bd_page hjl]; exact List.getElem?_eq_getElem (by simpa using hjl)⟩
            have hfu := hBr.frozen (P * 6 + j)
            have b1 : (0 : Int) ≤ (P : Int) * 6 + j := by omega
            have b2 : (P : Int) * 6 + j < 60 := by omega
            clear hBr hOr hjl
            go_wp2
            go_roundw
            case rel => exact ⟨j + 1, by omega, by go_num, hB'.out, hO'.out⟩
            case measure => simp [intOf]; omega
          · have q1 : ¬ (j : Int) < n := by have := HM.out; omega
            have HB : Hid (Board wr g (wipeP ps P n.toNat) (ws.set P (x + 1))) := by
              have hjM : j = n.toNat := by have := HM.out; omega
              rw [← hjM]; exact hBr
            clear hBr
            go_wp2
            go_end0
            exact ⟨⟨_, rfl⟩, HB.out, hOr⟩

end Go.Proofs.Ytelbannfbglgcaa

namespace Go.Proofs.Ytelbannfbglgcaa
open Go.RowKit

theorem setRow_alloc_at {w : World} {p : Nat} (h : p = w.heap.size) (c c' : Array Value) (t : TypeId) : (w.alloc (.cells c t)).setRow p c' = w.alloc (.cells c' t) := by
  subst h; exact World.setRow_alloc_new w c c' t

set_option maxHeartbeats 1600000 in
theorem act_bad (f : Nat) (x : Value) (a b : Option Addr) (ps : List ByteArray) (ws : List Int) (c d : Nat) (w : World) (hp : Rd w a (vsString ps)) (hw : Rd w b (vsInt ws)) (hl : ps.length ≤ 1048576) (hm : ws.length ≤ 1048576) (hs : ∀ s ∈ ps, s.size ≤ 1048576) (hok : ¬ chipOkP ps ws) :
    Calls Try.prog 60 #[.agg #[.slice a ps.length c, .slice b ws.length d], .func (.func f) #[x] #[]] w fun e w' => ∃ v, e = .returned (.tuple #[v, .bool false]) ∧ ChipOwn w' w.heap.size v [] [] ∧ Below w.heap.size w w' := by
  obtain ⟨W, hW⟩ : ∃ W, W = (w.alloc (Obj.cells #[.slice a ps.length c, .slice b ws.length d] 27)).alloc (Obj.cells #[.slice none 0 0, .slice none 0 0] 27) := ⟨_, rfl⟩
  have hbW : Below w.heap.size w W := by subst hW; exact ((Below.refl _ _).alloc (Nat.le_refl _) _).alloc (by simp) _
  have cW : W.cell? ⟨w.heap.size + 1, 0, none⟩ = some (.slice none 0 0) ∧ W.cell? ⟨w.heap.size + 1, 1, none⟩ = some (.slice none 0 0) ∧ W.frozen? ⟨w.heap.size + 1, 0, none⟩ = false ∧ W.frozen? ⟨w.heap.size + 1, 1, none⟩ = false ∧ w.heap.size + 1 < W.heap.size := by
    subst hW; refine ⟨?_, ?_, ?_, ?_, ?_⟩ <;> simp [go_sem]
  have hB := chipOkB_false hok
  go_enter Try.func60, Try.ntmps60
  go_wp2_with fail
  rw [← hW]
  clear hW
  refine (implChipOk_any a b ps ws c d _ (hp.below hbW) (hw.below hbW) hl hm hs).mono ?_
  rw [hB]
  rintro e w1 ⟨rfl, hb1⟩
  have k1 := (hb1.cell (p := ⟨w.heap.size + 1, 0, none⟩) (by show _ < _; exact cW.2.2.2.2)).trans cW.1
  have k2 := (hb1.cell (p := ⟨w.heap.size + 1, 1, none⟩) (by show _ < _; exact cW.2.2.2.2)).trans cW.2.1
  have f1 := (hb1.frozen (p := ⟨w.heap.size + 1, 0, none⟩) (by show _ < _; exact cW.2.2.2.2)).trans cW.2.2.1
  have f2 := (hb1.frozen (p := ⟨w.heap.size + 1, 1, none⟩) (by show _ < _; exact cW.2.2.2.2)).trans cW.2.2.2.1
  have hbw1 := after hbW hb1
  clear hb1 hbW cW hp hw hs hok hB
  go_wp2
  exact bodyPost_ret (v := .tuple #[.agg #[.slice none 0 0, .slice none 0 0], .bool false]) (by simp [results, Try.results60, go_sem, k1, k2]) rfl ⟨_, rfl, own_zero _ _, (hbw1.setCell (by show _ ≤ _; simp) _).setCell (by show _ ≤ _; simp) _⟩

/-- One operation of a region is taken first; 'd': the slot that it writes. -/
theorem take_at {P : Program} {ops : Array Oper} {Q : Exit → Act → World → Prop} {md : Region.Mode} {S : World → Prop} {i : Nat} (d : Option Tmp) {oi : Oper} {v : Value} {fuel : Nat} {listed : Array Bool} {a : Act} {w : World} (hi : ops[i]? = some oi) (hd : oi.dst = d)
    (hs : Region.noSelect ops = true) (hf : Region.free md ops listed i = true) (hr : (Region.ready md ops listed).contains i = true)
    (hQ : ∀ c a w, Q (.panic c) (a.put oi.dst v) w → Q (.panic c) a w) (hy : YieldsIf P ops S oi v a) (hS : S w)
    (h : wpAnyH P md ops Q S fuel (listed.setIfInBounds i true) (a.put d v) w) : wpAnyH P md ops Q S (fuel + 1) listed a w := by
  subst hd
  exact wpAnyH_take hi hs hf hr hQ hy hS h

theorem range_set {w : World} {b o p k : Nat} {cs : List Value} (h : w.rangeAt b o cs) (hne : b ≠ p) (v : Value) : (w.setCell ⟨p, k, none⟩ v).rangeAt b o cs := by
  intro j u hu
  rw [World.cell?_setCell_other _ _ _ _ (by intro e; injection e with e1; exact hne e1.symm)]
  exact h j u hu
theorem range_pages {w : World} {g : Nat} {ps : List ByteArray} {ws : List Int} (h : Board w g ps ws) : w.rangeAt g 0 (vsString ps) := by
  intro j v hv
  have := rd_cells h.pages j v hv
  rw [add_at] at this
  exact this
theorem range_wear {w : World} {g : Nat} {ps : List ByteArray} {ws : List Int} (h : Board w g ps ws) (hl : ps.length = 60) : w.rangeAt g 60 (vsInt ws) := by
  intro j v hv
  have := rd_cells (h.wear hl) j v hv
  rw [add_at] at this
  exact this

/-- What an act does to a board. -/
def Acts (f : Nat) (x : Value) (ps qs : List ByteArray) (ws us : List Int) : Prop :=
  ∀ (w : World) (g : Nat), Board w g ps ws → Calls Try.prog f #[x, .pointer (some ⟨g, 0, none⟩)] w fun e w' => (∃ v, e = .returned v) ∧ Board w' g qs us ∧ OnlyIn w w' [some g]

set_option maxHeartbeats 3200000 in
theorem act_okBurn (x : Value) (a b : Option Addr) (ps qs : List ByteArray) (ws us : List Int) (c d : Nat) (w : World) (hp : Rd w a (vsString ps)) (hw : Rd w b (vsInt ws)) (hok : chipOkP ps ws) (hact : Acts 61 x ps qs ws us) (hql : qs.length = 60) (hul : us.length = 10) :
    Calls Try.prog 60 #[.agg #[.slice a ps.length c, .slice b ws.length d], .func (.func 61) #[x] #[]] w fun e w' => ∃ v, e = .returned (.tuple #[v, .bool (decide (qs ≠ ps ∨ us ≠ ws))]) ∧ ChipOwn w' w.heap.size v qs us ∧ Below w.heap.size w w' := by
  obtain ⟨hz, _⟩ := zero_of_info infoBoard
  obtain ⟨W, hW⟩ : ∃ W, W = (w.alloc (Obj.cells #[.slice a ps.length c, .slice b ws.length d] 27)).alloc (Obj.cells #[.slice none 0 0, .slice none 0 0] 27) := ⟨_, rfl⟩
  have hbW : Below w.heap.size w W := by subst hW; exact ((Below.refl _ _).alloc (Nat.le_refl _) _).alloc (by simp) _
  have cW : W.cell? ⟨w.heap.size, 0, none⟩ = some (.slice a ps.length c) ∧ W.cell? ⟨w.heap.size, 1, none⟩ = some (.slice b ws.length d) := by
    subst hW; refine ⟨?_, ?_⟩ <;> simp [go_sem]
  have hR : W.heap[w.heap.size + 1]? = some (.cells #[.slice none 0 0, .slice none 0 0] 27 (0, 0)) := by subst hW; exact heap_alloc2_new _ _ _
  have hsW : w.heap.size + 1 < W.heap.size := by subst hW; simp
  have hB := chipOkB_true hok
  obtain ⟨hl, hm, hs8, hx⟩ := hok
  have HL : Hid (ps.length = 60 ∧ ws.length = 10 ∧ qs.length = 60 ∧ us.length = 10) := ⟨hl, hm, hql, hul⟩
  have hl1 : ps.length ≤ 60 := by omega
  have hm1 : ws.length ≤ 10 := by omega
  have HI : Hid ((Try.prog.info? 93).map (·.size) = some (bd ps ws).size) := by show _ = _; rw [szBoard, bd_size, hl, hm]
  have HO : Hid ((bd ps0 ws0).size = (bd ps ws).size) := by show _ = _; rw [bd_size, bd_size, hl, hm, ps0_len, ws0_len]
  have HA := hide hact
  have HR := hide hR
  clear hl hm hql hul hact hR
  go_enter Try.func60, Try.ntmps60
  go_wp2_with fail
  rw [← hW]
  clear hW
  refine (implChipOk_any a b ps ws c d _ (hp.below hbW) (hw.below hbW) (by omega) (by omega) (fun s h => by have := hs8 s h; omega)).mono ?_
  rw [hB]
  rintro e w1 ⟨rfl, hb1⟩
  have k1 := (hb1.cell (p := ⟨w.heap.size, 0, none⟩) (by show _ < _; simp; omega)).trans cW.1
  have k2 := (hb1.cell (p := ⟨w.heap.size, 1, none⟩) (by show _ < _; simp; omega)).trans cW.2
  have hbw1 := after hbW hb1
  have hs1 := hb1.size
  go_wp2_with fail
  refine (boardOf_any a b ps ws c d _ (hp.below hbw1) (hw.below hbw1) HL.out.1 HL.out.2.1).mono ?_
  rintro e w2 ⟨rfl, hb2⟩
  have hb12 := after hb1 hb2
  have hbw2 := after hbw1 hb2
  have HR2 : Hid (w2.heap[w.heap.size + 1]? = some (.cells #[.slice none 0 0, .slice none 0 0] 27 (0, 0))) := (hb12.block _ hsW).trans HR.out
  clear hbW cW hb1 hb2 k1 k2 hp hw hs8 hx hB HR
  obtain ⟨X, hX⟩ : ∃ X, X = bd ps ws := ⟨_, rfl⟩
  have HX := hide hX
  rw [← hX] at HI HO ⊢
  clear hX
  have HZ : Hid (X.all (·.oneCell') = true) := by show _ = _; rw [HX.out]; exact one_bd ps ws
  go_wp2_with (first
    | (refine wpList_store_row rfl 93 (.tmp 6) (.tmp 13) rfl w2.heap.size X rfl rfl 93 (bd ps0 ws0) (heap_alloc_last _ _) HI.out HO.out HZ.out ?_; rw [setRow_alloc_at rfl])
    | (refine wpList_load_row rfl 93 (.tmp 6) rfl w2.heap.size rfl 93 X (0, 0) _ (heap_alloc_last _ _) Try.underlying93 rfl HI.out ?_)
    | (refine wpList_store_row rfl 93 (.tmp 7) (.tmp 14) rfl (w2.heap.size + 1) X rfl rfl 93 (bd ps0 ws0) (heap_alloc2_new _ _ _) HI.out HO.out HZ.out ?_; rw [setRow_alloc_at (by simp)]))
  obtain ⟨V, hV⟩ : ∃ V, V = (w2.alloc (Obj.cells X 93)).alloc (Obj.cells X 93) := ⟨_, rfl⟩
  have hbV : Below w2.heap.size w2 V := by subst hV; exact ((Below.refl _ _).alloc (Nat.le_refl _) _).alloc (by simp) _
  have B1 : Board V w2.heap.size ps ws := by subst hV; rw [HX.out]; exact heap_alloc2_old _ _ _
  have B2 : Board V (w2.heap.size + 1) ps ws := by subst hV; rw [HX.out]; exact heap_alloc2_new _ _ _
  have HRV : Hid (V.heap[w.heap.size + 1]? = some (.cells #[.slice none 0 0, .slice none 0 0] 27 (0, 0))) := (hbV.block _ (Nat.lt_of_lt_of_le hsW hb12.size)).trans HR2.out
  have hsV : w2.heap.size + 1 < V.heap.size := by subst hV; simp
  have hsb := hb12.size
  rw [← hV]
  clear hV hz HI HO HZ HX HR2 hb12
  refine (HA.out V _ B2).mono ?_
  rintro e w4 ⟨⟨v, rfl⟩, B24, hO4⟩
  have B14 : Board w4 w2.heap.size ps ws := B1.other hO4 (by simp)
  have hbw4 : Below w.heap.size w w4 := (after hbw2 hbV).trans (hO4.below (Nat.le_of_lt (Nat.lt_of_le_of_lt (Nat.le_trans hbw2.size (Nat.le_add_right _ 1)) hsV)) (by intro k hk; simp at hk; have := hbw2.size; omega))
  have HR4 : Hid (w4.heap[w.heap.size + 1]? = some (.cells #[.slice none 0 0, .slice none 0 0] 27 (0, 0))) := (hO4.block _ (by omega) (by simp; omega)).trans HRV.out
  have hs4 : V.heap.size ≤ w4.heap.size := hO4.size
  obtain ⟨QP, hQP⟩ : ∃ L, L = vsString qs := ⟨_, rfl⟩
  obtain ⟨PP, hPP⟩ : ∃ L, L = vsString ps := ⟨_, rfl⟩
  obtain ⟨QU, hQU⟩ : ∃ L, L = vsInt us := ⟨_, rfl⟩
  obtain ⟨PU, hPU⟩ : ∃ L, L = vsInt ws := ⟨_, rfl⟩
  have i1 : (Try.prog.info? 90).map (·.size) = some QP.length := by rw [hQP, List.length_map, HL.out.2.2.1]; kernel_rfl
  have i2 : (Try.prog.info? 90).map (·.size) = some PP.length := by rw [hPP, List.length_map, HL.out.1]; kernel_rfl
  have i3 : (Try.prog.info? 91).map (·.size) = some QU.length := by rw [hQU, List.length_map, HL.out.2.2.2]; kernel_rfl
  have i4 : (Try.prog.info? 91).map (·.size) = some PU.length := by rw [hPU, List.length_map, HL.out.2.1]; kernel_rfl
  have u1 := Try.underlying90
  have u2 := Try.underlying91
  have HS : Hid (∀ u, Below w4.heap.size w4 u → u.rangeAt (w2.heap.size + 1) 0 QP ∧ u.rangeAt w2.heap.size 0 PP ∧ u.rangeAt (w2.heap.size + 1) 60 QU ∧ u.rangeAt w2.heap.size 60 PU) := by
    intro u hu
    have b1 := B14.below hu
    have b2 := B24.below hu
    rw [hQP, hPP, hQU, hPU]
    exact ⟨range_pages b2, range_pages b1, range_wear b2 HL.out.2.2.1, range_wear b1 HL.out.1⟩
  have hE : ∀ w, (Op.equalIn 10000 90 (.agg QP.toArray) (.agg PP.toArray)).run Try.prog w = .ok (decide (qs = ps)) w := by intro w; rw [hQP, hPP]; exact equal_pages w HL.out.2.2.1 HL.out.1
  have hF : ∀ w, (Op.equalIn 10000 91 (.agg QU.toArray) (.agg PU.toArray)).run Try.prog w = .ok (decide (us = ws)) w := by intro w; rw [hQU, hPU]; exact equal_wear w HL.out.2.2.2 HL.out.2.1
  clear hQP hPP hQU hPU B1 B2 hbV hO4 HRV hbw2
  have HB24 := hide B24
  have HBW4 := hide hbw4
  clear B24 B14 hbw4
  obtain ⟨D, hD⟩ : ∃ D, D = decide (us = ws) := ⟨_, rfl⟩
  rw [← hD] at hF
  have HD := hide hD
  clear hD
  by_cases hq : qs = ps
  · have hq' : decide (qs = ps) = true := by simp [hq]
    rw [hq'] at hE
    have HQ := hide hq
    clear hq hq'
    go_wp2_with fail
    refine wp_region_held_drew (S := fun w' => w'.rangeAt (w2.heap.size + 1) 0 QP ∧ w'.rangeAt w2.heap.size 0 PP ∧ w'.rangeAt (w2.heap.size + 1) 60 QU ∧ w'.rangeAt w2.heap.size 60 PU) (by kernel_rfl) (HS.out _ (after_drew (Below.refl _ _) 1)) (fun hHeld => ?_)
    refine take_at (i := 1) (some 18) (v := .pointer (some ⟨w2.heap.size + 1, 0, none⟩)) rfl rfl (by kernel_rfl) (by kernel_rfl) (by kernel_rfl) (fun _ _ _ h => h) (Or.inl ⟨by rfl, fun w _ => by go_simp⟩) (by assumption) ?_
    simp only [Act.put, List.setIfInBounds_toArray, List.set_cons_zero, List.set_cons_succ]
    refine take_at (i := 2) (some 19) (v := .agg QP.toArray) rfl rfl (by kernel_rfl) (by kernel_rfl) (by kernel_rfl) (fun _ _ _ h => h) (yieldsIf_load_mid (by rfl) _ _ rfl (w2.heap.size + 1) 0 rfl QP _ (fun w h => h.1) u1 rfl i1) (by assumption) ?_
    simp only [Act.put, List.setIfInBounds_toArray, List.set_cons_zero, List.set_cons_succ]
    refine take_at (i := 3) (some 20) (v := .pointer (some ⟨w2.heap.size, 0, none⟩)) rfl rfl (by kernel_rfl) (by kernel_rfl) (by kernel_rfl) (fun _ _ _ h => h) (Or.inl ⟨by rfl, fun w _ => by go_simp⟩) (by assumption) ?_
    simp only [Act.put, List.setIfInBounds_toArray, List.set_cons_zero, List.set_cons_succ]
    refine take_at (i := 4) (some 21) (v := .agg PP.toArray) rfl rfl (by kernel_rfl) (by kernel_rfl) (by kernel_rfl) (fun _ _ _ h => h) (yieldsIf_load_mid (by rfl) _ _ rfl (w2.heap.size) 0 rfl PP _ (fun w h => h.2.1) u1 rfl i2) (by assumption) ?_
    simp only [Act.put, List.setIfInBounds_toArray, List.set_cons_zero, List.set_cons_succ]
    refine take_at (i := 5) (some 22) (v := .bool false) rfl rfl (by kernel_rfl) (by kernel_rfl) (by kernel_rfl) (fun _ _ _ h => h) (Or.inl ⟨by rfl, fun w _ => by go_simp⟩) (by assumption) ?_
    simp only [Act.put, List.setIfInBounds_toArray, List.set_cons_zero, List.set_cons_succ]
    refine wpAnyH_ready (rs := [0]) (by kernel_rfl) (by simp) ?_
    refine AllReadyH.cons rfl (fun K hK => ?_) AllReadyH.nil
    go_simp
    refine (chip_any (w2.heap.size + 1) qs us w4.drew HB24.out HL.out.2.2.1 HL.out.2.2.2).mono ?_
    rintro e w5 ⟨vv, rfl, hown, hb5⟩
    obtain ⟨g, kg, g', kg', rfl, ho1, ho2, hne, hg1, hg2, hg3, hg4⟩ := own_form hown (by rw [HL.out.2.2.1]; decide) (by rw [HL.out.2.2.2]; decide)
    have hdr : Below w4.heap.size w4 w4.drew := after_drew (Below.refl _ _) 1
    have hb45 : Below w4.heap.size w4 w5 := after hdr hb5
    have HOWN := hide hown
    have HB5 := hide hb45
    clear hown hb5 hb45 ho1 ho2 hdr
    refine hK.out _ _ (HS.out _ HB5.out) (fun hHeld => ?_)
    clear hK K
    refine take_at (i := 6) (some 23) (v := .bool false) rfl rfl (by kernel_rfl) (by kernel_rfl) (by kernel_rfl) (fun _ _ _ h => h) (Or.inl ⟨by rfl, fun w _ => by go_simp⟩) (by assumption) ?_
    simp only [Act.put, List.setIfInBounds_toArray, List.set_cons_zero, List.set_cons_succ]
    refine take_at (i := 7) (some 24) (v := .pointer (some ⟨w2.heap.size + 1, 60, none⟩)) rfl rfl (by kernel_rfl) (by kernel_rfl) (by kernel_rfl) (fun _ _ _ h => h) (Or.inl ⟨by rfl, fun w _ => by go_simp⟩) (by assumption) ?_
    simp only [Act.put, List.setIfInBounds_toArray, List.set_cons_zero, List.set_cons_succ]
    refine take_at (i := 8) (some 25) (v := .agg QU.toArray) rfl rfl (by kernel_rfl) (by kernel_rfl) (by kernel_rfl) (fun _ _ _ h => h) (yieldsIf_load_mid (by rfl) _ _ rfl (w2.heap.size + 1) 60 rfl QU _ (fun w h => h.2.2.1) u2 rfl i3) (by assumption) ?_
    simp only [Act.put, List.setIfInBounds_toArray, List.set_cons_zero, List.set_cons_succ]
    refine take_at (i := 9) (some 26) (v := .pointer (some ⟨w2.heap.size, 60, none⟩)) rfl rfl (by kernel_rfl) (by kernel_rfl) (by kernel_rfl) (fun _ _ _ h => h) (Or.inl ⟨by rfl, fun w _ => by go_simp⟩) (by assumption) ?_
    simp only [Act.put, List.setIfInBounds_toArray, List.set_cons_zero, List.set_cons_succ]
    refine take_at (i := 10) (some 27) (v := .agg PU.toArray) rfl rfl (by kernel_rfl) (by kernel_rfl) (by kernel_rfl) (fun _ _ _ h => h) (yieldsIf_load_mid (by rfl) _ _ rfl (w2.heap.size) 60 rfl PU _ (fun w h => h.2.2.2) u2 rfl i4) (by assumption) ?_
    simp only [Act.put, List.setIfInBounds_toArray, List.set_cons_zero, List.set_cons_succ]
    refine take_at (i := 11) (some 28) (v := .bool (!D)) rfl rfl (by kernel_rfl) (by kernel_rfl) (by kernel_rfl) (fun _ _ _ h => h) (Or.inl ⟨by rfl, fun w _ => by go_simp⟩) (by assumption) ?_
    simp only [Act.put, List.setIfInBounds_toArray, List.set_cons_zero, List.set_cons_succ]
    refine take_at (i := 12) (some 29) (v := .bool (!D)) rfl rfl (by kernel_rfl) (by kernel_rfl) (by kernel_rfl) (fun _ _ _ h => h) (Or.inl ⟨by rfl, fun w _ => by go_simp⟩) (by assumption) ?_
    simp only [Act.put, List.setIfInBounds_toArray, List.set_cons_zero, List.set_cons_succ]
    have HR5 : w5.heap[w.heap.size + 1]? = some (.cells #[.slice none 0 0, .slice none 0 0] 27 (0, 0)) := (HB5.out.block _ (by omega)).trans HR4.out
    have z0 : w5.cell? ⟨w.heap.size + 1, 0, none⟩ = some (.slice none 0 0) := by rw [cell_of_row w5 _ _ _ _ _ HR5]; rfl
    have z1 : w5.cell? ⟨w.heap.size + 1, 1, none⟩ = some (.slice none 0 0) := by rw [cell_of_row w5 _ _ _ _ _ HR5]; rfl
    have y0 : w5.frozen? ⟨w.heap.size + 1, 0, none⟩ = false := frozen_of_row w5 _ _ _ _ HR5
    have y1 : w5.frozen? ⟨w.heap.size + 1, 1, none⟩ = false := frozen_of_row w5 _ _ _ _ HR5
    clear HR5
    refine wpAnyH_ready (rs := [13]) (by kernel_rfl) (by simp) ?_
    refine AllReadyH.cons rfl (fun K hK => ?_) AllReadyH.nil
    go_simp
    refine hK.out _ _ ⟨range_set (range_set hHeld.1 (by omega) _) (by omega) _, range_set (range_set hHeld.2.1 (by omega) _) (by omega) _, range_set (range_set hHeld.2.2.1 (by omega) _) (by omega) _, range_set (range_set hHeld.2.2.2 (by omega) _) (by omega) _⟩ (fun hHeld => ?_)
    clear hK K
    refine take_at (i := 14) (some 5) (v := .bool (!D)) rfl rfl (by kernel_rfl) (by kernel_rfl) (by kernel_rfl) (fun _ _ _ h => h) (Or.inl ⟨by rfl, fun w _ => by go_simp⟩) (by assumption) ?_
    simp only [Act.put, List.setIfInBounds_toArray, List.set_cons_zero, List.set_cons_succ]
    refine wpAnyH_done (by kernel_rfl) ?_ _
    clear hHeld
    go_wp2
    refine bodyPost_ret (v := .tuple #[.agg #[.slice (some ⟨g, 0, none⟩) qs.length kg, .slice (some ⟨g', 0, none⟩) us.length kg'], .bool (!D)]) (by simp [results, Try.results60, go_sem, z0, z1]) rfl ⟨.agg #[.slice (some ⟨g, 0, none⟩) qs.length kg, .slice (some ⟨g', 0, none⟩) us.length kg'], ?_, ?_, ?_⟩
    · have hb : (!D) = decide (qs ≠ ps ∨ us ≠ ws) := by rw [HD.out]; simp [HQ.out]
      rw [hb]
    · exact own_mono (own_set (own_set HOWN.out (show w.heap.size + 1 < w4.heap.size by omega) _) (show w.heap.size + 1 < w4.heap.size by omega) _) (show w.heap.size ≤ w4.heap.size by omega)
    · exact ((HBW4.out.trans (HB5.out.mono HBW4.out.size)).setCell (by show _ ≤ _; simp) _).setCell (by show _ ≤ _; simp) _
  · have hq' : decide (qs = ps) = false := by simp [hq]
    rw [hq'] at hE
    have HQ := hide hq
    clear hq hq'
    go_wp2_with fail
    refine wp_region_held_drew (S := fun w' => w'.rangeAt (w2.heap.size + 1) 0 QP ∧ w'.rangeAt w2.heap.size 0 PP ∧ w'.rangeAt (w2.heap.size + 1) 60 QU ∧ w'.rangeAt w2.heap.size 60 PU) (by kernel_rfl) (HS.out _ (after_drew (Below.refl _ _) 1)) (fun hHeld => ?_)
    refine take_at (i := 1) (some 18) (v := .pointer (some ⟨w2.heap.size + 1, 0, none⟩)) rfl rfl (by kernel_rfl) (by kernel_rfl) (by kernel_rfl) (fun _ _ _ h => h) (Or.inl ⟨by rfl, fun w _ => by go_simp⟩) (by assumption) ?_
    simp only [Act.put, List.setIfInBounds_toArray, List.set_cons_zero, List.set_cons_succ]
    refine take_at (i := 2) (some 19) (v := .agg QP.toArray) rfl rfl (by kernel_rfl) (by kernel_rfl) (by kernel_rfl) (fun _ _ _ h => h) (yieldsIf_load_mid (by rfl) _ _ rfl (w2.heap.size + 1) 0 rfl QP _ (fun w h => h.1) u1 rfl i1) (by assumption) ?_
    simp only [Act.put, List.setIfInBounds_toArray, List.set_cons_zero, List.set_cons_succ]
    refine take_at (i := 3) (some 20) (v := .pointer (some ⟨w2.heap.size, 0, none⟩)) rfl rfl (by kernel_rfl) (by kernel_rfl) (by kernel_rfl) (fun _ _ _ h => h) (Or.inl ⟨by rfl, fun w _ => by go_simp⟩) (by assumption) ?_
    simp only [Act.put, List.setIfInBounds_toArray, List.set_cons_zero, List.set_cons_succ]
    refine take_at (i := 4) (some 21) (v := .agg PP.toArray) rfl rfl (by kernel_rfl) (by kernel_rfl) (by kernel_rfl) (fun _ _ _ h => h) (yieldsIf_load_mid (by rfl) _ _ rfl (w2.heap.size) 0 rfl PP _ (fun w h => h.2.1) u1 rfl i2) (by assumption) ?_
    simp only [Act.put, List.setIfInBounds_toArray, List.set_cons_zero, List.set_cons_succ]
    refine take_at (i := 5) (some 22) (v := .bool true) rfl rfl (by kernel_rfl) (by kernel_rfl) (by kernel_rfl) (fun _ _ _ h => h) (Or.inl ⟨by rfl, fun w _ => by go_simp⟩) (by assumption) ?_
    simp only [Act.put, List.setIfInBounds_toArray, List.set_cons_zero, List.set_cons_succ]
    refine wpAnyH_ready (rs := [0]) (by kernel_rfl) (by simp) ?_
    refine AllReadyH.cons rfl (fun K hK => ?_) AllReadyH.nil
    go_simp
    refine (chip_any (w2.heap.size + 1) qs us w4.drew HB24.out HL.out.2.2.1 HL.out.2.2.2).mono ?_
    rintro e w5 ⟨vv, rfl, hown, hb5⟩
    obtain ⟨g, kg, g', kg', rfl, ho1, ho2, hne, hg1, hg2, hg3, hg4⟩ := own_form hown (by rw [HL.out.2.2.1]; decide) (by rw [HL.out.2.2.2]; decide)
    have hdr : Below w4.heap.size w4 w4.drew := after_drew (Below.refl _ _) 1
    have hb45 : Below w4.heap.size w4 w5 := after hdr hb5
    have HOWN := hide hown
    have HB5 := hide hb45
    clear hown hb5 hb45 ho1 ho2 hdr
    refine hK.out _ _ (HS.out _ HB5.out) (fun hHeld => ?_)
    clear hK K
    refine take_at (i := 6) (some 23) (v := .bool true) rfl rfl (by kernel_rfl) (by kernel_rfl) (by kernel_rfl) (fun _ _ _ h => h) (Or.inl ⟨by rfl, fun w _ => by go_simp⟩) (by assumption) ?_
    simp only [Act.put, List.setIfInBounds_toArray, List.set_cons_zero, List.set_cons_succ]
    refine take_at (i := 7) (some 24) (v := undef) rfl rfl (by kernel_rfl) (by kernel_rfl) (by kernel_rfl) (fun _ _ _ h => h) (Or.inr ⟨by rfl, rfl⟩) (by assumption) ?_
    simp only [Act.put, List.setIfInBounds_toArray, List.set_cons_zero, List.set_cons_succ]
    refine take_at (i := 8) (some 25) (v := undef) rfl rfl (by kernel_rfl) (by kernel_rfl) (by kernel_rfl) (fun _ _ _ h => h) (Or.inr ⟨by rfl, rfl⟩) (by assumption) ?_
    simp only [Act.put, List.setIfInBounds_toArray, List.set_cons_zero, List.set_cons_succ]
    refine take_at (i := 9) (some 26) (v := undef) rfl rfl (by kernel_rfl) (by kernel_rfl) (by kernel_rfl) (fun _ _ _ h => h) (Or.inr ⟨by rfl, rfl⟩) (by assumption) ?_
    simp only [Act.put, List.setIfInBounds_toArray, List.set_cons_zero, List.set_cons_succ]
    refine take_at (i := 10) (some 27) (v := undef) rfl rfl (by kernel_rfl) (by kernel_rfl) (by kernel_rfl) (fun _ _ _ h => h) (Or.inr ⟨by rfl, rfl⟩) (by assumption) ?_
    simp only [Act.put, List.setIfInBounds_toArray, List.set_cons_zero, List.set_cons_succ]
    refine take_at (i := 11) (some 28) (v := undef) rfl rfl (by kernel_rfl) (by kernel_rfl) (by kernel_rfl) (fun _ _ _ h => h) (Or.inr ⟨by rfl, rfl⟩) (by assumption) ?_
    simp only [Act.put, List.setIfInBounds_toArray, List.set_cons_zero, List.set_cons_succ]
    refine take_at (i := 12) (some 29) (v := .bool true) rfl rfl (by kernel_rfl) (by kernel_rfl) (by kernel_rfl) (fun _ _ _ h => h) (Or.inl ⟨by rfl, fun w _ => by go_simp⟩) (by assumption) ?_
    simp only [Act.put, List.setIfInBounds_toArray, List.set_cons_zero, List.set_cons_succ]
    have HR5 : w5.heap[w.heap.size + 1]? = some (.cells #[.slice none 0 0, .slice none 0 0] 27 (0, 0)) := (HB5.out.block _ (by omega)).trans HR4.out
    have z0 : w5.cell? ⟨w.heap.size + 1, 0, none⟩ = some (.slice none 0 0) := by rw [cell_of_row w5 _ _ _ _ _ HR5]; rfl
    have z1 : w5.cell? ⟨w.heap.size + 1, 1, none⟩ = some (.slice none 0 0) := by rw [cell_of_row w5 _ _ _ _ _ HR5]; rfl
    have y0 : w5.frozen? ⟨w.heap.size + 1, 0, none⟩ = false := frozen_of_row w5 _ _ _ _ HR5
    have y1 : w5.frozen? ⟨w.heap.size + 1, 1, none⟩ = false := frozen_of_row w5 _ _ _ _ HR5
    clear HR5
    refine wpAnyH_ready (rs := [13]) (by kernel_rfl) (by simp) ?_
    refine AllReadyH.cons rfl (fun K hK => ?_) AllReadyH.nil
    go_simp
    refine hK.out _ _ ⟨range_set (range_set hHeld.1 (by omega) _) (by omega) _, range_set (range_set hHeld.2.1 (by omega) _) (by omega) _, range_set (range_set hHeld.2.2.1 (by omega) _) (by omega) _, range_set (range_set hHeld.2.2.2 (by omega) _) (by omega) _⟩ (fun hHeld => ?_)
    clear hK K
    refine take_at (i := 14) (some 5) (v := .bool true) rfl rfl (by kernel_rfl) (by kernel_rfl) (by kernel_rfl) (fun _ _ _ h => h) (Or.inl ⟨by rfl, fun w _ => by go_simp⟩) (by assumption) ?_
    simp only [Act.put, List.setIfInBounds_toArray, List.set_cons_zero, List.set_cons_succ]
    refine wpAnyH_done (by kernel_rfl) ?_ _
    clear hHeld
    go_wp2
    refine bodyPost_ret (v := .tuple #[.agg #[.slice (some ⟨g, 0, none⟩) qs.length kg, .slice (some ⟨g', 0, none⟩) us.length kg'], .bool true]) (by simp [results, Try.results60, go_sem, z0, z1]) rfl ⟨.agg #[.slice (some ⟨g, 0, none⟩) qs.length kg, .slice (some ⟨g', 0, none⟩) us.length kg'], ?_, ?_, ?_⟩
    · have hb : true = decide (qs ≠ ps ∨ us ≠ ws) := by simp [HQ.out]
      rw [hb]
    · exact own_mono (own_set (own_set HOWN.out (show w.heap.size + 1 < w4.heap.size by omega) _) (show w.heap.size + 1 < w4.heap.size by omega) _) (show w.heap.size ≤ w4.heap.size by omega)
    · exact ((HBW4.out.trans (HB5.out.mono HBW4.out.size)).setCell (by show _ ≤ _; simp) _).setCell (by show _ ≤ _; simp) _

set_option maxHeartbeats 3200000 in
theorem act_okClear (x : Value) (a b : Option Addr) (ps qs : List ByteArray) (ws us : List Int) (c d : Nat) (w : World) (hp : Rd w a (vsString ps)) (hw : Rd w b (vsInt ws)) (hok : chipOkP ps ws) (hact : Acts 65 x ps qs ws us) (hql : qs.length = 60) (hul : us.length = 10) :
    Calls Try.prog 60 #[.agg #[.slice a ps.length c, .slice b ws.length d], .func (.func 65) #[x] #[]] w fun e w' => ∃ v, e = .returned (.tuple #[v, .bool (decide (qs ≠ ps ∨ us ≠ ws))]) ∧ ChipOwn w' w.heap.size v qs us ∧ Below w.heap.size w w' := by
  obtain ⟨hz, _⟩ := zero_of_info infoBoard
  obtain ⟨W, hW⟩ : ∃ W, W = (w.alloc (Obj.cells #[.slice a ps.length c, .slice b ws.length d] 27)).alloc (Obj.cells #[.slice none 0 0, .slice none 0 0] 27) := ⟨_, rfl⟩
  have hbW : Below w.heap.size w W := by subst hW; exact ((Below.refl _ _).alloc (Nat.le_refl _) _).alloc (by simp) _
  have cW : W.cell? ⟨w.heap.size, 0, none⟩ = some (.slice a ps.length c) ∧ W.cell? ⟨w.heap.size, 1, none⟩ = some (.slice b ws.length d) := by
    subst hW; refine ⟨?_, ?_⟩ <;> simp [go_sem]
  have hR : W.heap[w.heap.size + 1]? = some (.cells #[.slice none 0 0, .slice none 0 0] 27 (0, 0)) := by subst hW; exact heap_alloc2_new _ _ _
  have hsW : w.heap.size + 1 < W.heap.size := by subst hW; simp
  have hB := chipOkB_true hok
  obtain ⟨hl, hm, hs8, hx⟩ := hok
  have HL : Hid (ps.length = 60 ∧ ws.length = 10 ∧ qs.length = 60 ∧ us.length = 10) := ⟨hl, hm, hql, hul⟩
  have hl1 : ps.length ≤ 60 := by omega
  have hm1 : ws.length ≤ 10 := by omega
  have HI : Hid ((Try.prog.info? 93).map (·.size) = some (bd ps ws).size) := by show _ = _; rw [szBoard, bd_size, hl, hm]
  have HO : Hid ((bd ps0 ws0).size = (bd ps ws).size) := by show _ = _; rw [bd_size, bd_size, hl, hm, ps0_len, ws0_len]
  have HA := hide hact
  have HR := hide hR
  clear hl hm hql hul hact hR
  go_enter Try.func60, Try.ntmps60
  go_wp2_with fail
  rw [← hW]
  clear hW
  refine (implChipOk_any a b ps ws c d _ (hp.below hbW) (hw.below hbW) (by omega) (by omega) (fun s h => by have := hs8 s h; omega)).mono ?_
  rw [hB]
  rintro e w1 ⟨rfl, hb1⟩
  have k1 := (hb1.cell (p := ⟨w.heap.size, 0, none⟩) (by show _ < _; simp; omega)).trans cW.1
  have k2 := (hb1.cell (p := ⟨w.heap.size, 1, none⟩) (by show _ < _; simp; omega)).trans cW.2
  have hbw1 := after hbW hb1
  have hs1 := hb1.size
  go_wp2_with fail
  refine (boardOf_any a b ps ws c d _ (hp.below hbw1) (hw.below hbw1) HL.out.1 HL.out.2.1).mono ?_
  rintro e w2 ⟨rfl, hb2⟩
  have hb12 := after hb1 hb2
  have hbw2 := after hbw1 hb2
  have HR2 : Hid (w2.heap[w.heap.size + 1]? = some (.cells #[.slice none 0 0, .slice none 0 0] 27 (0, 0))) := (hb12.block _ hsW).trans HR.out
  clear hbW cW hb1 hb2 k1 k2 hp hw hs8 hx hB HR
  obtain ⟨X, hX⟩ : ∃ X, X = bd ps ws := ⟨_, rfl⟩
  have HX := hide hX
  rw [← hX] at HI HO ⊢
  clear hX
  have HZ : Hid (X.all (·.oneCell') = true) := by show _ = _; rw [HX.out]; exact one_bd ps ws
  go_wp2_with (first
    | (refine wpList_store_row rfl 93 (.tmp 6) (.tmp 13) rfl w2.heap.size X rfl rfl 93 (bd ps0 ws0) (heap_alloc_last _ _) HI.out HO.out HZ.out ?_; rw [setRow_alloc_at rfl])
    | (refine wpList_load_row rfl 93 (.tmp 6) rfl w2.heap.size rfl 93 X (0, 0) _ (heap_alloc_last _ _) Try.underlying93 rfl HI.out ?_)
    | (refine wpList_store_row rfl 93 (.tmp 7) (.tmp 14) rfl (w2.heap.size + 1) X rfl rfl 93 (bd ps0 ws0) (heap_alloc2_new _ _ _) HI.out HO.out HZ.out ?_; rw [setRow_alloc_at (by simp)]))
  obtain ⟨V, hV⟩ : ∃ V, V = (w2.alloc (Obj.cells X 93)).alloc (Obj.cells X 93) := ⟨_, rfl⟩
  have hbV : Below w2.heap.size w2 V := by subst hV; exact ((Below.refl _ _).alloc (Nat.le_refl _) _).alloc (by simp) _
  have B1 : Board V w2.heap.size ps ws := by subst hV; rw [HX.out]; exact heap_alloc2_old _ _ _
  have B2 : Board V (w2.heap.size + 1) ps ws := by subst hV; rw [HX.out]; exact heap_alloc2_new _ _ _
  have HRV : Hid (V.heap[w.heap.size + 1]? = some (.cells #[.slice none 0 0, .slice none 0 0] 27 (0, 0))) := (hbV.block _ (Nat.lt_of_lt_of_le hsW hb12.size)).trans HR2.out
  have hsV : w2.heap.size + 1 < V.heap.size := by subst hV; simp
  have hsb := hb12.size
  rw [← hV]
  clear hV hz HI HO HZ HX HR2 hb12
  refine (HA.out V _ B2).mono ?_
  rintro e w4 ⟨⟨v, rfl⟩, B24, hO4⟩
  have B14 : Board w4 w2.heap.size ps ws := B1.other hO4 (by simp)
  have hbw4 : Below w.heap.size w w4 := (after hbw2 hbV).trans (hO4.below (Nat.le_of_lt (Nat.lt_of_le_of_lt (Nat.le_trans hbw2.size (Nat.le_add_right _ 1)) hsV)) (by intro k hk; simp at hk; have := hbw2.size; omega))
  have HR4 : Hid (w4.heap[w.heap.size + 1]? = some (.cells #[.slice none 0 0, .slice none 0 0] 27 (0, 0))) := (hO4.block _ (by omega) (by simp; omega)).trans HRV.out
  have hs4 : V.heap.size ≤ w4.heap.size := hO4.size
  obtain ⟨QP, hQP⟩ : ∃ L, L = vsString qs := ⟨_, rfl⟩
  obtain ⟨PP, hPP⟩ : ∃ L, L = vsString ps := ⟨_, rfl⟩
  obtain ⟨QU, hQU⟩ : ∃ L, L = vsInt us := ⟨_, rfl⟩
  obtain ⟨PU, hPU⟩ : ∃ L, L = vsInt ws := ⟨_, rfl⟩
  have i1 : (Try.prog.info? 90).map (·.size) = some QP.length := by rw [hQP, List.length_map, HL.out.2.2.1]; kernel_rfl
  have i2 : (Try.prog.info? 90).map (·.size) = some PP.length := by rw [hPP, List.length_map, HL.out.1]; kernel_rfl
  have i3 : (Try.prog.info? 91).map (·.size) = some QU.length := by rw [hQU, List.length_map, HL.out.2.2.2]; kernel_rfl
  have i4 : (Try.prog.info? 91).map (·.size) = some PU.length := by rw [hPU, List.length_map, HL.out.2.1]; kernel_rfl
  have u1 := Try.underlying90
  have u2 := Try.underlying91
  have HS : Hid (∀ u, Below w4.heap.size w4 u → u.rangeAt (w2.heap.size + 1) 0 QP ∧ u.rangeAt w2.heap.size 0 PP ∧ u.rangeAt (w2.heap.size + 1) 60 QU ∧ u.rangeAt w2.heap.size 60 PU) := by
    intro u hu
    have b1 := B14.below hu
    have b2 := B24.below hu
    rw [hQP, hPP, hQU, hPU]
    exact ⟨range_pages b2, range_pages b1, range_wear b2 HL.out.2.2.1, range_wear b1 HL.out.1⟩
  have hE : ∀ w, (Op.equalIn 10000 90 (.agg QP.toArray) (.agg PP.toArray)).run Try.prog w = .ok (decide (qs = ps)) w := by intro w; rw [hQP, hPP]; exact equal_pages w HL.out.2.2.1 HL.out.1
  have hF : ∀ w, (Op.equalIn 10000 91 (.agg QU.toArray) (.agg PU.toArray)).run Try.prog w = .ok (decide (us = ws)) w := by intro w; rw [hQU, hPU]; exact equal_wear w HL.out.2.2.2 HL.out.2.1
  clear hQP hPP hQU hPU B1 B2 hbV hO4 HRV hbw2
  have HB24 := hide B24
  have HBW4 := hide hbw4
  clear B24 B14 hbw4
  obtain ⟨D, hD⟩ : ∃ D, D = decide (us = ws) := ⟨_, rfl⟩
  rw [← hD] at hF
  have HD := hide hD
  clear hD
  by_cases hq : qs = ps
  · have hq' : decide (qs = ps) = true := by simp [hq]
    rw [hq'] at hE
    have HQ := hide hq
    clear hq hq'
    go_wp2_with fail
    refine wp_region_held_drew (S := fun w' => w'.rangeAt (w2.heap.size + 1) 0 QP ∧ w'.rangeAt w2.heap.size 0 PP ∧ w'.rangeAt (w2.heap.size + 1) 60 QU ∧ w'.rangeAt w2.heap.size 60 PU) (by kernel_rfl) (HS.out _ (after_drew (Below.refl _ _) 1)) (fun hHeld => ?_)
    refine take_at (i := 1) (some 18) (v := .pointer (some ⟨w2.heap.size + 1, 0, none⟩)) rfl rfl (by kernel_rfl) (by kernel_rfl) (by kernel_rfl) (fun _ _ _ h => h) (Or.inl ⟨by rfl, fun w _ => by go_simp⟩) (by assumption) ?_
    simp only [Act.put, List.setIfInBounds_toArray, List.set_cons_zero, List.set_cons_succ]
    refine take_at (i := 2) (some 19) (v := .agg QP.toArray) rfl rfl (by kernel_rfl) (by kernel_rfl) (by kernel_rfl) (fun _ _ _ h => h) (yieldsIf_load_mid (by rfl) _ _ rfl (w2.heap.size + 1) 0 rfl QP _ (fun w h => h.1) u1 rfl i1) (by assumption) ?_
    simp only [Act.put, List.setIfInBounds_toArray, List.set_cons_zero, List.set_cons_succ]
    refine take_at (i := 3) (some 20) (v := .pointer (some ⟨w2.heap.size, 0, none⟩)) rfl rfl (by kernel_rfl) (by kernel_rfl) (by kernel_rfl) (fun _ _ _ h => h) (Or.inl ⟨by rfl, fun w _ => by go_simp⟩) (by assumption) ?_
    simp only [Act.put, List.setIfInBounds_toArray, List.set_cons_zero, List.set_cons_succ]
    refine take_at (i := 4) (some 21) (v := .agg PP.toArray) rfl rfl (by kernel_rfl) (by kernel_rfl) (by kernel_rfl) (fun _ _ _ h => h) (yieldsIf_load_mid (by rfl) _ _ rfl (w2.heap.size) 0 rfl PP _ (fun w h => h.2.1) u1 rfl i2) (by assumption) ?_
    simp only [Act.put, List.setIfInBounds_toArray, List.set_cons_zero, List.set_cons_succ]
    refine take_at (i := 5) (some 22) (v := .bool false) rfl rfl (by kernel_rfl) (by kernel_rfl) (by kernel_rfl) (fun _ _ _ h => h) (Or.inl ⟨by rfl, fun w _ => by go_simp⟩) (by assumption) ?_
    simp only [Act.put, List.setIfInBounds_toArray, List.set_cons_zero, List.set_cons_succ]
    refine wpAnyH_ready (rs := [0]) (by kernel_rfl) (by simp) ?_
    refine AllReadyH.cons rfl (fun K hK => ?_) AllReadyH.nil
    go_simp
    refine (chip_any (w2.heap.size + 1) qs us w4.drew HB24.out HL.out.2.2.1 HL.out.2.2.2).mono ?_
    rintro e w5 ⟨vv, rfl, hown, hb5⟩
    obtain ⟨g, kg, g', kg', rfl, ho1, ho2, hne, hg1, hg2, hg3, hg4⟩ := own_form hown (by rw [HL.out.2.2.1]; decide) (by rw [HL.out.2.2.2]; decide)
    have hdr : Below w4.heap.size w4 w4.drew := after_drew (Below.refl _ _) 1
    have hb45 : Below w4.heap.size w4 w5 := after hdr hb5
    have HOWN := hide hown
    have HB5 := hide hb45
    clear hown hb5 hb45 ho1 ho2 hdr
    refine hK.out _ _ (HS.out _ HB5.out) (fun hHeld => ?_)
    clear hK K
    refine take_at (i := 6) (some 23) (v := .bool false) rfl rfl (by kernel_rfl) (by kernel_rfl) (by kernel_rfl) (fun _ _ _ h => h) (Or.inl ⟨by rfl, fun w _ => by go_simp⟩) (by assumption) ?_
    simp only [Act.put, List.setIfInBounds_toArray, List.set_cons_zero, List.set_cons_succ]
    refine take_at (i := 7) (some 24) (v := .pointer (some ⟨w2.heap.size + 1, 60, none⟩)) rfl rfl (by kernel_rfl) (by kernel_rfl) (by kernel_rfl) (fun _ _ _ h => h) (Or.inl ⟨by rfl, fun w _ => by go_simp⟩) (by assumption) ?_
    simp only [Act.put, List.setIfInBounds_toArray, List.set_cons_zero, List.set_cons_succ]
    refine take_at (i := 8) (some 25) (v := .agg QU.toArray) rfl rfl (by kernel_rfl) (by kernel_rfl) (by kernel_rfl) (fun _ _ _ h => h) (yieldsIf_load_mid (by rfl) _ _ rfl (w2.heap.size + 1) 60 rfl QU _ (fun w h => h.2.2.1) u2 rfl i3) (by assumption) ?_
    simp only [Act.put, List.setIfInBounds_toArray, List.set_cons_zero, List.set_cons_succ]
    refine take_at (i := 9) (some 26) (v := .pointer (some ⟨w2.heap.size, 60, none⟩)) rfl rfl (by kernel_rfl) (by kernel_rfl) (by kernel_rfl) (fun _ _ _ h => h) (Or.inl ⟨by rfl, fun w _ => by go_simp⟩) (by assumption) ?_
    simp only [Act.put, List.setIfInBounds_toArray, List.set_cons_zero, List.set_cons_succ]
    refine take_at (i := 10) (some 27) (v := .agg PU.toArray) rfl rfl (by kernel_rfl) (by kernel_rfl) (by kernel_rfl) (fun _ _ _ h => h) (yieldsIf_load_mid (by rfl) _ _ rfl (w2.heap.size) 60 rfl PU _ (fun w h => h.2.2.2) u2 rfl i4) (by assumption) ?_
    simp only [Act.put, List.setIfInBounds_toArray, List.set_cons_zero, List.set_cons_succ]
    refine take_at (i := 11) (some 28) (v := .bool (!D)) rfl rfl (by kernel_rfl) (by kernel_rfl) (by kernel_rfl) (fun _ _ _ h => h) (Or.inl ⟨by rfl, fun w _ => by go_simp⟩) (by assumption) ?_
    simp only [Act.put, List.setIfInBounds_toArray, List.set_cons_zero, List.set_cons_succ]
    refine take_at (i := 12) (some 29) (v := .bool (!D)) rfl rfl (by kernel_rfl) (by kernel_rfl) (by kernel_rfl) (fun _ _ _ h => h) (Or.inl ⟨by rfl, fun w _ => by go_simp⟩) (by assumption) ?_
    simp only [Act.put, List.setIfInBounds_toArray, List.set_cons_zero, List.set_cons_succ]
    have HR5 : w5.heap[w.heap.size + 1]? = some (.cells #[.slice none 0 0, .slice none 0 0] 27 (0, 0)) := (HB5.out.block _ (by omega)).trans HR4.out
    have z0 : w5.cell? ⟨w.heap.size + 1, 0, none⟩ = some (.slice none 0 0) := by rw [cell_of_row w5 _ _ _ _ _ HR5]; rfl
    have z1 : w5.cell? ⟨w.heap.size + 1, 1, none⟩ = some (.slice none 0 0) := by rw [cell_of_row w5 _ _ _ _ _ HR5]; rfl
    have y0 : w5.frozen? ⟨w.heap.size + 1, 0, none⟩ = false := frozen_of_row w5 _ _ _ _ HR5
    have y1 : w5.frozen? ⟨w.heap.size + 1, 1, none⟩ = false := frozen_of_row w5 _ _ _ _ HR5
    clear HR5
    refine wpAnyH_ready (rs := [13]) (by kernel_rfl) (by simp) ?_
    refine AllReadyH.cons rfl (fun K hK => ?_) AllReadyH.nil
    go_simp
    refine hK.out _ _ ⟨range_set (range_set hHeld.1 (by omega) _) (by omega) _, range_set (range_set hHeld.2.1 (by omega) _) (by omega) _, range_set (range_set hHeld.2.2.1 (by omega) _) (by omega) _, range_set (range_set hHeld.2.2.2 (by omega) _) (by omega) _⟩ (fun hHeld => ?_)
    clear hK K
    refine take_at (i := 14) (some 5) (v := .bool (!D)) rfl rfl (by kernel_rfl) (by kernel_rfl) (by kernel_rfl) (fun _ _ _ h => h) (Or.inl ⟨by rfl, fun w _ => by go_simp⟩) (by assumption) ?_
    simp only [Act.put, List.setIfInBounds_toArray, List.set_cons_zero, List.set_cons_succ]
    refine wpAnyH_done (by kernel_rfl) ?_ _
    clear hHeld
    go_wp2
    refine bodyPost_ret (v := .tuple #[.agg #[.slice (some ⟨g, 0, none⟩) qs.length kg, .slice (some ⟨g', 0, none⟩) us.length kg'], .bool (!D)]) (by simp [results, Try.results60, go_sem, z0, z1]) rfl ⟨.agg #[.slice (some ⟨g, 0, none⟩) qs.length kg, .slice (some ⟨g', 0, none⟩) us.length kg'], ?_, ?_, ?_⟩
    · have hb : (!D) = decide (qs ≠ ps ∨ us ≠ ws) := by rw [HD.out]; simp [HQ.out]
      rw [hb]
    · exact own_mono (own_set (own_set HOWN.out (show w.heap.size + 1 < w4.heap.size by omega) _) (show w.heap.size + 1 < w4.heap.size by omega) _) (show w.heap.size ≤ w4.heap.size by omega)
    · exact ((HBW4.out.trans (HB5.out.mono HBW4.out.size)).setCell (by show _ ≤ _; simp) _).setCell (by show _ ≤ _; simp) _
  · have hq' : decide (qs = ps) = false := by simp [hq]
    rw [hq'] at hE
    have HQ := hide hq
    clear hq hq'
    go_wp2_with fail
    refine wp_region_held_drew (S := fun w' => w'.rangeAt (w2.heap.size + 1) 0 QP ∧ w'.rangeAt w2.heap.size 0 PP ∧ w'.rangeAt (w2.heap.size + 1) 60 QU ∧ w'.rangeAt w2.heap.size 60 PU) (by kernel_rfl) (HS.out _ (after_drew (Below.refl _ _) 1)) (fun hHeld => ?_)
    refine take_at (i := 1) (some 18) (v := .pointer (some ⟨w2.heap.size + 1, 0, none⟩)) rfl rfl (by kernel_rfl) (by kernel_rfl) (by kernel_rfl) (fun _ _ _ h => h) (Or.inl ⟨by rfl, fun w _ => by go_simp⟩) (by assumption) ?_
    simp only [Act.put, List.setIfInBounds_toArray, List.set_cons_zero, List.set_cons_succ]
    refine take_at (i := 2) (some 19) (v := .agg QP.toArray) rfl rfl (by kernel_rfl) (by kernel_rfl) (by kernel_rfl) (fun _ _ _ h => h) (yieldsIf_load_mid (by rfl) _ _ rfl (w2.heap.size + 1) 0 rfl QP _ (fun w h => h.1) u1 rfl i1) (by assumption) ?_
    simp only [Act.put, List.setIfInBounds_toArray, List.set_cons_zero, List.set_cons_succ]
    refine take_at (i := 3) (some 20) (v := .pointer (some ⟨w2.heap.size, 0, none⟩)) rfl rfl (by kernel_rfl) (by kernel_rfl) (by kernel_rfl) (fun _ _ _ h => h) (Or.inl ⟨by rfl, fun w _ => by go_simp⟩) (by assumption) ?_
    simp only [Act.put, List.setIfInBounds_toArray, List.set_cons_zero, List.set_cons_succ]
    refine take_at (i := 4) (some 21) (v := .agg PP.toArray) rfl rfl (by kernel_rfl) (by kernel_rfl) (by kernel_rfl) (fun _ _ _ h => h) (yieldsIf_load_mid (by rfl) _ _ rfl (w2.heap.size) 0 rfl PP _ (fun w h => h.2.1) u1 rfl i2) (by assumption) ?_
    simp only [Act.put, List.setIfInBounds_toArray, List.set_cons_zero, List.set_cons_succ]
    refine take_at (i := 5) (some 22) (v := .bool true) rfl rfl (by kernel_rfl) (by kernel_rfl) (by kernel_rfl) (fun _ _ _ h => h) (Or.inl ⟨by rfl, fun w _ => by go_simp⟩) (by assumption) ?_
    simp only [Act.put, List.setIfInBounds_toArray, List.set_cons_zero, List.set_cons_succ]
    refine wpAnyH_ready (rs := [0]) (by kernel_rfl) (by simp) ?_
    refine AllReadyH.cons rfl (fun K hK => ?_) AllReadyH.nil
    go_simp
    refine (chip_any (w2.heap.size + 1) qs us w4.drew HB24.out HL.out.2.2.1 HL.out.2.2.2).mono ?_
    rintro e w5 ⟨vv, rfl, hown, hb5⟩
    obtain ⟨g, kg, g', kg', rfl, ho1, ho2, hne, hg1, hg2, hg3, hg4⟩ := own_form hown (by rw [HL.out.2.2.1]; decide) (by rw [HL.out.2.2.2]; decide)
    have hdr : Below w4.heap.size w4 w4.drew := after_drew (Below.refl _ _) 1
    have hb45 : Below w4.heap.size w4 w5 := after hdr hb5
    have HOWN := hide hown
    have HB5 := hide hb45
    clear hown hb5 hb45 ho1 ho2 hdr
    refine hK.out _ _ (HS.out _ HB5.out) (fun hHeld => ?_)
    clear hK K
    refine take_at (i := 6) (some 23) (v := .bool true) rfl rfl (by kernel_rfl) (by kernel_rfl) (by kernel_rfl) (fun _ _ _ h => h) (Or.inl ⟨by rfl, fun w _ => by go_simp⟩) (by assumption) ?_
    simp only [Act.put, List.setIfInBounds_toArray, List.set_cons_zero, List.set_cons_succ]
    refine take_at (i := 7) (some 24) (v := undef) rfl rfl (by kernel_rfl) (by kernel_rfl) (by kernel_rfl) (fun _ _ _ h => h) (Or.inr ⟨by rfl, rfl⟩) (by assumption) ?_
    simp only [Act.put, List.setIfInBounds_toArray, List.set_cons_zero, List.set_cons_succ]
    refine take_at (i := 8) (some 25) (v := undef) rfl rfl (by kernel_rfl) (by kernel_rfl) (by kernel_rfl) (fun _ _ _ h => h) (Or.inr ⟨by rfl, rfl⟩) (by assumption) ?_
    simp only [Act.put, List.setIfInBounds_toArray, List.set_cons_zero, List.set_cons_succ]
    refine take_at (i := 9) (some 26) (v := undef) rfl rfl (by kernel_rfl) (by kernel_rfl) (by kernel_rfl) (fun _ _ _ h => h) (Or.inr ⟨by rfl, rfl⟩) (by assumption) ?_
    simp only [Act.put, List.setIfInBounds_toArray, List.set_cons_zero, List.set_cons_succ]
    refine take_at (i := 10) (some 27) (v := undef) rfl rfl (by kernel_rfl) (by kernel_rfl) (by kernel_rfl) (fun _ _ _ h => h) (Or.inr ⟨by rfl, rfl⟩) (by assumption) ?_
    simp only [Act.put, List.setIfInBounds_toArray, List.set_cons_zero, List.set_cons_succ]
    refine take_at (i := 11) (some 28) (v := undef) rfl rfl (by kernel_rfl) (by kernel_rfl) (by kernel_rfl) (fun _ _ _ h => h) (Or.inr ⟨by rfl, rfl⟩) (by assumption) ?_
    simp only [Act.put, List.setIfInBounds_toArray, List.set_cons_zero, List.set_cons_succ]
    refine take_at (i := 12) (some 29) (v := .bool true) rfl rfl (by kernel_rfl) (by kernel_rfl) (by kernel_rfl) (fun _ _ _ h => h) (Or.inl ⟨by rfl, fun w _ => by go_simp⟩) (by assumption) ?_
    simp only [Act.put, List.setIfInBounds_toArray, List.set_cons_zero, List.set_cons_succ]
    have HR5 : w5.heap[w.heap.size + 1]? = some (.cells #[.slice none 0 0, .slice none 0 0] 27 (0, 0)) := (HB5.out.block _ (by omega)).trans HR4.out
    have z0 : w5.cell? ⟨w.heap.size + 1, 0, none⟩ = some (.slice none 0 0) := by rw [cell_of_row w5 _ _ _ _ _ HR5]; rfl
    have z1 : w5.cell? ⟨w.heap.size + 1, 1, none⟩ = some (.slice none 0 0) := by rw [cell_of_row w5 _ _ _ _ _ HR5]; rfl
    have y0 : w5.frozen? ⟨w.heap.size + 1, 0, none⟩ = false := frozen_of_row w5 _ _ _ _ HR5
    have y1 : w5.frozen? ⟨w.heap.size + 1, 1, none⟩ = false := frozen_of_row w5 _ _ _ _ HR5
    clear HR5
    refine wpAnyH_ready (rs := [13]) (by kernel_rfl) (by simp) ?_
    refine AllReadyH.cons rfl (fun K hK => ?_) AllReadyH.nil
    go_simp
    refine hK.out _ _ ⟨range_set (range_set hHeld.1 (by omega) _) (by omega) _, range_set (range_set hHeld.2.1 (by omega) _) (by omega) _, range_set (range_set hHeld.2.2.1 (by omega) _) (by omega) _, range_set (range_set hHeld.2.2.2 (by omega) _) (by omega) _⟩ (fun hHeld => ?_)
    clear hK K
    refine take_at (i := 14) (some 5) (v := .bool true) rfl rfl (by kernel_rfl) (by kernel_rfl) (by kernel_rfl) (fun _ _ _ h => h) (Or.inl ⟨by rfl, fun w _ => by go_simp⟩) (by assumption) ?_
    simp only [Act.put, List.setIfInBounds_toArray, List.set_cons_zero, List.set_cons_succ]
    refine wpAnyH_done (by kernel_rfl) ?_ _
    clear hHeld
    go_wp2
    refine bodyPost_ret (v := .tuple #[.agg #[.slice (some ⟨g, 0, none⟩) qs.length kg, .slice (some ⟨g', 0, none⟩) us.length kg'], .bool true]) (by simp [results, Try.results60, go_sem, z0, z1]) rfl ⟨.agg #[.slice (some ⟨g, 0, none⟩) qs.length kg, .slice (some ⟨g', 0, none⟩) us.length kg'], ?_, ?_, ?_⟩
    · have hb : true = decide (qs ≠ ps ∨ us ≠ ws) := by simp [HQ.out]
      rw [hb]
    · exact own_mono (own_set (own_set HOWN.out (show w.heap.size + 1 < w4.heap.size by omega) _) (show w.heap.size + 1 < w4.heap.size by omega) _) (show w.heap.size ≤ w4.heap.size by omega)
    · exact ((HBW4.out.trans (HB5.out.mono HBW4.out.size)).setCell (by show _ ≤ _; simp) _).setCell (by show _ ≤ _; simp) _

end Go.Proofs.Ytelbannfbglgcaa

namespace Go.Proofs.Ytelbannfbglgcaa
open Go.RowKit

/-- The page is there and clear, the text is short enough. -/
def onBurn (ps : List ByteArray) (page : Int) (text : ByteArray) : Prop := 0 ≤ page ∧ page < 60 ∧ ps[page.toNat]?.getD ByteArray.empty = ByteArray.empty ∧ text.size ≤ 800
/-- What the pages are then. -/
noncomputable def burnPs (ps : List ByteArray) (page : Int) (text : ByteArray) : List ByteArray := open Classical in if onBurn ps page text then ps.set page.toNat text else ps
theorem burnPs_yes {ps : List ByteArray} {page : Int} {text : ByteArray} (h : onBurn ps page text) : burnPs ps page text = ps.set page.toNat text := by simp [burnPs, h]
theorem burnPs_no {ps : List ByteArray} {page : Int} {text : ByteArray} (h : ¬ onBurn ps page text) : burnPs ps page text = ps := by simp [burnPs, h]
theorem burnPs_len (ps : List ByteArray) (page : Int) (text : ByteArray) : (burnPs ps page text).length = ps.length := by unfold burnPs; split <;> simp

set_option maxHeartbeats 3200000 in
theorem onBurn_any (g : Nat) (ps : List ByteArray) (ws : List Int) (page : Int) (text : ByteArray) (w : World) (h : Board w g ps ws) (hl : ps.length = 60) (ht : text.size ≤ 1048576) :
    Calls Try.prog 61 #[.agg #[.int .i64 page, .string text], .pointer (some ⟨g, 0, none⟩)] w fun e w' => (∃ v, e = .returned v) ∧ Board w' g (burnPs ps page text) ws ∧ OnlyIn w w' [some g] := by
  obtain ⟨W, hW⟩ : ∃ W, W = w.alloc (Obj.cells #[.int .i64 page, .string text] 83) := ⟨_, rfl⟩
  have hbW : Below w.heap.size w W := by subst hW; exact (Below.refl _ _).alloc (Nat.le_refl _) _
  have c0 : W.cell? ⟨w.heap.size, 0, none⟩ = some (.int .i64 page) := by subst hW; simp
  have c1 : W.cell? ⟨w.heap.size, 1, none⟩ = some (.string text) := by subst hW; simp
  have hB := h.below hbW
  have hg := h.lt
  have hO : OnlyIn w W [some g] := OnlyIn.of_below hbW _
  clear h hbW
  by_cases h1 : page < 0
  · have t1 : decide (page < 0) = true := by simpa using h1
    have hn : ¬ onBurn ps page text := fun h => by have := h.1; omega
    rw [burnPs_no hn]
    clear hn
    go_enter Try.func61, Try.ntmps61
    go_wp2_with fail
    rw [← hW]
    clear hW
    go_quiet (fail)
    all_goals go_wp2
    all_goals exact bodyPost_ret (by simp [results, Try.results61]; rfl) rfl ⟨⟨_, rfl⟩, hB, hO.drewN _⟩
  · by_cases h2 : 60 ≤ page
    · have t1 : decide (page < 0) = false := by simpa using h1
      have t2 : decide (60 ≤ page) = true := by simpa using h2
      have hn : ¬ onBurn ps page text := fun h => by have := h.2.1; omega
      rw [burnPs_no hn]
      clear hn
      go_enter Try.func61, Try.ntmps61
      go_wp2_with fail
      rw [← hW]
      clear hW
      go_quiet (fail)
      all_goals go_wp2
      all_goals exact bodyPost_ret (by simp [results, Try.results61]; rfl) rfl ⟨⟨_, rfl⟩, hB, hO.drewN _⟩
    · obtain ⟨P, rfl⟩ : ∃ P : Nat, page = P := ⟨page.toNat, by omega⟩
      have hP : P < ps.length := by omega
      have t1 : decide ((P : Int) < 0) = false := by simp
      have t2 : decide (60 ≤ (P : Int)) = false := by simp; omega
      have t3 : (0 : Int) ≤ (P : Int) := by omega
      have t4 : (P : Int) < 60 := by omega
      obtain ⟨x, hx⟩ : ∃ x, ps[P]? = some x := ⟨_, List.getElem?_eq_getElem hP⟩
      have hc : W.cell? ⟨g, P, none⟩ = some (.string x) := by rw [hB.cell, bd_page hP, List.getElem?_map, hx]; rfl
      have hf : W.frozen? ⟨g, P, none⟩ = false := hB.frozen P
      have HX := hide hx
      clear hx
      by_cases hxe : x = ByteArray.empty
      · by_cases ht8 : (800 : Int) < (text.size : Int)
        · have t6 : decide (800 < (text.size : Int)) = true := by simpa using ht8
          have hn : ¬ onBurn ps P text := fun h => by have := h.2.2.2; omega
          rw [burnPs_no hn]
          clear hn
          subst hxe
          go_enter Try.func61, Try.ntmps61
          go_wp2_with fail
          rw [← hW]
          clear hW
          go_quiet (fail)
          all_goals go_wp2
          all_goals exact bodyPost_ret (by simp [results, Try.results61]; rfl) rfl ⟨⟨_, rfl⟩, hB, hO.drewN _⟩
        · have t6 : decide (800 < (text.size : Int)) = false := by simpa using ht8
          have hy : onBurn ps P text := ⟨by omega, by omega, by rw [Int.toNat_natCast, HX.out, hxe]; rfl, by omega⟩
          rw [burnPs_yes hy, Int.toNat_natCast]
          clear hy
          subst hxe
          go_enter Try.func61, Try.ntmps61
          go_wp2_with fail
          rw [← hW]
          clear hW
          go_quiet (fail)
          obtain ⟨V, hV⟩ : ∃ V, V = W.drewN nq := ⟨_, rfl⟩
          have e0 : V.cell? ⟨w.heap.size, 0, none⟩ = some (.int .i64 P) := by rw [hV]; exact c0
          have e1 : V.cell? ⟨w.heap.size, 1, none⟩ = some (.string text) := by rw [hV]; exact c1
          have hcV : V.cell? ⟨g, P, none⟩ = some (.string ByteArray.empty) := by rw [hV]; exact hc
          have hfV : V.frozen? ⟨g, P, none⟩ = false := by rw [hV]; exact hf
          have hB' : Board (V.setCell ⟨g, P, none⟩ (.string text)).drew g (ps.set P text) ws := by rw [hV]; exact hB.setPage hP text
          have hO' : OnlyIn w (V.setCell ⟨g, P, none⟩ (.string text)).drew [some g] := by
            have := (hO.drewN nq).trans (OnlyIn.of_grown (grown_setB (W.drewN nq) g P (.string text)))
            rw [hV]
            exact ⟨this.os, this.tape, this.output, this.size, fun i hi hn => this.block i hi (by simpa using hn)⟩
          rw [← hV]
          clear hV hB hO c0 c1 hc hf
          go_wp2_with fail
          go_region
          go_wp2
          go_end0
          exact ⟨⟨_, rfl⟩, hB', hO'⟩
      · have hn : ¬ onBurn ps P text := fun h => hxe (by have := h.2.2.1; rw [Int.toNat_natCast, HX.out] at this; exact this)
        rw [burnPs_no hn]
        have hxi := isEmpty_str hxe
        clear hn hxe
        go_enter Try.func61, Try.ntmps61
        go_wp2_with fail
        rw [← hW]
        clear hW
        go_quiet (fail)
        all_goals go_wp2
        all_goals exact bodyPost_ret (by simp [results, Try.results61]; rfl) rfl ⟨⟨_, rfl⟩, hB, hO.drewN _⟩

end Go.Proofs.Ytelbannfbglgcaa
