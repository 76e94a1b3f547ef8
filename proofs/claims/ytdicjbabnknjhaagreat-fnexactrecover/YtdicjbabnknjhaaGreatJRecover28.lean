/-
  Contract of the program's (*writing).burn.
  NextPage of a chip that is not right; what the two NextPages answer, of any chip: the same.
  Contract of the program's FtlOk; what the two FtlOks answer: the same.
-/
import Derived.Test.YtdicjbabnknjhaaGreatJRecover26
import Derived.Test.YtdicjbabnknjhaaGreatJRecover27
import Derived.Test.YtdicjbabnknjhaaGreatJRecover23
import Derived.Test.YtdicjbabnknjhaaGreatJRecover16
import Derived.Test.YtdicjbabnknjhaaGreatJRecover10
namespace Go.Proofs.YtdicjbabnknjhaaGreat
open Go.RowKit

theorem apply_burn {ps : List ByteArray} {ws : List Int} {s : Int} {d : ByteArray} (hok : chipOkP ps ws) (hq : mSeq ps ≠ 1000000000) :
    (applyF ps ws 1 (nextP ps ws) (recT s (mSeq ps) d) = true → pBurn ps ws s d = some (applyP ps ws 1 (nextP ps ws) (recT s (mSeq ps) d), (1, nextP ps ws, recT s (mSeq ps) d)) ∧ applyW ps ws 1 (nextP ps ws) = ws) ∧
      (applyF ps ws 1 (nextP ps ws) (recT s (mSeq ps) d) = false → pBurn ps ws s d = none) := by
  have e1 : applyF ps ws 1 (nextP ps ws) (recT s (mSeq ps) d) = burnF ps ws (nextP ps ws) (recT s (mSeq ps) d) := by unfold applyF; rw [if_pos rfl]
  have e2 : applyP ps ws 1 (nextP ps ws) (recT s (mSeq ps) d) = burnP ps ws (nextP ps ws) (recT s (mSeq ps) d) := by unfold applyP; rw [if_pos rfl]
  have e3 : applyW ps ws 1 (nextP ps ws) = burnW ps ws := by unfold applyW; rw [if_pos rfl]
  rw [e1, e2, e3]
  constructor
  · intro h
    have h : burnOk ps (nextP ps ws) (recT s (mSeq ps) d) := by
      simp only [burnF, decide_eq_true_eq] at h
      exact h.2
    have hn : ¬ nextP ps ws < 0 := by have := h.1; omega
    have hr : recOkB s (mSeq ps) d ≠ false := fun e => h.2.2.2.1 (recT_none e)
    refine ⟨?_, by unfold burnW; rw [if_pos hok]⟩
    unfold pBurn burnP
    rw [if_neg (by rintro (h | h | h); exact hn h; exact hr h; exact hq h), if_pos hok, if_pos h]
  · intro h
    have h : ¬ (chipOkP ps ws ∧ burnOk ps (nextP ps ws) (recT s (mSeq ps) d)) := by
      simpa only [burnF, decide_eq_false_iff_not] using h
    by_cases hn : nextP ps ws < 0
    · exact pBurn_none (.inl hn)
    · cases hr : recOkB s (mSeq ps) d with
      | false => exact pBurn_none (.inr (.inl hr))
      | true =>
        exfalso
        obtain ⟨p, hp⟩ : ∃ p : Nat, nextP ps ws = p := ⟨(nextP ps ws).toNat, by omega⟩
        obtain ⟨h60, hc⟩ := next_clear hok.1 hp
        refine h ⟨hok, ?_⟩
        rw [hp]
        refine ⟨by omega, by omega, ?_, recT_some hr, by have := recT_size s (mSeq ps) d; omega⟩
        rw [Int.toNat_natCast, hc]
        rfl

set_option maxRecDepth 100000 in
set_option maxHeartbeats 6400000 in
theorem pburn_any (P base : Nat) (ps : List ByteArray) (ws ms : List Int) (q : Int) (cs : List (Int × Int × ByteArray)) (s : Int) (d : ByteArray) (w : World) (hW : PW w P base ps ws ms q cs) (_hm : ms = mMap ps) (hq : q = mSeq ps) (hok : chipOkP ps ws) (hd : d.size ≤ maxLen) (hs0 : -9223372036854775808 ≤ s) (hs1 : s ≤ 9223372036854775807) (hcs : cs.length ≤ 60000) :
    Calls Tryz.prog 96 #[.pointer (some ⟨P, 0, none⟩), .int .i64 s, .string d] w fun e w' => e = .returned (.bool (pBurn ps ws s d).isSome) ∧ Below base w w' ∧ Fr P P P w w' ∧
      (∀ r, pBurn ps ws s d = some r → PW w' P base r.1 ws (mMap r.1) (mSeq r.1) (cs ++ [r.2])) ∧ (pBurn ps ws s d = none → PW w' P base ps ws ms q cs) := by
  have hW0 := hide hW
  obtain ⟨v4, k4, a, c, b, d0, e0, f, hW⟩ := hW
  obtain ⟨⟨c0, c1, c2, c3, c4⟩, -⟩ := hW.cells
  obtain ⟨T, hT⟩ : ∃ T, T = recT s q d := ⟨_, rfl⟩
  obtain ⟨N, hN⟩ : ∃ N, N = nextP ps ws := ⟨_, rfl⟩
  obtain ⟨R, hR⟩ : ∃ R, R = pBurn ps ws s d := ⟨_, rfl⟩
  have hTs : T.size ≤ 800 := by rw [hT]; have := recT_size s q d; omega
  have hqb := mSeq_bd ps
  rw [← hq] at hqb
  have HRT := hide (implRecText_any s q d w hd hs0 hs1 (by omega) (by omega))
  rw [← hT] at HRT
  have HN : Hid (∀ u, Below w.heap.size w u → Calls Tryz.prog 112 #[.agg #[.slice a ps.length c, .slice b ws.length d0]] u fun e w' => e = .returned (.int .i64 N) ∧ Below u.heap.size u w') := by
    intro u hu
    rw [hN]
    exact implNext_ok a b ps ws c d0 u (hW.below hu).rd.1 (hW.below hu).rd.2.1 hok (by have := hW.cap; rw [hok.1] at this; exact this)
  have HAD : Hid (q ≠ 1000000000 → ∀ u, Below w.heap.size w u → Calls Tryz.prog 116 #[.pointer (some ⟨P, 0, none⟩), .agg #[.int .i64 1, .int .i64 N, .string T]] u fun e w' => e = .returned (.bool R.isSome) ∧ Below base u w' ∧ Fr P P P u w' ∧
      (∀ r, R = some r → PW w' P base r.1 ws (mMap r.1) (mSeq r.1) (cs ++ [r.2])) ∧ (R = none → PW w' P base ps ws ms q cs)) := by
    intro hqm u hu
    refine (add_any P base ps ws ms q cs 1 N T u (hW0.out.below hu) hok (by omega) hcs).mono ?_
    rintro e w' ⟨rfl, hb, hf, h1, h2⟩
    have hAB := apply_burn (s := s) (d := d) hok (by rw [← hq]; exact hqm)
    rw [← hq, ← hN, ← hT, ← hR] at hAB
    cases hF : applyF ps ws 1 N T with
    | true =>
      obtain ⟨k1, k2⟩ := hAB.1 hF
      have h1 := h1 hF
      rw [k2] at h1
      rw [k1]
      exact ⟨rfl, hb, hf, fun r hr => by injection hr with hr; rw [← hr]; exact h1, fun hr => (by cases hr)⟩
    | false =>
      have k1 := hAB.2 hF
      rw [k1]
      exact ⟨rfl, hb, hf, fun r hr => (by cases hr), fun _ => h2 hF⟩
  have HW := hide hW
  have HQ : Hid (q = 1000000000 → R = none) := fun h => by rw [hR]; exact pBurn_none (.inr (.inr (by rw [← hq]; exact h)))
  rw [← hR]
  clear hW hT hN hR hok _hm hq
  go_enter Tryz.func96, Tryz.ntmps96
  by_cases hqm : q = 1000000000
  · have HRN := hide (HQ.out hqm)
    subst hqm
    clear HAD HN HRT
    go_wp2_with fail
    go_ret
    have hr := HRN.out
    subst hr
    exact ⟨rfl, Below.refl _ _, Fr.of_below (Below.refl _ _), (by intro _ _ _ _ hr; cases hr), fun _ => hW0.out⟩
  · have t1 : (q == 1000000000) = false := by simpa using hqm
    have HA2 := hide (HAD.out hqm)
    clear HAD HQ hqm
    go_wp2_with fail
    refine HRT.out.mono ?_
    rintro e w1 ⟨rfl, hb1⟩
    have HB1 := hide hb1
    obtain ⟨⟨x0, x1, x2, x3, x4⟩, -⟩ := (HW.out.below hb1).cells
    clear hb1 HRT c0 c1 c2 c3 c4
    go_wp2_with fail
    refine (HN.out w1 HB1.out).mono ?_
    rintro e w2 ⟨rfl, hb2⟩
    have HB2 := hide (after HB1.out hb2)
    clear hb2 HN x0 x1 x2 x3 x4
    go_wp2_with fail
    refine (HA2.out w2 HB2.out).mono ?_
    rintro e w3 ⟨rfl, hb3, hfr, hy, hn⟩
    have HF := hide (And.intro ((HB2.out.mono HW.out.lt.2.2).trans hb3) (And.intro ((Fr.of_below (P := P) (g1 := P) (g3 := P) HB2.out).trans hfr) (And.intro hy hn)))
    clear hb3 hfr hy hn HA2
    go_wp2
    go_ret
    exact ⟨rfl, HF.out⟩
end Go.Proofs.YtdicjbabnknjhaaGreat

namespace Go.Proofs.YtdicjbabnknjhaaGreat
open Go.RowKit Go.Shelf

attribute [local go_sem] Oper.semAt_some

set_option maxRecDepth 100000 in
set_option maxHeartbeats 6000000 in
theorem implNext_bad (a b : Option Addr) (ps : List ByteArray) (ws : List Int) (c d : Nat) (w : World) (hp : Rd w a (vsString ps)) (hw : Rd w b (vsInt ws)) (hl : ps.length ≤ 1048576) (hm : ws.length ≤ 1048576) (hs : ∀ s ∈ ps, s.size ≤ 1048576) (hok : ¬ chipOkP ps ws) :
    Calls Tryz.prog 112 #[.agg #[.slice a ps.length c, .slice b ws.length d]] w fun e w' => e = .returned (.int .i64 (-1)) ∧ Below w.heap.size w w' := by
  have hmf : ∀ (fn : Fn) (first cap : Array Value) (w : World), (Instr.makeFunc fn first cap).run Tryz.prog w = .ok (.func fn first cap) w := fun _ _ _ _ => rfl
  obtain ⟨W0, hW0⟩ : ∃ W0, W0 = (w.alloc (Obj.cells #[.slice a ps.length c, .slice b ws.length d] 32)).alloc (Obj.cells #[.int .i64 0] 3) := ⟨_, rfl⟩
  obtain ⟨V, hV⟩ : ∃ V, V = W0.alloc (Obj.cells #[.slice a ps.length c, .slice b ws.length d] 32) := ⟨_, rfl⟩
  have hs0 : W0.heap.size = w.heap.size + 1 + 1 := by rw [hW0]; simp
  have hsV : V.heap.size = w.heap.size + 1 + 1 + 1 := by rw [hV]; simp [hs0]
  have hb0 : Below w.heap.size w W0 := by rw [hW0]; exact ((Below.refl _ _).alloc (Nat.le_refl _) _).alloc (by simp) _
  have hb0V : Below W0.heap.size W0 V := by rw [hV]; exact (Below.refl _ _).alloc (Nat.le_refl _) _
  have hbV : Below w.heap.size w V := after hb0 hb0V
  have bR : Boxed V (w.heap.size + 1) 3 (.int .i64 0) := by
    have := Boxed.new (w.alloc (Obj.cells #[.slice a ps.length c, .slice b ws.length d] 32)) 3 (.int .i64 0)
    rw [World.size_alloc, ← hW0] at this
    rw [hV]; exact this.alloc _
  have bN : V.heap[w.heap.size + 1 + 1]? = some (.cells #[.slice a ps.length c, .slice b ws.length d] 32 (0, 0)) := by
    have := World.alloc_heap_new W0 (Obj.cells #[.slice a ps.length c, .slice b ws.length d] 32)
    rw [hs0, ← hV] at this; exact this
  have bC : V.heap[w.heap.size]? = some (.cells #[.slice a ps.length c, .slice b ws.length d] 32 (0, 0)) := by
    have h1 := World.alloc_heap_new w (Obj.cells #[.slice a ps.length c, .slice b ws.length d] 32)
    have h2 : W0.heap[w.heap.size]? = some (.cells #[.slice a ps.length c, .slice b ws.length d] 32 (0, 0)) := by rw [hW0, Below.heap_alloc _ _ _ (by simp)]; exact h1
    exact (hb0V.block w.heap.size (by omega)).trans h2
  have y0 : W0.cell? ⟨w.heap.size, 0, none⟩ = some (.slice a ps.length c) := by rw [hW0]; simp [go_sem]
  have y1 : W0.cell? ⟨w.heap.size, 1, none⟩ = some (.slice b ws.length d) := by rw [hW0]; simp [go_sem]
  have HST := hide (blocks_none (3 - 1) (by decide) (w.heap.size + 1 + 1) w.heap.size 0 0 a b ps ws c d V bN (hp.below hbV) (hw.below hbV) hl hm hs hok)
  have HBO := hide (blocksOf_any a b ps.length ws.length c d W0)
  rw [← hV, hs0] at HBO
  have HP := hide (And.intro hp (And.intro hw (And.intro hs hok)))
  clear hp hw hok hs
  refine (callsIn_wide (n := 3)).1 ?_
  refine callsIn_of_wp_marks Tryz.func112 rfl trivial ?_ rfl
  simp only [Tryz.ntmps112, List.size_toArray, List.length_cons, List.length_nil, Nat.reduceAdd, Nat.reduceSub, Array.replicate_succ, Array.replicate_zero, List.push_toArray, List.append_toArray, List.nil_append, List.cons_append]
  gi_wp2_with (first | (rw [← hW0]; clear hW0) | (refine ⟨trivial, ?_⟩; gi_at_call 117; refine (callsIn_wide.2 HBO.out).mono ?_; rintro e u ⟨rfl, hu⟩; have hu' := hu.symm; subst hu') | (gi_at_call 117; refine (callsIn_wide.2 HBO.out).mono ?_; rintro e u ⟨rfl, hu⟩; have hu' := hu.symm; subst hu'))
  rw [← hV]
  clear hV HBO hu y0 y1
  refine wpIn_rangeFunc_ownG (F := Fence.wide) (n := 3) rfl (by decide) (gf := 135) (lb := #[.pointer (some ⟨w.heap.size + 1 + 1, 0, none⟩)]) rfl trivial (enters_of Tryz.func135 (by kernel_rfl) rfl)
    HST.out kpB_t (kpB_b (by omega) (by omega)) (Below.refl _ _) (fun _ => rfl)
    (NextI ps w (w.heap.size + 1) (w.heap.size + 1 + 1) (.slice a ps.length c) (.slice b ws.length d)) (fun _ _ _ => False)
    (nextI_own ps w _ _ _ _ _ (by omega)) (fun _ _ _ _ _ hs _ _ => hs)
    ⟨⟨⟨by simp, bR⟩, bN, bC⟩, hbV⟩
    (fun x => { tmps := #[.agg #[.slice a ps.length c, .slice b ws.length d], .pointer (some ⟨w.heap.size, 0, none⟩), .pointer (some ⟨w.heap.size + 1, 0, none⟩), .int .i64 ((x.val : Nat) : Int), .slice (some ⟨0, 0 + x.val * 6, none⟩) 6 (c - x.val * 6), undef, undef, .agg #[.slice a ps.length c, .slice b ws.length d], .func (.func 135) #[] #[.pointer (some ⟨w.heap.size + 1 + 1, 0, none⟩)], .int .i64 ((x.val : Nat) : Int), .slice (some ⟨0, 0 + x.val * 6, none⟩) 6 (c - x.val * 6), undef, undef, undef, undef, undef, undef, undef, undef, undef, undef, undef, undef, undef, undef, undef, undef, undef, undef, undef, undef, undef, undef, undef], defers := [] }) ?assign ?body ?done ?stop
  case assign =>
    intro l x W K hK
    simp only [encB]
    gi_wp2
    simpa using hK
  case body =>
    intro l pre x W _ hlt
    exact absurd hlt (by omega)
  case done =>
    rintro D ys W hD rfl ⟨⟨⟨-, hv⟩, hbn, hbc⟩, hB⟩ hK
    have HFR := hide (implFree_bad a b ps ws c d W (HP.out.1.below hB) (HP.out.2.1.below hB) hl hm HP.out.2.2.1 HP.out.2.2.2)
    have k0 : W.cell? ⟨w.heap.size, 0, none⟩ = some (.slice a ps.length c) := by simp [World.cell?, hbc]
    have k1 : W.cell? ⟨w.heap.size, 1, none⟩ = some (.slice b ws.length d) := by simp [World.cell?, hbc]
    have hDW : D < W.heap.size := (Array.getElem?_eq_some_iff.1 hK).1
    have hrW : w.heap.size + 1 < W.heap.size := hv.lt
    clear bR bN bC HST hbn hbc
    gi_wp2_with fail
    refine ⟨trivial, ?_⟩
    refine (callsIn_wide.2 HFR.out).mono ?_
    rintro e w1 ⟨v, rfl, hown, hb1⟩
    obtain ⟨fa, fc, rfl⟩ := owns_shape hown
    have hK1 : w1.heap[D]? = some (.deferred (some [])) := (hb1.block D hDW).trans hK
    have hv1 : Boxed w1 (w.heap.size + 1) 3 (.int .i64 0) := (hb1.block (w.heap.size + 1) hrW).trans hv
    have hbw1 := after hB hb1
    have hc1 := hv1.cell
    have hf1 := hv1.frozen
    simp only [List.length_nil]
    clear hown HFR k0 k1
    gi_wp2
    have hK' := (KeepsOthers.setCell w1 ⟨w.heap.size + 1, 0, none⟩ (.int .i64 (-1))).same D _ hK1 rfl
    refine ⟨by simp, .inl ⟨_, _, rfl, run_takeDeferred hK', ?_⟩⟩
    have hc5 := cell_kept (hv1.set (.int .i64 (-1))).cell (grownBy_putObj' _ D (.deferred none)) (fun r e => by cases e; exact ⟨_, hK', rfl⟩)
    refine ⟨.int .i64 (-1), ?_, rfl, (hbw1.setCell (p := ⟨w.heap.size + 1, 0, none⟩) (by show _ ≤ _; simp) _).trans (belowK_b (w := w) (Nat.le_refl _) _ D _ _ (by omega) hK' rfl rfl)⟩
    simp [results, Tryz.results112, go_sem, hc5]
  case stop =>
    rintro D c pre W _ _ h _
    exact h.elim

end Go.Proofs.YtdicjbabnknjhaaGreat

namespace Go.Proofs.YtdicjbabnknjhaaGreat
open Go.RowKit

set_option maxHeartbeats 3200000 in
theorem implFtlOk_any (a b e0 : Option Addr) (ps : List ByteArray) (ws ms : List Int) (c d f : Nat) (q : Int) (w : World) (hp : Rd w a (vsString ps)) (hw : Rd w b (vsInt ws)) (hms : Rd w e0 (vsInt ms)) (hl : ps.length ≤ 1048576) (hm : ws.length ≤ 1048576) (hn : ms.length ≤ 1048576) (hs : ∀ s ∈ ps, s.size ≤ 1048576) :
    Calls Tryz.prog 62 #[.agg #[.slice a ps.length c, .slice b ws.length d, .slice e0 ms.length f, .int .i64 q]] w fun e w' => e = .returned (.bool (ftlOkB ps ws ms q)) ∧ Below w.heap.size w w' := by
  obtain ⟨W, hW⟩ : ∃ W, W = w.alloc (Obj.cells #[.slice a ps.length c, .slice b ws.length d, .slice e0 ms.length f, .int .i64 q] 34) := ⟨_, rfl⟩
  have hbW : Below w.heap.size w W := by subst hW; exact (Below.refl _ _).alloc (Nat.le_refl _) _
  have cW : W.cell? ⟨w.heap.size, 0, none⟩ = some (.slice a ps.length c) ∧ W.cell? ⟨w.heap.size, 1, none⟩ = some (.slice b ws.length d) ∧ W.cell? ⟨w.heap.size, 2, none⟩ = some (.slice e0 ms.length f) ∧ W.cell? ⟨w.heap.size, 3, none⟩ = some (.int .i64 q) ∧ w.heap.size < W.heap.size := by
    subst hW; refine ⟨?_, ?_, ?_, ?_, ?_⟩ <;> simp
  obtain ⟨x0, x1, x2, x3, hsz⟩ := cW
  by_cases hok : chipOkP ps ws
  · have hB := chipOkB_true hok
    obtain ⟨R, hR⟩ : ∃ R, R = ftlOkB ps ws ms q := ⟨_, rfl⟩
    have HR : Hid (R = (decide (mMap ps = ms) && decide (mSeq ps = q))) := by show _ = _; rw [hR, ftlOkB, hB]; simp
    rw [← hR]
    clear hR
    go_enter Tryz.func62, Tryz.ntmps62
    go_wp2_with fail
    rw [← hW]
    clear hW
    refine (implMount_ok a b ps ws c d W (hp.below hbW) (hw.below hbW) hok).mono ?_
    rintro e w1 ⟨v, rfl, hown, hb1⟩
    obtain ⟨a1, c1, b1, d1, e1, g1, rfl, -, -, ho3⟩ := ftl_open hown
    obtain ⟨V, hV⟩ : ∃ V, V = w1.alloc (Obj.cells #[.slice a1 ps.length c1, .slice b1 ws.length d1, .slice e1 (mMap ps).length g1, .int .i64 (mSeq ps)] 34) := ⟨_, rfl⟩
    have hbV : Below w1.heap.size w1 V := by rw [hV]; exact (Below.refl _ _).alloc (Nat.le_refl _) _
    have hWV := after hb1 hbV
    have k0 := (hb1.cell (p := ⟨w.heap.size, 0, none⟩) hsz).trans x0
    have k1 := (hb1.cell (p := ⟨w.heap.size, 1, none⟩) hsz).trans x1
    have hlt1 : w.heap.size < w1.heap.size := Nat.lt_of_lt_of_le hsz hb1.size
    have hsV : w1.heap.size < V.heap.size := by rw [hV]; simp
    have z2 : V.cell? ⟨w1.heap.size, 2, none⟩ = some (.slice e1 (mMap ps).length g1) := by rw [hV]; simp
    have z3 : V.cell? ⟨w1.heap.size, 3, none⟩ = some (.int .i64 (mSeq ps)) := by rw [hV]; simp
    have HM := hide ((rd_of_own ho3).below hbV)
    have HF := hide ((hms.below hbW).below hWV)
    have HP := hide ((hp.below hbW).below hWV)
    have HW := hide ((hw.below hbW).below hWV)
    have hbwV := after hbW hWV
    have y2 := (hWV.cell (p := ⟨w.heap.size, 2, none⟩) hsz).trans x2
    have y3 := (hWV.cell (p := ⟨w.heap.size, 3, none⟩) hsz).trans x3
    clear hown ho3 hb1 hbV x0 x1 x2 x3 hp hw hms hbW hWV hok
    go_wp2_with fail
    rw [← hV]
    clear hV k0 k1
    refine (implChipOk_any a b ps ws c d V HP.out HW.out hl hm hs).mono ?_
    rw [hB]
    rintro e w2 ⟨rfl, hb2⟩
    have s2 := (hb2.cell (p := ⟨w1.heap.size, 2, none⟩) hsV).trans z2
    have s3 := (hb2.cell (p := ⟨w1.heap.size, 3, none⟩) hsV).trans z3
    have t2 := (hb2.cell (p := ⟨w.heap.size, 2, none⟩) (show w.heap.size < V.heap.size by omega)).trans y2
    have t3 := (hb2.cell (p := ⟨w.heap.size, 3, none⟩) (show w.heap.size < V.heap.size by omega)).trans y3
    have HM2 := hide (HM.out.below hb2)
    have HF2 := hide (HF.out.below hb2)
    have hbw2 := after hbwV hb2
    clear z2 z3 y2 y3 HM HF HP HW hb2 hbwV hB hs
    go_wp2_with fail
    refine (equalInt_any e0 e1 ms (mMap ps) f g1 w2 HF2.out HM2.out hn (by rw [mMap_len]; decide)).mono ?_
    obtain ⟨D, hD⟩ : ∃ D, D = decide (mMap ps = ms) := ⟨_, rfl⟩
    rw [show decide (ms = mMap ps) = decide (mMap ps = ms) from decide_eq_decide.2 ⟨Eq.symm, Eq.symm⟩, ← hD]
    rintro e u ⟨rfl, n, hu⟩
    have u2 : u.cell? ⟨w1.heap.size, 3, none⟩ = some (.int .i64 (mSeq ps)) := by rw [hu]; exact s3
    have u3 : u.cell? ⟨w.heap.size, 3, none⟩ = some (.int .i64 q) := by rw [hu]; exact t3
    have hbwu : Below w.heap.size w u := by rw [hu]; exact after_drew hbw2 n
    clear hu s2 s3 t2 t3 HM2 HF2 hbw2
    cases D with
    | false =>
      have HRF : Hid (R = false) := by show _ = _; rw [HR.out, ← hD]; rfl
      clear hD HR
      go_wp2
      go_ret
      exact ⟨ret_bool HRF.out.symm, hbwu⟩
    | true =>
      have HRF : Hid (R = (q == mSeq ps)) := by show _ = _; rw [HR.out, ← hD, Bool.true_and]; exact decide_eq_decide.2 ⟨Eq.symm, Eq.symm⟩
      clear hD HR
      go_wp2
      go_ret
      exact ⟨ret_bool HRF.out.symm, hbwu⟩
  · have hB := chipOkB_false hok
    have HR : Hid (ftlOkB ps ws ms q = false) := by show _ = _; rw [ftlOkB, hB]; rfl
    go_enter Tryz.func62, Tryz.ntmps62
    go_wp2_with fail
    rw [← hW]
    clear hW
    refine (implMount_bad a b ps ws c d W (hp.below hbW) (hw.below hbW) hl hm hs hok).mono ?_
    rintro e w1 ⟨v, rfl, hown, hb1⟩
    obtain ⟨a1, c1, b1, d1, e1, g1, rfl, -⟩ := ftl_open hown
    obtain ⟨V, hV⟩ : ∃ V, V = w1.alloc (Obj.cells #[.slice a1 ([] : List ByteArray).length c1, .slice b1 ([] : List Int).length d1, .slice e1 ([] : List Int).length g1, .int .i64 0] 34) := ⟨_, rfl⟩
    have hbV : Below w1.heap.size w1 V := by rw [hV]; exact (Below.refl _ _).alloc (Nat.le_refl _) _
    have hWV := after hb1 hbV
    have k0 := (hb1.cell (p := ⟨w.heap.size, 0, none⟩) hsz).trans x0
    have k1 := (hb1.cell (p := ⟨w.heap.size, 1, none⟩) hsz).trans x1
    have hlt1 : w.heap.size < w1.heap.size := Nat.lt_of_lt_of_le hsz hb1.size
    have HP := hide ((hp.below hbW).below hWV)
    have HW := hide ((hw.below hbW).below hWV)
    have hbwV := after hbW hWV
    clear hown hb1 hbV x0 x1 x2 x3 hp hw hms hbW hWV hok
    simp only [List.length_nil] at hV
    go_wp2_with fail
    rw [← hV]
    clear hV k0 k1
    refine (implChipOk_any a b ps ws c d V HP.out HW.out hl hm hs).mono ?_
    rw [hB]
    rintro e w2 ⟨rfl, hb2⟩
    have hbw2 := after hbwV hb2
    clear HP HW hb2 hB hs
    go_wp2
    go_ret
    exact ⟨ret_bool HR.out.symm, hbw2⟩

theorem fnExactFtlOk_both (ps : List ByteArray) (ws : List Int) (ms : List Int) (q : Int)  (hk0 : ps.length ≤ 1048576) (hk1 : ws.length ≤ 1048576) (hk2 : ms.length ≤ 1048576) (hs : ∀ s ∈ ps, s.size ≤ 1048576) (_hq : (Lit.int .i64 q).wf = true)  :
    ∃  (S0 : Bool), Hid (∀ (u : World) (v : Value), FtlRd u v ps ws ms q → Calls Tryz.prog 24 #[v] u fun e w' => e = .returned (.bool S0) ∧ Below u.heap.size u w') ∧ Hid (∀ (u : World) (v : Value), FtlRd u v ps ws ms q → Calls Tryz.prog 62 #[v] u fun e w' => e = .returned (.bool S0) ∧ Below u.heap.size u w') := by
  refine ⟨ftlOkB ps ws ms q, ?_, ?_⟩
  · rintro u v ⟨a, c, b, d, e, f, rfl, h1, h2, h3⟩
    exact specFtlOk_any a b e ps ws ms c d f q u h1 h2 h3 hk0 hk1 hk2 hs
  · rintro u v ⟨a, c, b, d, e, f, rfl, h1, h2, h3⟩
    exact implFtlOk_any a b e ps ws ms c d f q u h1 h2 h3 hk0 hk1 hk2 hs

end Go.Proofs.YtdicjbabnknjhaaGreat
