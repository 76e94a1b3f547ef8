/-
  Contracts of cmp.Compare at int, of NextPage's closure, and of slices.MinFunc with it.
  Contract of the program's FreeBlocks; what the two answer: the same.
  Contract of the program's NextPage.
-/
import Derived.Test.YtelbannfbglgcaaJMounted14
import Derived.Test.YtelbannfbglgcaaJMounted12
import Derived.RangeFuncCalls
import Derived.RangeFuncBound
namespace Go.Proofs.Ytelbannfbglgcaa
open Go.RowKit

/-- As cmp.Compare has it. -/
def cmpI (x y : Int) : Int := if x < y then -1 else if y < x then 1 else 0

set_option maxHeartbeats 400000 in
theorem isNaN_any (x : Int) (w : World) : Calls Try.prog 117 #[.int .i64 x] w fun e w' => e = .returned (.bool false) ∧ w' = w := by
  have ht : (x != x) = false := by simp
  go_enter Try.func117, Try.ntmps117
  go_wp2
  go_ret
  exact ⟨rfl, rfl⟩

set_option maxHeartbeats 400000 in
theorem compare_any (x y : Int) (w : World) : Calls Try.prog 86 #[.int .i64 x, .int .i64 y] w fun e w' => e = .returned (.int .i64 (cmpI x y)) ∧ w' = w := by
  obtain ⟨R, hR⟩ : ∃ R, R = cmpI x y := ⟨_, rfl⟩
  rw [← hR]
  by_cases h1 : x < y
  · have HR : Hid (R = -1) := by show _ = _; rw [hR, cmpI, if_pos h1]
    clear hR
    go_enter Try.func86, Try.ntmps86
    go_wp2_with (go_at_call 117; refine (isNaN_any _ _).mono ?_; rintro e u ⟨rfl, hu⟩; have hu' := hu.symm; subst hu')
    go_ret
    exact ⟨by rw [HR.out]; rfl, rfl⟩
  · by_cases h2 : y < x
    · have HR : Hid (R = 1) := by show _ = _; rw [hR, cmpI, if_neg h1, if_pos h2]
      clear hR
      go_enter Try.func86, Try.ntmps86
      go_wp2_with (go_at_call 117; refine (isNaN_any _ _).mono ?_; rintro e u ⟨rfl, hu⟩; have hu' := hu.symm; subst hu')
      go_ret
      exact ⟨by rw [HR.out]; rfl, rfl⟩
    · have HR : Hid (R = 0) := by show _ = _; rw [hR, cmpI, if_neg h1, if_neg h2]
      clear hR
      go_enter Try.func86, Try.ntmps86
      go_wp2_with (go_at_call 117; refine (isNaN_any _ _).mono ?_; rintro e u ⟨rfl, hu⟩; have hu' := hu.symm; subst hu')
      go_ret
      exact ⟨by rw [HR.out]; rfl, rfl⟩

set_option maxHeartbeats 800000 in
theorem wearCmp_any (p : Nat) (b : Option Addr) (ws : List Int) (d A B : Nat) (w : World) (hc : w.cell? ⟨p, 1, none⟩ = some (.slice b ws.length d)) (hw : Rd w b (vsInt ws)) (_hm : ws.length ≤ 1048576) (hA : A < ws.length) (hB : B < ws.length) :
    Calls Try.prog 85 #[.int .i64 A, .int .i64 B, .pointer (some ⟨p, 0, none⟩)] w fun e w' => e = .returned (.int .i64 (cmpI (ws[A]?.getD 0) (ws[B]?.getD 0))) ∧ ∃ n, w' = w.drewN n := by
  obtain ⟨bb, ob, x, rfl, hcx, HX⟩ := rdInt_at hw hA
  obtain ⟨bb', ob', y, hb', hcy, HY⟩ := rdInt_at hw hB
  simp at hb'
  obtain ⟨rfl, rfl⟩ := hb'
  rw [HX.out, HY.out]
  simp only [Option.getD_some]
  have HC := hide (compare_any x y)
  clear hw
  go_enter Try.func85, Try.ntmps85
  go_wp2
  go_quiet ((go_at_call 86; exact Calls.quiet_of_same (HC.out _)))
  go_wp2
  go_ret
  exact ⟨rfl, _, rfl⟩

set_option maxRecDepth 100000 in
set_option maxHeartbeats 1600000 in
theorem minFunc_any (p : Nat) (a b : Option Addr) (L ws : List Int) (c d : Nat) (w : World) (hL : Rd w a (vsInt L)) (hc : w.cell? ⟨p, 1, none⟩ = some (.slice b ws.length d)) (hw : Rd w b (vsInt ws)) (hm : ws.length = 10) (hl : L.length ≤ 1048576) (hb : ∀ x ∈ L, 0 ≤ x ∧ x < 10) (hne : L ≠ []) :
    Calls Try.prog 84 #[.slice a L.length c, .func (.func 85) #[] #[.pointer (some ⟨p, 0, none⟩)]] w fun e w' => e = .returned (.int .i64 (minF ws L)) ∧ ∃ n, w' = w.drewN n := by
  have hpos : 0 < L.length := List.length_pos_iff.2 hne
  have HB := hide hb
  have HCW := hide (And.intro hc hw)
  have HM := hide hm
  obtain ⟨ba, oa, z, rfl, hck, HZ⟩ := rdInt_at hL hpos
  have hz := hb z (List.mem_of_getElem? HZ.out)
  rw [Nat.add_zero] at hck
  have HS1 : Hid (minF ws (L.take 1) = z) := by
    show _ = _
    have := minF_take (ws := ws) (k := 0) HZ.out
    rw [show (0 : Nat) + 1 = 1 from rfl] at this
    rw [this]
    simp [minF, minS]
  have hlen1 : ¬ ((L.length : Int) < 1) := by omega
  clear hb hne hc hw hm
  go_enter Try.func84, Try.ntmps84
  go_wp2
  go_loopw [5, 6] (fun m i wr => ∃ k : Nat, 1 ≤ k ∧ k ≤ L.length ∧ i = .int .i64 k ∧ m = .int .i64 (minF ws (L.take k)) ∧ ∃ n, wr = w.drewN n) (fun _ i _ => L.length - (intOf i).toNat)
  case atStart => exact ⟨1, by omega, by omega, rfl, by rw [HS1.out], 0, rfl⟩
  case round =>
    obtain ⟨k, hk1, hk, rfl, rfl, n, rfl⟩ := hrel
    by_cases hlt : k < L.length
    · obtain ⟨ba', oa', x, hb', hcx, HX⟩ := rdInt_at hL hlt
      simp at hb'
      obtain ⟨rfl, rfl⟩ := hb'
      have hx := HB.out x (List.mem_of_getElem? HX.out)
      have hmm := minF_mem (ws := ws) (L.take k) (fun x hx => HB.out x (List.mem_of_mem_take hx)) (List.ne_nil_of_length_pos (by rw [List.length_take]; omega))
      have HE := hide (minF_take (ws := ws) HX.out)
      obtain ⟨M, hM⟩ : ∃ M, M = minF ws (L.take k) := ⟨_, rfl⟩
      rw [← hM] at hmm HE ⊢
      obtain ⟨X, rfl⟩ : ∃ X : Nat, x = X := ⟨x.toNat, by omega⟩
      obtain ⟨M', rfl⟩ : ∃ M' : Nat, M = M' := ⟨M.toNat, by omega⟩
      have HW := hide (wearCmp_any p b ws d X M' (w.drewN n) (by simpa using HCW.out.1) (HCW.out.2.below (after_drew (Below.refl _ _) n)) (by rw [HM.out]; decide) (by have := HM.out; omega) (by have := HM.out; omega))
      clear hM hL
      by_cases hcmp : ws[X]?.getD 0 < ws[M']?.getD 0
      · have e1 : cmpI (ws[X]?.getD 0) (ws[M']?.getD 0) = -1 := by rw [cmpI, if_pos hcmp]
        rw [e1] at HW
        have HE2 : Hid (minF ws (L.take (k + 1)) = X) := by show _ = _; rw [HE.out, minS, if_pos (.inr (by simpa using hcmp))]
        clear e1 hcmp
        go_wp2_with (refine HW.out.mono ?_; rintro e u ⟨rfl, n2, hu⟩; rw [World.drewN_drewN] at hu; have hcx' : u.cell? ⟨ba, oa + k, none⟩ = some (.int .i64 X) := by rw [hu]; exact hcx)
        exact ⟨⟨k + 1, by omega, by omega, by go_num, by rw [HE2.out], _, rfl⟩, by simp [intOf]; omega⟩
      · have HE2 : Hid (minF ws (L.take (k + 1)) = M') := by show _ = _; rw [HE.out, minS, if_neg (by simp; omega)]
        obtain ⟨z1, hz1, hz2⟩ : ∃ z1, z1 = cmpI (ws[X]?.getD 0) (ws[M']?.getD 0) ∧ ¬ z1 < 0 := ⟨_, rfl, by unfold cmpI; rw [if_neg hcmp]; split <;> omega⟩
        rw [← hz1] at HW
        clear hz1 hcmp
        go_wp2_with (refine HW.out.mono ?_; rintro e u ⟨rfl, n2, hu⟩; rw [World.drewN_drewN] at hu)
        exact ⟨⟨k + 1, by omega, by omega, by go_num, by rw [HE2.out], _, rfl⟩, by simp [intOf]; omega⟩
    · have HE : Hid (L.take k = L) := List.take_of_length_le (by omega)
      clear hL
      go_wp2
      go_ret
      exact ⟨by rw [HE.out]; rfl, _, rfl⟩

end Go.Proofs.Ytelbannfbglgcaa

namespace Go.Proofs.Ytelbannfbglgcaa
open Go.RowKit Go.Shelf

attribute [local go_sem] Oper.semAt_some

theorem boxed2_row {W : World} {Bn : Nat} {x y : Value} {t e : TypeId} {base size k : Nat} {v : Value} {xs : List Value} (h : W.heap[Bn]? = some (.cells #[x, y] t (0, 0))) (hte : t ≠ e) (hr : W.ownsRow base e size v k xs) : some Bn ≠ v.ownBlock := by
  rcases hr.2 with ⟨rfl, _⟩ | ⟨g, cap, cur, rfl, _, hgb, _⟩
  · simp [Value.ownBlock]
  · intro e'
    obtain rfl : Bn = g := by simpa [Value.ownBlock] using e'
    have := h.symm.trans hgb
    simp at this
    exact hte this.2

theorem bn_kept {W w1 : World} {Bf Bn : Nat} {x y v v' : Value} {t e : TypeId} {base size k : Nat} {xs : List Value} {tmp : Obj} (h : W.heap[Bn]? = some (.cells #[x, y] t (0, 0))) (hte : t ≠ e) (hr : W.ownsRow base e size v k xs) (hgrow : (W.alloc tmp).grownBy w1 v.ownBlock) (hne : Bf ≠ Bn) : (w1.setCell ⟨Bf, 0, none⟩ v').heap[Bn]? = W.heap[Bn]? := by
  have hl := (Array.getElem?_eq_some_iff.1 h).1
  rw [heap_setCell_other w1 ⟨Bf, 0, none⟩ Bn v' (fun e => hne e.symm), hgrow.block Bn (by simp; omega) (boxed2_row h hte hr), Below.heap_alloc W _ Bn hl]

/-- What holds between two blocks: the variable 'free' at block Bf, the chip's box at Bn. -/
def FreeI (ps : List ByteArray) (w : World) (Bf Bn : Nat) (x y : Value) (pre : List (Fin 10)) (W : World) : Prop :=
  ((∃ v, Boxed W Bf 25 v ∧ W.ownsRow w.heap.size 3 1 v (freeL ps pre).length (vsInt (freeL ps pre)) ∧ True) ∧ W.heap[Bn]? = some (.cells #[x, y] 27 (0, 0))) ∧ Below w.heap.size w W

theorem freeI_own (ps : List ByteArray) (w : World) (Bf Bn : Nat) (x y : Value) (B : Nat) (hB : w.heap.size ≤ B) : OwnFrom B (FreeI ps w Bf Bn x y) := by
  refine OwnFrom.and (Own.from ?_ _) (ownFrom_below (Nat.le_refl _) hB)
  intro s A C row hs hg hr
  refine ⟨(holdsRow_own w.heap.size Bf 25 3 1 (fun pre => (freeL ps pre).length) (fun pre => vsInt (freeL ps pre)) (fun _ _ => True)) s A C row hs.1 hg hr, (hg.block Bn (Array.getElem?_eq_some_iff.1 hs.2).1 (fun e => ?_)).trans hs.2⟩
  obtain ⟨o, ho, hc⟩ := hr Bn e.symm
  rw [hs.2] at ho; cases ho; cases hc

set_option maxRecDepth 100000 in
set_option maxHeartbeats 6000000 in
theorem implFree_ok (a b : Option Addr) (ps : List ByteArray) (ws : List Int) (c d : Nat) (w : World) (hp : Rd w a (vsString ps)) (hw : Rd w b (vsInt ws)) (hok : chipOkP ps ws) (hcap : 60 ≤ c) :
    Calls Try.prog 37 #[.agg #[.slice a ps.length c, .slice b ws.length d]] w fun e w' => ∃ v, e = .returned v ∧ IntsOwn w' w.heap.size v (freeB ps 10) ∧ Below w.heap.size w w' := by
  obtain ⟨i0, hi, hz0, hz1, hz2⟩ := info_parts infoInt
  obtain ⟨ba, oa, rfl, -⟩ := rd_at (k := 0) hp (by have := hok.1; simp; omega)
  obtain ⟨W0, hW0⟩ : ∃ W0, W0 = (w.alloc (Obj.cells #[.slice (some ⟨ba, oa, none⟩) ps.length c, .slice b ws.length d] 27)).alloc (Obj.cells #[.slice none 0 0] 25) := ⟨_, rfl⟩
  obtain ⟨V, hV⟩ : ∃ V, V = W0.alloc (Obj.cells #[.slice (some ⟨ba, oa, none⟩) ps.length c, .slice b ws.length d] 27) := ⟨_, rfl⟩
  have hs0 : W0.heap.size = w.heap.size + 1 + 1 := by rw [hW0]; simp
  have hsV : V.heap.size = w.heap.size + 1 + 1 + 1 := by rw [hV]; simp [hs0]
  have hb0 : Below w.heap.size w W0 := by rw [hW0]; exact ((Below.refl _ _).alloc (Nat.le_refl _) _).alloc (by simp) _
  have hbV : Below w.heap.size w V := by rw [hV]; exact hb0.alloc hb0.size _
  have bF : Boxed V (w.heap.size + 1) 25 (.slice none 0 0) := by
    have := Boxed.new (w.alloc (Obj.cells #[.slice (some ⟨ba, oa, none⟩) ps.length c, .slice b ws.length d] 27)) 25 (.slice none 0 0)
    rw [World.size_alloc, ← hW0] at this
    rw [hV]; exact this.alloc _
  have bN : V.heap[w.heap.size + 1 + 1]? = some (.cells #[.slice (some ⟨ba, oa, none⟩) ps.length c, .slice b ws.length d] 27 (0, 0)) := by
    have := World.alloc_heap_new W0 (Obj.cells #[.slice (some ⟨ba, oa, none⟩) ps.length c, .slice b ws.length d] 27)
    rw [hs0, ← hV] at this; exact this
  have y0 : W0.cell? ⟨w.heap.size, 0, none⟩ = some (.slice (some ⟨ba, oa, none⟩) ps.length c) := by rw [hW0]; simp [go_sem]
  have y1 : W0.cell? ⟨w.heap.size, 1, none⟩ = some (.slice b ws.length d) := by rw [hW0]; simp [go_sem]
  have HST := hide (blocks_stops (3 - 1) (by decide) (w.heap.size + 1 + 1) w.heap.size ba oa b ps ws c d V bN (hp.below hbV) (hw.below hbV) hok hcap)
  have HBO := hide (blocksOf_any (some ⟨ba, oa, none⟩) b ps.length ws.length c d W0)
  rw [← hV, hs0] at HBO
  have HP := hide hp
  have HL := hide hok.1
  have hl60 : ps.length ≤ 60 := by have := hok.1; omega
  clear hp hw hok
  refine (callsIn_wide (n := 3)).1 ?_
  refine callsIn_of_wp_marks Try.func37 rfl trivial ?_ rfl
  simp only [Try.ntmps37, List.size_toArray, List.length_cons, List.length_nil, Nat.reduceAdd, Nat.reduceSub, Array.replicate_succ, Array.replicate_zero, List.push_toArray, List.append_toArray, List.nil_append, List.cons_append]
  gi_wp2_with (first | (rw [← hW0]; clear hW0) | (refine ⟨trivial, ?_⟩; gi_at_call 81; refine (callsIn_wide.2 HBO.out).mono ?_; rintro e u ⟨rfl, hu⟩; have hu' := hu.symm; subst hu') | (gi_at_call 81; refine (callsIn_wide.2 HBO.out).mono ?_; rintro e u ⟨rfl, hu⟩; have hu' := hu.symm; subst hu'))
  rw [← hV]
  clear hV HBO hu y0 y1
  refine wpIn_rangeFunc_ownG (F := Fence.wide) (n := 3) rfl (by decide) (gf := 116) (lb := #[.pointer (some ⟨w.heap.size + 1 + 1, 0, none⟩)]) rfl trivial (enters_of Try.func116 (by kernel_rfl) rfl)
    HST.out kpB_t (kpB_b (by omega) (by omega)) (Below.refl _ _) (fun _ => rfl)
    (FreeI ps w (w.heap.size + 1) (w.heap.size + 1 + 1) (.slice (some ⟨ba, oa, none⟩) ps.length c) (.slice b ws.length d)) (fun _ _ _ => False)
    (freeI_own ps w _ _ _ _ _ (by omega)) (fun _ _ _ _ _ hs _ _ => hs)
    ⟨⟨⟨_, bF, World.ownsRow_nil _ _ _ _, trivial⟩, bN⟩, hbV⟩
    (fun x => { tmps := #[.agg #[.slice (some ⟨ba, oa, none⟩) ps.length c, .slice b ws.length d], .pointer (some ⟨w.heap.size, 0, none⟩), .slice none 0 0, .pointer (some ⟨w.heap.size + 1, 0, none⟩), .int .i64 ((x.val : Nat) : Int), .slice (some ⟨ba, oa + x.val * 6, none⟩) 6 (c - x.val * 6), .agg #[.slice (some ⟨ba, oa, none⟩) ps.length c, .slice b ws.length d], .func (.func 116) #[] #[.pointer (some ⟨w.heap.size + 1 + 1, 0, none⟩)], .int .i64 ((x.val : Nat) : Int), .slice (some ⟨ba, oa + x.val * 6, none⟩) 6 (c - x.val * 6), undef, undef, undef, undef, undef, undef, undef], defers := [] }) ?assign ?body ?done ?stop
  case assign =>
    intro l x W K hK
    simp only [encB]
    gi_wp2
    exact hK
  case body =>
    rintro l pre x W ⟨⟨⟨v, hv, hrow, -⟩, hbn⟩, hB⟩ hlt
    have hc := hv.cell
    have hpl := freeL_len ps pre
    have HAC := hide (allClear_any (some ⟨ba, oa + x.val * 6, none⟩) (pagesOf ps x.val) (c - x.val * 6) W (rd_pages x.val (HP.out.below hB)) (by rw [pagesOf_len HL.out x.isLt]; decide))
    rw [pagesOf_len HL.out x.isLt] at HAC
    have hx10 := x.isLt
    have HBN := hide hbn
    clear bF bN HST hbn
    cases hcl : allClrB (pagesOf ps x.val) with
    | true =>
      rw [hcl] at HAC
      have HE := hide (freeL_hit pre hcl)
      clear hcl
      gi_wp2_with (first
        | (refine ⟨trivial, ?_⟩; gi_at_call 83; refine (CallsIn.inRound l (callsIn_wide.2 HAC.out)).mono ?_; rintro e u ⟨rfl, hu⟩; have hu' := hu.symm; subst hu'; clear HAC)
        | (gi_at_call 83; refine (CallsIn.inRound l (callsIn_wide.2 HAC.out)).mono ?_; rintro e u ⟨rfl, hu⟩; have hu' := hu.symm; subst hu'; clear HAC)
        | (gi_at_builtin; refine wpListIn_append_own _ rfl _ _ 25 rfl w.heap.size 3 i0 (.int .i64 0) 1 8 Try.underlying25 hi hz0 hz1 hz2 rfl (by decide) _ _ _ rfl (hrow.alloc _) ⟨W.heap.size, 0, none⟩ 1 1 [.int .i64 ((x.val : Nat) : Int)] rfl rfl (cell_one_new _ _ _) (by simp [Value.oneCell']) (by unfold maxLen; omega) (by omega) (by have := hB.size; simp; omega) ?_; intro v' w1 hown' hgrow _; obtain ⟨g', cap', rfl⟩ := ownsRow_succ hown'; obtain ⟨hv1, hv2, hr2, hk2, hb2⟩ := hv.appended (by decide) hrow hB.size (by omega) hown' hgrow; have hc1 := hv1.cell; have hf1 := hv1.frozen))
      have hbk := bn_kept (Bf := w.heap.size + 1) (v' := .slice (some ⟨g', 0, none⟩) ((freeL ps pre).length + 1) cap') HBN.out (by decide) hrow hgrow (by omega)
      exact ⟨hk2.from _, ⟨hb2, hbk⟩, ⟨⟨_, hv2, by rw [HE.out]; simpa using hr2, trivial⟩, hbk.trans HBN.out⟩, hB.trans hb2⟩
    | false =>
      rw [hcl] at HAC
      have HE := hide (freeL_miss pre hcl)
      clear hcl
      gi_wp2_with (first
        | (refine ⟨trivial, ?_⟩; gi_at_call 83; refine (CallsIn.inRound l (callsIn_wide.2 HAC.out)).mono ?_; rintro e u ⟨rfl, hu⟩; have hu' := hu.symm; subst hu'; clear HAC)
        | (gi_at_call 83; refine (CallsIn.inRound l (callsIn_wide.2 HAC.out)).mono ?_; rintro e u ⟨rfl, hu⟩; have hu' := hu.symm; subst hu'; clear HAC))
      exact ⟨KeepsFrom.refl _ _, KpB.refl _ _ _, ⟨⟨v, hv, by rw [HE.out]; exact hrow, trivial⟩, HBN.out⟩, hB⟩
  case done =>
    rintro D ys W hD rfl ⟨⟨⟨v, hv, hrow, -⟩, hbn⟩, hB⟩ hK
    have hc := hv.cell
    rw [freeL_blk HL.out 10 (Nat.le_refl _)] at hrow
    clear bF bN HST
    gi_wp2
    refine ⟨by simp, .inl ⟨_, _, rfl, run_takeDeferred hK, ?_⟩⟩
    exact ⟨_, results_tmp rfl _ _ _, v, rfl, ownsRow_putObj hrow _ hK rfl, hB.trans (belowK_b (w := w) (Nat.le_refl _) W D _ _ (by omega) hK rfl rfl)⟩
  case stop =>
    rintro D c pre W _ _ h _
    exact h.elim

set_option maxRecDepth 100000 in
set_option maxHeartbeats 6000000 in
theorem implFree_bad (a b : Option Addr) (ps : List ByteArray) (ws : List Int) (c d : Nat) (w : World) (hp : Rd w a (vsString ps)) (hw : Rd w b (vsInt ws)) (hl : ps.length ≤ 1048576) (hm : ws.length ≤ 1048576) (hs : ∀ s ∈ ps, s.size ≤ 1048576) (hok : ¬ chipOkP ps ws) :
    Calls Try.prog 37 #[.agg #[.slice a ps.length c, .slice b ws.length d]] w fun e w' => ∃ v, e = .returned v ∧ IntsOwn w' w.heap.size v [] ∧ Below w.heap.size w w' := by
  obtain ⟨W0, hW0⟩ : ∃ W0, W0 = (w.alloc (Obj.cells #[.slice a ps.length c, .slice b ws.length d] 27)).alloc (Obj.cells #[.slice none 0 0] 25) := ⟨_, rfl⟩
  obtain ⟨V, hV⟩ : ∃ V, V = W0.alloc (Obj.cells #[.slice a ps.length c, .slice b ws.length d] 27) := ⟨_, rfl⟩
  have hs0 : W0.heap.size = w.heap.size + 1 + 1 := by rw [hW0]; simp
  have hsV : V.heap.size = w.heap.size + 1 + 1 + 1 := by rw [hV]; simp [hs0]
  have hb0 : Below w.heap.size w W0 := by rw [hW0]; exact ((Below.refl _ _).alloc (Nat.le_refl _) _).alloc (by simp) _
  have hbV : Below w.heap.size w V := by rw [hV]; exact hb0.alloc hb0.size _
  have bF : Boxed V (w.heap.size + 1) 25 (.slice none 0 0) := by
    have := Boxed.new (w.alloc (Obj.cells #[.slice a ps.length c, .slice b ws.length d] 27)) 25 (.slice none 0 0)
    rw [World.size_alloc, ← hW0] at this
    rw [hV]; exact this.alloc _
  have bN : V.heap[w.heap.size + 1 + 1]? = some (.cells #[.slice a ps.length c, .slice b ws.length d] 27 (0, 0)) := by
    have := World.alloc_heap_new W0 (Obj.cells #[.slice a ps.length c, .slice b ws.length d] 27)
    rw [hs0, ← hV] at this; exact this
  have y0 : W0.cell? ⟨w.heap.size, 0, none⟩ = some (.slice a ps.length c) := by rw [hW0]; simp [go_sem]
  have y1 : W0.cell? ⟨w.heap.size, 1, none⟩ = some (.slice b ws.length d) := by rw [hW0]; simp [go_sem]
  have HST := hide (blocks_none (3 - 1) (by decide) (w.heap.size + 1 + 1) w.heap.size 0 0 a b ps ws c d V bN (hp.below hbV) (hw.below hbV) hl hm hs hok)
  have HBO := hide (blocksOf_any a b ps.length ws.length c d W0)
  rw [← hV, hs0] at HBO
  clear hp hw hok hs
  refine (callsIn_wide (n := 3)).1 ?_
  refine callsIn_of_wp_marks Try.func37 rfl trivial ?_ rfl
  simp only [Try.ntmps37, List.size_toArray, List.length_cons, List.length_nil, Nat.reduceAdd, Nat.reduceSub, Array.replicate_succ, Array.replicate_zero, List.push_toArray, List.append_toArray, List.nil_append, List.cons_append]
  gi_wp2_with (first | (rw [← hW0]; clear hW0) | (refine ⟨trivial, ?_⟩; gi_at_call 81; refine (callsIn_wide.2 HBO.out).mono ?_; rintro e u ⟨rfl, hu⟩; have hu' := hu.symm; subst hu') | (gi_at_call 81; refine (callsIn_wide.2 HBO.out).mono ?_; rintro e u ⟨rfl, hu⟩; have hu' := hu.symm; subst hu'))
  rw [← hV]
  clear hV HBO hu y0 y1
  refine wpIn_rangeFunc_ownG (F := Fence.wide) (n := 3) rfl (by decide) (gf := 116) (lb := #[.pointer (some ⟨w.heap.size + 1 + 1, 0, none⟩)]) rfl trivial (enters_of Try.func116 (by kernel_rfl) rfl)
    HST.out kpB_t (kpB_b (by omega) (by omega)) (Below.refl _ _) (fun _ => rfl)
    (FreeI ps w (w.heap.size + 1) (w.heap.size + 1 + 1) (.slice a ps.length c) (.slice b ws.length d)) (fun _ _ _ => False)
    (freeI_own ps w _ _ _ _ _ (by omega)) (fun _ _ _ _ _ hs _ _ => hs)
    ⟨⟨⟨_, bF, World.ownsRow_nil _ _ _ _, trivial⟩, bN⟩, hbV⟩
    (fun x => { tmps := #[.agg #[.slice a ps.length c, .slice b ws.length d], .pointer (some ⟨w.heap.size, 0, none⟩), .slice none 0 0, .pointer (some ⟨w.heap.size + 1, 0, none⟩), .int .i64 ((x.val : Nat) : Int), .slice (some ⟨0, 0 + x.val * 6, none⟩) 6 (c - x.val * 6), .agg #[.slice a ps.length c, .slice b ws.length d], .func (.func 116) #[] #[.pointer (some ⟨w.heap.size + 1 + 1, 0, none⟩)], .int .i64 ((x.val : Nat) : Int), .slice (some ⟨0, 0 + x.val * 6, none⟩) 6 (c - x.val * 6), undef, undef, undef, undef, undef, undef, undef], defers := [] }) ?assign ?body ?done ?stop
  case assign =>
    intro l x W K hK
    simp only [encB]
    gi_wp2
    simpa using hK
  case body =>
    intro l pre x W _ hlt
    exact absurd hlt (by omega)
  case done =>
    rintro D ys W hD rfl ⟨⟨⟨v, hv, hrow, -⟩, hbn⟩, hB⟩ hK
    have hc := hv.cell
    clear bF bN HST
    gi_wp2
    refine ⟨by simp, .inl ⟨_, _, rfl, run_takeDeferred hK, ?_⟩⟩
    exact ⟨_, results_tmp rfl _ _ _, v, rfl, ownsRow_putObj hrow _ hK rfl, hB.trans (belowK_b (w := w) (Nat.le_refl _) W D _ _ (by omega) hK rfl rfl)⟩
  case stop =>
    rintro D c pre W _ _ h _
    exact h.elim

end Go.Proofs.Ytelbannfbglgcaa

namespace Go.Proofs.Ytelbannfbglgcaa
open Go.RowKit Go.Shelf

attribute [local go_sem] Oper.semAt_some

/-- What holds between two blocks: none was begun; the result's variable at block Br, the chip's box at Bn. -/
def NextI (ps : List ByteArray) (w : World) (Br Bn : Nat) (x y : Value) (pre : List (Fin 10)) (W : World) : Prop :=
  (((∀ z ∈ pre, ¬ hitP ps z.val) ∧ Boxed W Br 3 (.int .i64 0)) ∧ W.heap[Bn]? = some (.cells #[x, y] 27 (0, 0)) ∧ W.heap[w.heap.size]? = some (.cells #[x, y] 27 (0, 0))) ∧ Below w.heap.size w W
/-- It was left at a block that is begun. -/
def NextX (ps : List ByteArray) (w : World) (Br : Nat) (c : Code) (pre : List (Fin 10)) (W : World) : Prop :=
  (c = .ret ∧ ∃ (pre0 : List (Fin 10)) (x : Fin 10), pre = pre0 ++ [x] ∧ (∀ z ∈ pre0, ¬ hitP ps z.val) ∧ hitP ps x.val ∧ Boxed W Br 3 (.int .i64 (((x.val : Nat) : Int) * 6 + 6 - (clr ps x.val 6).1))) ∧ Below w.heap.size w W

theorem boxed_kept {A C : World} {row : Option Nat} {B : Nat} {t : TypeId} {v : Value} (h : Boxed A B t v) (hg : A.grownBy C row) (hr : ∀ r, row = some r → ∃ o : Obj, A.heap[r]? = some o ∧ o.isCells = false) : Boxed C B t v := by
  refine h.kept hg (fun e => ?_)
  obtain ⟨o, ho, hc⟩ := hr B e.symm
  rw [show A.heap[B]? = _ from h] at ho; cases ho; cases hc
theorem heap2_kept {A C : World} {row : Option Nat} {Bn : Nat} {x y : Value} {t : TypeId} (h : A.heap[Bn]? = some (.cells #[x, y] t (0, 0))) (hg : A.grownBy C row) (hr : ∀ r, row = some r → ∃ o : Obj, A.heap[r]? = some o ∧ o.isCells = false) : C.heap[Bn]? = some (.cells #[x, y] t (0, 0)) := by
  refine (hg.block Bn (Array.getElem?_eq_some_iff.1 h).1 (fun e => ?_)).trans h
  obtain ⟨o, ho, hc⟩ := hr Bn e.symm
  rw [h] at ho; cases ho; cases hc
theorem nextI_own (ps : List ByteArray) (w : World) (Br Bn : Nat) (x y : Value) (B : Nat) (hB : w.heap.size ≤ B) : OwnFrom B (NextI ps w Br Bn x y) :=
  OwnFrom.and (Own.from (fun _ _ _ _ hs hg hr => ⟨⟨hs.1.1, boxed_kept hs.1.2 hg hr⟩, heap2_kept hs.2.1 hg hr, heap2_kept hs.2.2 hg hr⟩) _) (ownFrom_below (Nat.le_refl _) hB)
theorem nextX_own (ps : List ByteArray) (w : World) (Br : Nat) (B : Nat) (hB : w.heap.size ≤ B) (c : Code) : OwnFrom B (NextX ps w Br c) :=
  OwnFrom.and (Own.from (fun _ _ _ _ hs hg hr => ⟨hs.1, by obtain ⟨-, p0, z, h1, h2, h3, h4⟩ := hs; exact ⟨p0, z, h1, h2, h3, boxed_kept h4 hg hr⟩⟩) _) (ownFrom_below (Nat.le_refl _) hB)

theorem FirstAt.unique {α : Type} {xs : List α} {x : α} {r r' : Int} (h : FirstAt xs x r) (h' : FirstAt xs x r') : r = r' := by
  rcases h with ⟨rfl, h⟩ | ⟨i, rfl, h1, h2⟩ <;> rcases h' with ⟨rfl, h'⟩ | ⟨i', rfl, h1', h2'⟩
  · rfl
  · exact absurd (List.mem_of_getElem? h1') h
  · exact absurd (List.mem_of_getElem? h1) h'
  · rcases Nat.lt_trichotomy i i' with h | h | h
    · exact absurd (List.mem_iff_getElem?.2 ⟨i, by rw [List.getElem?_take_of_lt h]; exact h1⟩) h2'
    · rw [h]
    · exact absurd (List.mem_iff_getElem?.2 ⟨i', by rw [List.getElem?_take_of_lt h]; exact h1'⟩) h2
theorem firstAt_ex {α : Type} (xs : List α) (x : α) : ∃ r, FirstAt xs x r := by
  induction xs with
  | nil => exact ⟨-1, .inl ⟨rfl, by simp⟩⟩
  | cons y ys ih =>
    by_cases hy : y = x
    · exact ⟨(0 : Nat), .inr ⟨0, rfl, by simp [hy], by simp⟩⟩
    · obtain ⟨r, ⟨rfl, h⟩ | ⟨i, rfl, h1, h2⟩⟩ := ih
      · exact ⟨-1, .inl ⟨rfl, by simp [Ne.symm hy, h]⟩⟩
      · exact ⟨((i + 1 : Nat) : Int), .inr ⟨i + 1, rfl, by simpa using h1, by simp [Ne.symm hy, h2]⟩⟩
theorem rdS_drop {w : World} {ba o i : Nat} {xs : List ByteArray} (h : Rd w (some ⟨ba, o, none⟩) (vsString xs)) : Rd w (some ⟨ba, o + i, none⟩) (vsString (xs.drop i)) := by
  rcases h with h | ⟨b, off, ha, hc⟩
  · left; simp at h; subst h; simp
  · simp at ha
    obtain ⟨rfl, rfl⟩ := ha
    refine .inr ⟨ba, o + i, rfl, fun j v hv => ?_⟩
    rw [List.getElem?_map, List.getElem?_drop, ← List.getElem?_map] at hv
    rw [show o + i + j = o + (i + j) by omega]
    exact hc (i + j) v hv
theorem mem_blk {k : Nat} {x : Fin 10} : x ∈ blk k ↔ x.val < k := by
  unfold blk
  rw [List.mem_iff_getElem?]
  constructor
  · rintro ⟨i, hi⟩
    rw [List.getElem?_take] at hi
    split at hi
    · rename_i h
      have : i < 10 := by
        rcases Nat.lt_or_ge i 10 with h' | h'
        · exact h'
        · rw [List.getElem?_eq_none (by simpa using h')] at hi; cases hi
      simp [this] at hi
      subst hi
      exact h
    · cases hi
  · intro h
    refine ⟨x.val, ?_⟩
    rw [List.getElem?_take_of_lt h]
    simp [x.isLt]

set_option maxRecDepth 100000 in
set_option maxHeartbeats 6000000 in
theorem implNext_ok (a b : Option Addr) (ps : List ByteArray) (ws : List Int) (c d : Nat) (w : World) (hp : Rd w a (vsString ps)) (hw : Rd w b (vsInt ws)) (hok : chipOkP ps ws) (hcap : 60 ≤ c) :
    Calls Try.prog 35 #[.agg #[.slice a ps.length c, .slice b ws.length d]] w fun e w' => e = .returned (.int .i64 (nextP ps ws)) ∧ Below w.heap.size w w' := by
  obtain ⟨R, hR⟩ : ∃ R, R = nextP ps ws := ⟨_, rfl⟩
  rw [← hR]
  have hmf : ∀ (fn : Fn) (first cap : Array Value) (w : World), (Instr.makeFunc fn first cap).run Try.prog w = .ok (.func fn first cap) w := fun _ _ _ _ => rfl
  obtain ⟨ba, oa, rfl, -⟩ := rd_at (k := 0) hp (by have := hok.1; simp; omega)
  obtain ⟨W0, hW0⟩ : ∃ W0, W0 = (w.alloc (Obj.cells #[.slice (some ⟨ba, oa, none⟩) ps.length c, .slice b ws.length d] 27)).alloc (Obj.cells #[.int .i64 0] 3) := ⟨_, rfl⟩
  obtain ⟨V, hV⟩ : ∃ V, V = W0.alloc (Obj.cells #[.slice (some ⟨ba, oa, none⟩) ps.length c, .slice b ws.length d] 27) := ⟨_, rfl⟩
  have hs0 : W0.heap.size = w.heap.size + 1 + 1 := by rw [hW0]; simp
  have hsV : V.heap.size = w.heap.size + 1 + 1 + 1 := by rw [hV]; simp [hs0]
  have hb0 : Below w.heap.size w W0 := by rw [hW0]; exact ((Below.refl _ _).alloc (Nat.le_refl _) _).alloc (by simp) _
  have hb0V : Below W0.heap.size W0 V := by rw [hV]; exact (Below.refl _ _).alloc (Nat.le_refl _) _
  have hbV : Below w.heap.size w V := after hb0 hb0V
  have bR : Boxed V (w.heap.size + 1) 3 (.int .i64 0) := by
    have := Boxed.new (w.alloc (Obj.cells #[.slice (some ⟨ba, oa, none⟩) ps.length c, .slice b ws.length d] 27)) 3 (.int .i64 0)
    rw [World.size_alloc, ← hW0] at this
    rw [hV]; exact this.alloc _
  have bN : V.heap[w.heap.size + 1 + 1]? = some (.cells #[.slice (some ⟨ba, oa, none⟩) ps.length c, .slice b ws.length d] 27 (0, 0)) := by
    have := World.alloc_heap_new W0 (Obj.cells #[.slice (some ⟨ba, oa, none⟩) ps.length c, .slice b ws.length d] 27)
    rw [hs0, ← hV] at this; exact this
  have bC : V.heap[w.heap.size]? = some (.cells #[.slice (some ⟨ba, oa, none⟩) ps.length c, .slice b ws.length d] 27 (0, 0)) := by
    have h1 := World.alloc_heap_new w (Obj.cells #[.slice (some ⟨ba, oa, none⟩) ps.length c, .slice b ws.length d] 27)
    have h2 : W0.heap[w.heap.size]? = some (.cells #[.slice (some ⟨ba, oa, none⟩) ps.length c, .slice b ws.length d] 27 (0, 0)) := by rw [hW0, Below.heap_alloc _ _ _ (by simp)]; exact h1
    exact (hb0V.block w.heap.size (by omega)).trans h2
  have y0 : W0.cell? ⟨w.heap.size, 0, none⟩ = some (.slice (some ⟨ba, oa, none⟩) ps.length c) := by rw [hW0]; simp [go_sem]
  have y1 : W0.cell? ⟨w.heap.size, 1, none⟩ = some (.slice b ws.length d) := by rw [hW0]; simp [go_sem]
  have HST := hide (blocks_stops (3 - 1) (by decide) (w.heap.size + 1 + 1) w.heap.size ba oa b ps ws c d V bN (hp.below hbV) (hw.below hbV) hok hcap)
  have HBO := hide (blocksOf_any (some ⟨ba, oa, none⟩) b ps.length ws.length c d W0)
  rw [← hV, hs0] at HBO
  have HP := hide hp
  have HW := hide hw
  have HOK := hide hok
  have HL := hide hok.1
  have HR := hide hR
  have hl60 : ps.length ≤ 60 := by have := hok.1; omega
  have z0 := (hb0V.cell (p := ⟨w.heap.size, 0, none⟩) (lt_of_cell y0)).trans y0
  have z1 := (hb0V.cell (p := ⟨w.heap.size, 1, none⟩) (lt_of_cell y1)).trans y1
  clear hp hw hok hR
  refine (callsIn_wide (n := 3)).1 ?_
  refine callsIn_of_wp_marks Try.func35 rfl trivial ?_ rfl
  simp only [Try.ntmps35, List.size_toArray, List.length_cons, List.length_nil, Nat.reduceAdd, Nat.reduceSub, Array.replicate_succ, Array.replicate_zero, List.push_toArray, List.append_toArray, List.nil_append, List.cons_append]
  gi_wp2_with (first | (rw [← hW0]; clear hW0) | (refine ⟨trivial, ?_⟩; gi_at_call 81; refine (callsIn_wide.2 HBO.out).mono ?_; rintro e u ⟨rfl, hu⟩; have hu' := hu.symm; subst hu') | (gi_at_call 81; refine (callsIn_wide.2 HBO.out).mono ?_; rintro e u ⟨rfl, hu⟩; have hu' := hu.symm; subst hu'))
  rw [← hV]
  clear hV HBO hu y0 y1
  refine wpIn_rangeFunc_ownG (F := Fence.wide) (n := 3) rfl (by decide) (gf := 116) (lb := #[.pointer (some ⟨w.heap.size + 1 + 1, 0, none⟩)]) rfl trivial (enters_of Try.func116 (by kernel_rfl) rfl)
    HST.out kpB_t (kpB_b (by omega) (by omega)) (Below.refl _ _) (fun _ => rfl)
    (NextI ps w (w.heap.size + 1) (w.heap.size + 1 + 1) (.slice (some ⟨ba, oa, none⟩) ps.length c) (.slice b ws.length d)) (NextX ps w (w.heap.size + 1))
    (nextI_own ps w _ _ _ _ _ (by omega)) (fun c => nextX_own ps w _ _ (by omega) c)
    ⟨⟨⟨by simp, bR⟩, bN, bC⟩, hbV⟩
    (fun x => { tmps := #[.agg #[.slice (some ⟨ba, oa, none⟩) ps.length c, .slice b ws.length d], .pointer (some ⟨w.heap.size, 0, none⟩), .pointer (some ⟨w.heap.size + 1, 0, none⟩), .int .i64 ((x.val : Nat) : Int), .slice (some ⟨ba, oa + x.val * 6, none⟩) 6 (c - x.val * 6), undef, undef, .agg #[.slice (some ⟨ba, oa, none⟩) ps.length c, .slice b ws.length d], .func (.func 116) #[] #[.pointer (some ⟨w.heap.size + 1 + 1, 0, none⟩)], .int .i64 ((x.val : Nat) : Int), .slice (some ⟨ba, oa + x.val * 6, none⟩) 6 (c - x.val * 6), undef, undef, undef, undef, undef, undef, undef, undef, undef, undef, undef, undef, undef, undef, undef, undef, undef, undef, undef, undef, undef, undef, undef], defers := [] }) ?assign ?body ?done ?stop
  case assign =>
    intro l x W K hK
    simp only [encB]
    gi_wp2
    exact hK
  case body =>
    rintro l pre x W ⟨⟨⟨hno, hv⟩, hbn, hbc⟩, hB⟩ hlt
    have hx10 := x.isLt
    obtain ⟨r, hr⟩ := firstAt_ex (pagesOf ps x.val) ByteArray.empty
    have HIX : Hid (Calls Try.prog 82 #[.slice (some ⟨ba, oa + x.val * 6, none⟩) 6 (c - x.val * 6), .string ⟨#[]⟩] W fun e w' => e = .returned (.int .i64 r) ∧ w' = W) := by
      have := indexString_any (some ⟨ba, oa + x.val * 6, none⟩) (pagesOf ps x.val) (c - x.val * 6) W (rd_pages x.val (HP.out.below hB)) (by rw [pagesOf_len HL.out x.isLt]; decide)
      rw [pagesOf_len HL.out x.isLt] at this
      exact this.mono fun e w' h => by obtain ⟨⟨r', rfl, h1⟩, h2⟩ := h; exact ⟨by rw [h1.unique hr], h2⟩
    have HNO := hide hno
    have HBN := hide (And.intro hbn hbc)
    have hcv := hv.cell
    have hfv := hv.frozen
    have HV := hide hv
    have HF := hide hr
    clear bR bN bC HST hno hbn hbc hv z0 z1
    by_cases hr0 : r ≤ 0
    · have HNH := hide (hit_no HL.out hx10 hr (.inl hr0))
      have hnr : ¬ 0 < r := by omega
      clear hr
      gi_wp2_with (first
        | (refine ⟨trivial, ?_⟩; gi_at_call 82; refine (CallsIn.inRound l (callsIn_wide.2 HIX.out)).mono ?_; rintro e u ⟨rfl, hu⟩; have hu' := hu.symm; subst hu'; clear HIX)
        | (gi_at_call 82; refine (CallsIn.inRound l (callsIn_wide.2 HIX.out)).mono ?_; rintro e u ⟨rfl, hu⟩; have hu' := hu.symm; subst hu'; clear HIX))
      refine ⟨trivial, ?_⟩
      gi_wp2
      exact ⟨KeepsFrom.refl _ _, KpB.refl _ _ _, ⟨⟨fun z hz => (List.mem_append.1 hz).elim (HNO.out z) (fun h => by simp at h; rw [h]; exact HNH.out), HV.out⟩, HBN.out.1, HBN.out.2⟩, hB⟩
    · obtain ⟨i, rfl⟩ : ∃ i : Nat, r = i := ⟨r.toNat, by omega⟩
      have hi6 : i < 6 := by
        have := hr.mem.2.2
        rw [pagesOf_len HL.out hx10] at this
        omega
      have HAC := hide (allClear_any (some ⟨ba, oa + x.val * 6 + i, none⟩) ((pagesOf ps x.val).drop i) (c - x.val * 6 - i) W (rdS_drop (rd_pages x.val (HP.out.below hB))) (by rw [List.length_drop, pagesOf_len HL.out x.isLt]; omega))
      rw [List.length_drop, pagesOf_len HL.out x.isLt] at HAC
      have hi0 : (0 : Int) < (i : Int) := by omega
      have hi6' : (i : Int) ≤ 6 := by omega
      have hcne : ¬ c - x.val * 6 = i := by omega
      by_cases hall : AllClr ((pagesOf ps x.val).drop i)
      · have HH := hide (hit_yes HL.out hx10 (by omega) hr hall)
        rw [allClrB_true hall] at HAC
        clear hr hall hr0
        gi_wp2_with (first
          | (refine ⟨trivial, ?_⟩; gi_at_call 82; refine (CallsIn.inRound l (callsIn_wide.2 HIX.out)).mono ?_; rintro e u ⟨rfl, hu⟩; have hu' := hu.symm; subst hu'; clear HIX)
          | (gi_at_call 82; refine (CallsIn.inRound l (callsIn_wide.2 HIX.out)).mono ?_; rintro e u ⟨rfl, hu⟩; have hu' := hu.symm; subst hu'; clear HIX)
          | (refine ⟨trivial, ?_⟩; gi_at_call 83; refine (CallsIn.inRound l (callsIn_wide.2 HAC.out)).mono ?_; rintro e u ⟨rfl, hu⟩; have hu' := hu.symm; subst hu'; clear HAC)
          | (gi_at_call 83; refine (CallsIn.inRound l (callsIn_wide.2 HAC.out)).mono ?_; rintro e u ⟨rfl, hu⟩; have hu' := hu.symm; subst hu'; clear HAC))
        exact ⟨(KeepsOthers.setCell _ _ _).from _, ⟨rfl, pre, x, rfl, HNO.out, HH.out.1, by rw [HH.out.2]; exact HV.out.set _⟩, hB.setCell (p := ⟨w.heap.size + 1, 0, none⟩) (by show _ ≤ _; simp) _⟩
      · have HNH := hide (hit_no HL.out hx10 hr (.inr (by rw [Int.toNat_natCast]; exact hall)))
        rw [allClrB_false hall] at HAC
        clear hr hall hr0
        gi_wp2_with (first
          | (refine ⟨trivial, ?_⟩; gi_at_call 82; refine (CallsIn.inRound l (callsIn_wide.2 HIX.out)).mono ?_; rintro e u ⟨rfl, hu⟩; have hu' := hu.symm; subst hu'; clear HIX)
          | (gi_at_call 82; refine (CallsIn.inRound l (callsIn_wide.2 HIX.out)).mono ?_; rintro e u ⟨rfl, hu⟩; have hu' := hu.symm; subst hu'; clear HIX)
          | (refine ⟨trivial, ?_⟩; gi_at_call 83; refine (CallsIn.inRound l (callsIn_wide.2 HAC.out)).mono ?_; rintro e u ⟨rfl, hu⟩; have hu' := hu.symm; subst hu'; clear HAC)
          | (gi_at_call 83; refine (CallsIn.inRound l (callsIn_wide.2 HAC.out)).mono ?_; rintro e u ⟨rfl, hu⟩; have hu' := hu.symm; subst hu'; clear HAC))
        exact ⟨KeepsFrom.refl _ _, KpB.refl _ _ _, ⟨⟨fun z hz => (List.mem_append.1 hz).elim (HNO.out z) (fun h => by simp at h; rw [h]; exact HNH.out), HV.out⟩, HBN.out.1, HBN.out.2⟩, hB⟩
  case done =>
    rintro D ys W hD rfl ⟨⟨⟨hno, hv⟩, hbn, hbc⟩, hB⟩ hK
    have HNX := hide (nextP_none (ws := ws) (fun b hb => hno ⟨b, hb⟩ (mem_blk.2 hb)))
    have HFR := hide (implFree_ok (some ⟨ba, oa, none⟩) b ps ws c d W (HP.out.below hB) (HW.out.below hB) HOK.out hcap)
    have k0 : W.cell? ⟨w.heap.size, 0, none⟩ = some (.slice (some ⟨ba, oa, none⟩) ps.length c) := by simp [World.cell?, hbc]
    have k1 : W.cell? ⟨w.heap.size, 1, none⟩ = some (.slice b ws.length d) := by simp [World.cell?, hbc]
    have hDW : D < W.heap.size := (Array.getElem?_eq_some_iff.1 hK).1
    have hcW : w.heap.size < W.heap.size := lt_of_cell k0
    have hrW : w.heap.size + 1 < W.heap.size := hv.lt
    clear bR bN bC HST z0 z1 hno hbn hbc
    gi_wp2_with fail
    refine ⟨trivial, ?_⟩
    refine (callsIn_wide.2 HFR.out).mono ?_
    rintro e w1 ⟨v, rfl, hown, hb1⟩
    obtain ⟨fa, fc, rfl⟩ := owns_shape hown
    have hK1 : w1.heap[D]? = some (.deferred (some [])) := (hb1.block D hDW).trans hK
    have hv1 : Boxed w1 (w.heap.size + 1) 3 (.int .i64 0) := (hb1.block (w.heap.size + 1) hrW).trans hv
    have hbw1 := after hB hb1
    by_cases hnil : freeB ps 10 = []
    · have HRV : Hid (R = -1) := by show _ = _; rw [HR.out, HNX.out, if_pos hnil]
      have hc1 := hv1.cell
      have hf1 := hv1.frozen
      rw [hnil]
      clear HNX hnil hown HFR k0 k1
      gi_wp2
      have hK' := (KeepsOthers.setCell w1 ⟨w.heap.size + 1, 0, none⟩ (.int .i64 (-1))).same D _ hK1 rfl
      refine ⟨by simp, .inl ⟨_, _, rfl, run_takeDeferred hK', ?_⟩⟩
      have hc5 := cell_kept (hv1.set (.int .i64 (-1))).cell (grownBy_putObj' _ D (.deferred none)) (fun r e => by cases e; exact ⟨_, hK', rfl⟩)
      refine ⟨.int .i64 R, ?_, rfl, (hbw1.setCell (p := ⟨w.heap.size + 1, 0, none⟩) (by show _ ≤ _; simp) _).trans (belowK_b (w := w) (Nat.le_refl _) _ D _ _ (by omega) hK' rfl rfl)⟩
      rw [HRV.out]
      simp [results, Try.results35, go_sem, hc5]
    · have hbd : ∀ x ∈ freeB ps 10, 0 ≤ x ∧ x < 10 := fun x hx => by have := freeB_bd ps 10 x hx; omega
      have hmb := minF_mem (ws := ws) _ hbd hnil
      have HRV : Hid (R = 6 * minF ws (freeB ps 10)) := by show _ = _; rw [HR.out, HNX.out, if_neg hnil, Int.mul_comm]
      have hlen := freeB_len ps 10
      have hpos : 0 < (freeB ps 10).length := List.length_pos_iff.2 hnil
      have k1' := (hb1.cell (p := ⟨w.heap.size, 1, none⟩) hcW).trans k1
      have HMN := hide (minFunc_any w.heap.size fa b (freeB ps 10) ws fc d w1 (rd_of_own hown) k1' (HW.out.below hbw1) HOK.out.2.1 (by omega) hbd hnil)
      obtain ⟨M, hM⟩ : ∃ M, M = minF ws (freeB ps 10) := ⟨_, rfl⟩
      rw [← hM] at hmb HRV HMN
      have hlz : ¬ (((freeB ps 10).length : Int) == 0) = true := by simp; omega
      have hc1 := hv1.cell
      have hf1 := hv1.frozen
      have HV1 := hide hv1
      have HK1 := hide hK1
      clear HNX hnil hown HFR k0 k1 hM hbd k1' hv1 hK1
      gi_wp2_with fail
      refine ⟨trivial, ?_⟩
      refine (callsIn_wide.2 HMN.out).mono ?_
      rintro e u ⟨rfl, n, hu⟩
      have hc2 : u.cell? ⟨w.heap.size + 1, 0, none⟩ = some (.int .i64 0) := by rw [hu]; exact hc1
      have hf2 : u.frozen? ⟨w.heap.size + 1, 0, none⟩ = false := by rw [hu]; exact hf1
      have HU := hide hu
      clear hu HMN hc1 hf1
      gi_wp2
      have hKu : u.heap[D]? = some (.deferred (some [])) := by rw [HU.out]; exact HK1.out
      have hvu : Boxed u (w.heap.size + 1) 3 (.int .i64 0) := by rw [HU.out]; exact HV1.out
      have hbu : Below w.heap.size w u := by rw [HU.out]; exact after_drew hbw1 n
      have hK' := (KeepsOthers.setCell u ⟨w.heap.size + 1, 0, none⟩ (.int .i64 (6 * M))).same D _ hKu rfl
      refine ⟨by simp, .inl ⟨_, _, rfl, run_takeDeferred hK', ?_⟩⟩
      have hc5 := cell_kept (hvu.set (.int .i64 (6 * M))).cell (grownBy_putObj' _ D (.deferred none)) (fun r e => by cases e; exact ⟨_, hK', rfl⟩)
      refine ⟨.int .i64 R, ?_, rfl, (hbu.setCell (p := ⟨w.heap.size + 1, 0, none⟩) (by show _ ≤ _; simp) _).trans (belowK_b (w := w) (Nat.le_refl _) _ D _ _ (by omega) hK' rfl rfl)⟩
      rw [HRV.out]
      simp [results, Try.results35, go_sem, hc5]
  case stop =>
    rintro D c' pre W hD ⟨k, hk, hpre⟩ ⟨⟨rfl, pre0, x, hpx, hno, hh, hv⟩, hB⟩ hK
    have HRV : Hid (R = ((x.val : Nat) : Int) * 6 + 6 - (clr ps x.val 6).1) := by
      show _ = _
      rw [HR.out]
      have hk0 : 0 < k := by
        have := congrArg List.length (hpre.symm.trans hpx)
        rw [blk_len hk] at this
        simp at this; omega
      have hsplit : blk (k - 1) ++ [⟨k - 1, by omega⟩] = pre0 ++ [x] := by
        rw [← blk_succ, show k - 1 + 1 = k by omega, ← hpre, hpx]
      obtain ⟨e1, e2⟩ := List.append_inj' hsplit rfl
      simp at e2
      refine nextP_hit x.isLt hh (fun b hb => ?_)
      have : b < k - 1 := by rw [← e2] at hb; exact hb
      exact hno ⟨b, by omega⟩ (by rw [← e1]; exact mem_blk.2 this)
    clear bR bN bC HST z0 z1 hpx hpre hno hh
    gi_wp2
    refine ⟨by simp, .inl ⟨_, _, rfl, run_takeDeferred hK, ?_⟩⟩
    have hc5 := cell_kept hv.cell (grownBy_putObj' _ D (.deferred none)) (fun r e => by cases e; exact ⟨_, hK, rfl⟩)
    refine ⟨.int .i64 R, ?_, rfl, hB.trans (belowK_b (w := w) (Nat.le_refl _) W D _ _ (by omega) hK rfl rfl)⟩
    rw [HRV.out]
    simp [results, Try.results35, go_sem, hc5]

end Go.Proofs.Ytelbannfbglgcaa
