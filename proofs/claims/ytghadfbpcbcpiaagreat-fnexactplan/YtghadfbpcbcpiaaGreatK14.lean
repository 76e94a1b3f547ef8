/-
  The pages of a block, and which blocks are free: as the program and as the specification count.
  Contract of the program's FreeBlocks; what the two answer: the same.
  Contracts of the specification's l4Copy, and of FreeBlocks of a chip that is not right.
  What the two FreeBlocks answer, of any chip: the same.
-/
import Derived.Test.YtghadfbpcbcpiaaGreatK13
import Derived.Test.YtghadfbpcbcpiaaGreatK8
import Derived.RangeFuncCalls
import Derived.RangeFuncBound
import Derived.Test.YtghadfbpcbcpiaaGreatK7
import Derived.Deep.RegionHeldLaw
import Derived.Deep.RegionLawGrows
namespace Go.Proofs.YtghadfbpcbcpiaaGreat
open Go.RowKit

/-- The pages of a block. -/
def pagesOf (ps : List ByteArray) (B : Nat) : List ByteArray := (ps.drop (B * 6)).take 6
theorem pagesOf_len {ps : List ByteArray} {B : Nat} (hl : ps.length = 60) (hB : B < 10) : (pagesOf ps B).length = 6 := by simp [pagesOf]; omega
theorem pagesOf_at {ps : List ByteArray} {B j : Nat} (hj : j < 6) : (pagesOf ps B)[j]? = ps[B * 6 + j]? := by
  simp [pagesOf, hj, List.getElem?_drop]
theorem rd_pages {w : World} {ba oa : Nat} {ps : List ByteArray} (B : Nat) (h : Rd w (some ⟨ba, oa, none⟩) (vsString ps)) : Rd w (some ⟨ba, oa + B * 6, none⟩) (vsString (pagesOf ps B)) := by
  rcases h with h | ⟨b, off, ha, hc⟩
  · left; simp at h; subst h; simp [pagesOf]
  · simp at ha
    obtain ⟨rfl, rfl⟩ := ha
    refine .inr ⟨ba, oa + B * 6, rfl, fun i v hv => ?_⟩
    have hi : i < 6 := by
      rcases Nat.lt_or_ge i 6 with h' | h'
      · exact h'
      · have : (pagesOf ps B).length ≤ 6 := by simp [pagesOf]; omega
        rw [List.getElem?_map, List.getElem?_eq_none (by omega)] at hv; simp at hv
    rw [List.getElem?_map, pagesOf_at hi, ← List.getElem?_map] at hv
    have := hc (B * 6 + i) v hv
    rw [show oa + B * 6 + i = oa + (B * 6 + i) by omega]
    exact this

/-- The first i pages of a block are all clear just where so many are. -/
theorem clr_all (ps : List ByteArray) (B : Nat) : ∀ i, ((clr ps B i).1 = i ↔ ∀ j, j < i → ps[B * 6 + j]?.getD ByteArray.empty = ByteArray.empty) := by
  intro i
  induction i with
  | zero => simp [clr]
  | succ i ih =>
    have hb := clr_bd ps B i
    unfold clr
    split
    · rename_i h
      simp only []
      constructor
      · intro he j hj
        by_cases hji : j = i
        · rw [hji]; exact h
        · exact (ih.1 (by omega)) j (by omega)
      · intro hall
        have := ih.2 (fun j hj => hall j (by omega))
        omega
    · rename_i h
      simp only []
      constructor
      · intro he; omega
      · intro hall; exact absurd (hall i (by omega)) h
theorem free_iff {ps : List ByteArray} {B : Nat} (hl : ps.length = 60) (hB : B < 10) : (clr ps B 6).1 = 6 ↔ AllClr (pagesOf ps B) := by
  have := clr_all ps B 6
  rw [show ((6 : Nat) : Int) = 6 from rfl] at this
  rw [this]
  constructor
  · intro h x hx
    obtain ⟨j, hj⟩ := List.mem_iff_getElem?.1 hx
    have hj6 : j < 6 := by
      rcases Nat.lt_or_ge j 6 with h' | h'
      · exact h'
      · rw [List.getElem?_eq_none (by rw [pagesOf_len hl hB]; exact h')] at hj; cases hj
    rw [pagesOf_at hj6] at hj
    have := h j hj6
    rw [hj] at this
    exact this
  · intro h j hj
    have hlt : B * 6 + j < ps.length := by omega
    have : ps[B * 6 + j]? = some ps[B * 6 + j] := by simp [hlt]
    rw [this]
    refine h _ (List.mem_iff_getElem?.2 ⟨j, ?_⟩)
    rw [pagesOf_at hj, this]; rfl

/-- The free ones of some blocks. -/
noncomputable def freeL (ps : List ByteArray) (xs : List (Fin 10)) : List Int := (xs.filter (fun x => allClrB (pagesOf ps x.val))).map (fun x => ((x.val : Nat) : Int))
theorem freeL_hit {ps : List ByteArray} (xs : List (Fin 10)) {x : Fin 10} (h : allClrB (pagesOf ps x.val) = true) : freeL ps (xs ++ [x]) = freeL ps xs ++ [((x.val : Nat) : Int)] := by simp [freeL, h]
theorem freeL_miss {ps : List ByteArray} (xs : List (Fin 10)) {x : Fin 10} (h : allClrB (pagesOf ps x.val) = false) : freeL ps (xs ++ [x]) = freeL ps xs := by simp [freeL, h]
theorem freeL_len (ps : List ByteArray) (xs : List (Fin 10)) : (freeL ps xs).length ≤ xs.length := by
  unfold freeL; rw [List.length_map]; exact List.length_filter_le _ _
theorem freeL_blk {ps : List ByteArray} (hl : ps.length = 60) : ∀ k, k ≤ 10 → freeL ps (blk k) = freeB ps k := by
  intro k
  induction k with
  | zero => intro _; simp [freeL, blk, freeB]
  | succ k ih =>
    intro hk
    have hk' : k < 10 := by omega
    rw [blk_succ hk']
    by_cases h : AllClr (pagesOf ps k)
    · rw [freeL_hit _ (x := ⟨k, hk'⟩) (allClrB_true h), ih (by omega), freeB, if_pos ((free_iff hl hk').2 h)]
    · rw [freeL_miss _ (x := ⟨k, hk'⟩) (allClrB_false h), ih (by omega), freeB, if_neg (fun h' => h ((free_iff hl hk').1 h'))]

end Go.Proofs.YtghadfbpcbcpiaaGreat

namespace Go.Proofs.YtghadfbpcbcpiaaGreat
open Go.RowKit Go.Shelf

attribute [local go_sem] Oper.semAt_some

theorem boxed2_row {W : World} {Bn : Nat} {x y : Value} {t e : TypeId} {base size k : Nat} {v : Value} {xs : List Value} (h : W.heap[Bn]? = some (.cells #[x, y] t (0, 0))) (hte : t ≠ e) (hr : W.ownsRow base e size v k xs) : some Bn ≠ v.ownBlock := by
  rcases hr.2 with ⟨rfl, _⟩ | ⟨g, cap, cur, rfl, _, hgb, _⟩
  · simp [Value.ownBlock]
  · intro e'
    obtain rfl : Bn = g := by simpa [Value.ownBlock] using e'
    have := h.symm.trans hgb
    simp at this
    exact hte this.2

theorem bn_kept {W w1 : World} {Bf Bn : Nat} {x y v v' : Value} {t e : TypeId} {base size k : Nat} {xs : List Value} {tmp : Obj} (h : W.heap[Bn]? = some (.cells #[x, y] t (0, 0))) (hte : t ≠ e) (hr : W.ownsRow base e size v k xs) (hgrow : (W.alloc tmp).grownBy w1 v.ownBlock) (hne : Bf ≠ Bn) : (w1.setCell ⟨Bf, 0, none⟩ v').heap[Bn]? = W.heap[Bn]? := by
  have hl := (Array.getElem?_eq_some_iff.1 h).1
  rw [heap_setCell_other w1 ⟨Bf, 0, none⟩ Bn v' (fun e => hne e.symm), hgrow.block Bn (by simp; omega) (boxed2_row h hte hr), Below.heap_alloc W _ Bn hl]

/-- What holds between two blocks: the variable 'free' at block Bf, the chip's box at Bn. -/
def FreeI (ps : List ByteArray) (w : World) (Bf Bn : Nat) (x y : Value) (pre : List (Fin 10)) (W : World) : Prop :=
  ((∃ v, Boxed W Bf 23 v ∧ W.ownsRow w.heap.size 3 1 v (freeL ps pre).length (vsInt (freeL ps pre)) ∧ True) ∧ W.heap[Bn]? = some (.cells #[x, y] 30 (0, 0))) ∧ Below w.heap.size w W

theorem freeI_own (ps : List ByteArray) (w : World) (Bf Bn : Nat) (x y : Value) (B : Nat) (hB : w.heap.size ≤ B) : OwnFrom B (FreeI ps w Bf Bn x y) := by
  refine OwnFrom.and (Own.from ?_ _) (ownFrom_below (Nat.le_refl _) hB)
  intro s A C row hs hg hr
  refine ⟨(holdsRow_own w.heap.size Bf 23 3 1 (fun pre => (freeL ps pre).length) (fun pre => vsInt (freeL ps pre)) (fun _ _ => True)) s A C row hs.1 hg hr, (hg.block Bn (Array.getElem?_eq_some_iff.1 hs.2).1 (fun e => ?_)).trans hs.2⟩
  obtain ⟨o, ho, hc⟩ := hr Bn e.symm
  rw [hs.2] at ho; cases ho; cases hc

set_option maxRecDepth 100000 in
set_option maxHeartbeats 6000000 in
theorem implFree_ok (a b : Option Addr) (ps : List ByteArray) (ws : List Int) (c d : Nat) (w : World) (hp : Rd w a (vsString ps)) (hw : Rd w b (vsInt ws)) (hok : chipOkP ps ws) (hcap : 60 ≤ c) :
    Calls Tryz.prog 73 #[.agg #[.slice a ps.length c, .slice b ws.length d]] w fun e w' => ∃ v, e = .returned v ∧ IntsOwn w' w.heap.size v (freeB ps 10) ∧ Below w.heap.size w w' := by
  obtain ⟨i0, hi, hz0, hz1, hz2⟩ := info_parts infoInt
  obtain ⟨ba, oa, rfl, -⟩ := rd_at (k := 0) hp (by have := hok.1; simp; omega)
  obtain ⟨W0, hW0⟩ : ∃ W0, W0 = (w.alloc (Obj.cells #[.slice (some ⟨ba, oa, none⟩) ps.length c, .slice b ws.length d] 30)).alloc (Obj.cells #[.slice none 0 0] 23) := ⟨_, rfl⟩
  obtain ⟨V, hV⟩ : ∃ V, V = W0.alloc (Obj.cells #[.slice (some ⟨ba, oa, none⟩) ps.length c, .slice b ws.length d] 30) := ⟨_, rfl⟩
  have hs0 : W0.heap.size = w.heap.size + 1 + 1 := by rw [hW0]; simp
  have hsV : V.heap.size = w.heap.size + 1 + 1 + 1 := by rw [hV]; simp [hs0]
  have hb0 : Below w.heap.size w W0 := by rw [hW0]; exact ((Below.refl _ _).alloc (Nat.le_refl _) _).alloc (by simp) _
  have hbV : Below w.heap.size w V := by rw [hV]; exact hb0.alloc hb0.size _
  have bF : Boxed V (w.heap.size + 1) 23 (.slice none 0 0) := by
    have := Boxed.new (w.alloc (Obj.cells #[.slice (some ⟨ba, oa, none⟩) ps.length c, .slice b ws.length d] 30)) 23 (.slice none 0 0)
    rw [World.size_alloc, ← hW0] at this
    rw [hV]; exact this.alloc _
  have bN : V.heap[w.heap.size + 1 + 1]? = some (.cells #[.slice (some ⟨ba, oa, none⟩) ps.length c, .slice b ws.length d] 30 (0, 0)) := by
    have := World.alloc_heap_new W0 (Obj.cells #[.slice (some ⟨ba, oa, none⟩) ps.length c, .slice b ws.length d] 30)
    rw [hs0, ← hV] at this; exact this
  have y0 : W0.cell? ⟨w.heap.size, 0, none⟩ = some (.slice (some ⟨ba, oa, none⟩) ps.length c) := by rw [hW0]; simp [go_sem]
  have y1 : W0.cell? ⟨w.heap.size, 1, none⟩ = some (.slice b ws.length d) := by rw [hW0]; simp [go_sem]
  have HST := hide (blocks_stops (3 - 1) (by decide) (w.heap.size + 1 + 1) w.heap.size ba oa b ps ws c d V bN (hp.below hbV) (hw.below hbV) hok hcap)
  have HBO := hide (blocksOf_any (some ⟨ba, oa, none⟩) b ps.length ws.length c d W0)
  rw [← hV, hs0] at HBO
  have HP := hide hp
  have HL := hide hok.1
  have hl60 : ps.length ≤ 60 := by have := hok.1; omega
  clear hp hw hok
  refine (callsIn_wide (n := 3)).1 ?_
  refine callsIn_of_wp_marks Tryz.func73 rfl trivial ?_ rfl
  simp only [Tryz.ntmps73, List.size_toArray, List.length_cons, List.length_nil, Nat.reduceAdd, Nat.reduceSub, Array.replicate_succ, Array.replicate_zero, List.push_toArray, List.append_toArray, List.nil_append, List.cons_append]
  gi_wp2_with (first | (rw [← hW0]; clear hW0) | (refine ⟨trivial, ?_⟩; gi_at_call 80; refine (callsIn_wide.2 HBO.out).mono ?_; rintro e u ⟨rfl, hu⟩; have hu' := hu.symm; subst hu') | (gi_at_call 80; refine (callsIn_wide.2 HBO.out).mono ?_; rintro e u ⟨rfl, hu⟩; have hu' := hu.symm; subst hu'))
  rw [← hV]
  clear hV HBO hu y0 y1
  refine wpIn_rangeFunc_ownG (F := Fence.wide) (n := 3) rfl (by decide) (gf := 98) (lb := #[.pointer (some ⟨w.heap.size + 1 + 1, 0, none⟩)]) rfl trivial (enters_of Tryz.func98 (by kernel_rfl) rfl)
    HST.out kpB_t (kpB_b (by omega) (by omega)) (Below.refl _ _) (fun _ => rfl)
    (FreeI ps w (w.heap.size + 1) (w.heap.size + 1 + 1) (.slice (some ⟨ba, oa, none⟩) ps.length c) (.slice b ws.length d)) (fun _ _ _ => False)
    (freeI_own ps w _ _ _ _ _ (by omega)) (fun _ _ _ _ _ hs _ _ => hs)
    ⟨⟨⟨_, bF, World.ownsRow_nil _ _ _ _, trivial⟩, bN⟩, hbV⟩
    (fun x => { tmps := #[.agg #[.slice (some ⟨ba, oa, none⟩) ps.length c, .slice b ws.length d], .pointer (some ⟨w.heap.size, 0, none⟩), .slice none 0 0, .pointer (some ⟨w.heap.size + 1, 0, none⟩), .int .i64 ((x.val : Nat) : Int), .slice (some ⟨ba, oa + x.val * 6, none⟩) 6 (c - x.val * 6), .agg #[.slice (some ⟨ba, oa, none⟩) ps.length c, .slice b ws.length d], .func (.func 98) #[] #[.pointer (some ⟨w.heap.size + 1 + 1, 0, none⟩)], .int .i64 ((x.val : Nat) : Int), .slice (some ⟨ba, oa + x.val * 6, none⟩) 6 (c - x.val * 6), undef, undef, undef, undef, undef, undef, undef], defers := [] }) ?assign ?body ?done ?stop
  case assign =>
    intro l x W K hK
    simp only [encB]
    gi_wp2
    exact hK
  case body =>
    rintro l pre x W ⟨⟨⟨v, hv, hrow, -⟩, hbn⟩, hB⟩ hlt
    have hc := hv.cell
    have hpl := freeL_len ps pre
    have HAC := hide (allClear_any (some ⟨ba, oa + x.val * 6, none⟩) (pagesOf ps x.val) (c - x.val * 6) W (rd_pages x.val (HP.out.below hB)) (by rw [pagesOf_len HL.out x.isLt]; decide))
    rw [pagesOf_len HL.out x.isLt] at HAC
    have hx10 := x.isLt
    have HBN := hide hbn
    clear bF bN HST hbn
    cases hcl : allClrB (pagesOf ps x.val) with
    | true =>
      rw [hcl] at HAC
      have HE := hide (freeL_hit pre hcl)
      clear hcl
      gi_wp2_with (first
        | (refine ⟨trivial, ?_⟩; gi_at_call 81; refine (CallsIn.inRound l (callsIn_wide.2 HAC.out)).mono ?_; rintro e u ⟨rfl, hu⟩; have hu' := hu.symm; subst hu'; clear HAC)
        | (gi_at_call 81; refine (CallsIn.inRound l (callsIn_wide.2 HAC.out)).mono ?_; rintro e u ⟨rfl, hu⟩; have hu' := hu.symm; subst hu'; clear HAC)
        | (gi_at_builtin; refine wpListIn_append_own _ rfl _ _ 23 rfl w.heap.size 3 i0 (.int .i64 0) 1 8 Tryz.underlying23 hi hz0 hz1 hz2 rfl (by decide) _ _ _ rfl (hrow.alloc _) ⟨W.heap.size, 0, none⟩ 1 1 [.int .i64 ((x.val : Nat) : Int)] rfl rfl (cell_one_new _ _ _) (by simp [Value.oneCell']) (by unfold maxLen; omega) (by omega) (by have := hB.size; simp; omega) ?_; intro v' w1 hown' hgrow _; obtain ⟨g', cap', rfl⟩ := ownsRow_succ hown'; obtain ⟨hv1, hv2, hr2, hk2, hb2⟩ := hv.appended (by decide) hrow hB.size (by omega) hown' hgrow; have hc1 := hv1.cell; have hf1 := hv1.frozen))
      have hbk := bn_kept (Bf := w.heap.size + 1) (v' := .slice (some ⟨g', 0, none⟩) ((freeL ps pre).length + 1) cap') HBN.out (by decide) hrow hgrow (by omega)
      exact ⟨hk2.from _, ⟨hb2, hbk⟩, ⟨⟨_, hv2, by rw [HE.out]; simpa using hr2, trivial⟩, hbk.trans HBN.out⟩, hB.trans hb2⟩
    | false =>
      rw [hcl] at HAC
      have HE := hide (freeL_miss pre hcl)
      clear hcl
      gi_wp2_with (first
        | (refine ⟨trivial, ?_⟩; gi_at_call 81; refine (CallsIn.inRound l (callsIn_wide.2 HAC.out)).mono ?_; rintro e u ⟨rfl, hu⟩; have hu' := hu.symm; subst hu'; clear HAC)
        | (gi_at_call 81; refine (CallsIn.inRound l (callsIn_wide.2 HAC.out)).mono ?_; rintro e u ⟨rfl, hu⟩; have hu' := hu.symm; subst hu'; clear HAC))
      exact ⟨KeepsFrom.refl _ _, KpB.refl _ _ _, ⟨⟨v, hv, by rw [HE.out]; exact hrow, trivial⟩, HBN.out⟩, hB⟩
  case done =>
    rintro D ys W hD rfl ⟨⟨⟨v, hv, hrow, -⟩, hbn⟩, hB⟩ hK
    have hc := hv.cell
    rw [freeL_blk HL.out 10 (Nat.le_refl _)] at hrow
    clear bF bN HST
    gi_wp2
    refine ⟨by simp, .inl ⟨_, _, rfl, run_takeDeferred hK, ?_⟩⟩
    exact ⟨_, results_tmp rfl _ _ _, v, rfl, ownsRow_putObj hrow _ hK rfl, hB.trans (belowK_b (w := w) (Nat.le_refl _) W D _ _ (by omega) hK rfl rfl)⟩
  case stop =>
    rintro D c pre W _ _ h _
    exact h.elim

set_option maxRecDepth 100000 in
set_option maxHeartbeats 6000000 in
theorem implFree_bad (a b : Option Addr) (ps : List ByteArray) (ws : List Int) (c d : Nat) (w : World) (hp : Rd w a (vsString ps)) (hw : Rd w b (vsInt ws)) (hl : ps.length ≤ 1048576) (hm : ws.length ≤ 1048576) (hs : ∀ s ∈ ps, s.size ≤ 1048576) (hok : ¬ chipOkP ps ws) :
    Calls Tryz.prog 73 #[.agg #[.slice a ps.length c, .slice b ws.length d]] w fun e w' => ∃ v, e = .returned v ∧ IntsOwn w' w.heap.size v [] ∧ Below w.heap.size w w' := by
  obtain ⟨W0, hW0⟩ : ∃ W0, W0 = (w.alloc (Obj.cells #[.slice a ps.length c, .slice b ws.length d] 30)).alloc (Obj.cells #[.slice none 0 0] 23) := ⟨_, rfl⟩
  obtain ⟨V, hV⟩ : ∃ V, V = W0.alloc (Obj.cells #[.slice a ps.length c, .slice b ws.length d] 30) := ⟨_, rfl⟩
  have hs0 : W0.heap.size = w.heap.size + 1 + 1 := by rw [hW0]; simp
  have hsV : V.heap.size = w.heap.size + 1 + 1 + 1 := by rw [hV]; simp [hs0]
  have hb0 : Below w.heap.size w W0 := by rw [hW0]; exact ((Below.refl _ _).alloc (Nat.le_refl _) _).alloc (by simp) _
  have hbV : Below w.heap.size w V := by rw [hV]; exact hb0.alloc hb0.size _
  have bF : Boxed V (w.heap.size + 1) 23 (.slice none 0 0) := by
    have := Boxed.new (w.alloc (Obj.cells #[.slice a ps.length c, .slice b ws.length d] 30)) 23 (.slice none 0 0)
    rw [World.size_alloc, ← hW0] at this
    rw [hV]; exact this.alloc _
  have bN : V.heap[w.heap.size + 1 + 1]? = some (.cells #[.slice a ps.length c, .slice b ws.length d] 30 (0, 0)) := by
    have := World.alloc_heap_new W0 (Obj.cells #[.slice a ps.length c, .slice b ws.length d] 30)
    rw [hs0, ← hV] at this; exact this
  have y0 : W0.cell? ⟨w.heap.size, 0, none⟩ = some (.slice a ps.length c) := by rw [hW0]; simp [go_sem]
  have y1 : W0.cell? ⟨w.heap.size, 1, none⟩ = some (.slice b ws.length d) := by rw [hW0]; simp [go_sem]
  have HST := hide (blocks_none (3 - 1) (by decide) (w.heap.size + 1 + 1) w.heap.size 0 0 a b ps ws c d V bN (hp.below hbV) (hw.below hbV) hl hm hs hok)
  have HBO := hide (blocksOf_any a b ps.length ws.length c d W0)
  rw [← hV, hs0] at HBO
  clear hp hw hok hs
  refine (callsIn_wide (n := 3)).1 ?_
  refine callsIn_of_wp_marks Tryz.func73 rfl trivial ?_ rfl
  simp only [Tryz.ntmps73, List.size_toArray, List.length_cons, List.length_nil, Nat.reduceAdd, Nat.reduceSub, Array.replicate_succ, Array.replicate_zero, List.push_toArray, List.append_toArray, List.nil_append, List.cons_append]
  gi_wp2_with (first | (rw [← hW0]; clear hW0) | (refine ⟨trivial, ?_⟩; gi_at_call 80; refine (callsIn_wide.2 HBO.out).mono ?_; rintro e u ⟨rfl, hu⟩; have hu' := hu.symm; subst hu') | (gi_at_call 80; refine (callsIn_wide.2 HBO.out).mono ?_; rintro e u ⟨rfl, hu⟩; have hu' := hu.symm; subst hu'))
  rw [← hV]
  clear hV HBO hu y0 y1
  refine wpIn_rangeFunc_ownG (F := Fence.wide) (n := 3) rfl (by decide) (gf := 98) (lb := #[.pointer (some ⟨w.heap.size + 1 + 1, 0, none⟩)]) rfl trivial (enters_of Tryz.func98 (by kernel_rfl) rfl)
    HST.out kpB_t (kpB_b (by omega) (by omega)) (Below.refl _ _) (fun _ => rfl)
    (FreeI ps w (w.heap.size + 1) (w.heap.size + 1 + 1) (.slice a ps.length c) (.slice b ws.length d)) (fun _ _ _ => False)
    (freeI_own ps w _ _ _ _ _ (by omega)) (fun _ _ _ _ _ hs _ _ => hs)
    ⟨⟨⟨_, bF, World.ownsRow_nil _ _ _ _, trivial⟩, bN⟩, hbV⟩
    (fun x => { tmps := #[.agg #[.slice a ps.length c, .slice b ws.length d], .pointer (some ⟨w.heap.size, 0, none⟩), .slice none 0 0, .pointer (some ⟨w.heap.size + 1, 0, none⟩), .int .i64 ((x.val : Nat) : Int), .slice (some ⟨0, 0 + x.val * 6, none⟩) 6 (c - x.val * 6), .agg #[.slice a ps.length c, .slice b ws.length d], .func (.func 98) #[] #[.pointer (some ⟨w.heap.size + 1 + 1, 0, none⟩)], .int .i64 ((x.val : Nat) : Int), .slice (some ⟨0, 0 + x.val * 6, none⟩) 6 (c - x.val * 6), undef, undef, undef, undef, undef, undef, undef], defers := [] }) ?assign ?body ?done ?stop
  case assign =>
    intro l x W K hK
    simp only [encB]
    gi_wp2
    simpa using hK
  case body =>
    intro l pre x W _ hlt
    exact absurd hlt (by omega)
  case done =>
    rintro D ys W hD rfl ⟨⟨⟨v, hv, hrow, -⟩, hbn⟩, hB⟩ hK
    have hc := hv.cell
    clear bF bN HST
    gi_wp2
    refine ⟨by simp, .inl ⟨_, _, rfl, run_takeDeferred hK, ?_⟩⟩
    exact ⟨_, results_tmp rfl _ _ _, v, rfl, ownsRow_putObj hrow _ hK rfl, hB.trans (belowK_b (w := w) (Nat.le_refl _) W D _ _ (by omega) hK rfl rfl)⟩
  case stop =>
    rintro D c pre W _ _ h _
    exact h.elim

end Go.Proofs.YtghadfbpcbcpiaaGreat

namespace Go.Proofs.YtghadfbpcbcpiaaGreat
open Go.RowKit

set_option maxRecDepth 100000 in
set_option maxHeartbeats 1600000 in
theorem specFree_bad (a b : Option Addr) (ps : List ByteArray) (ws : List Int) (c d : Nat) (w : World) (hp : Rd w a (vsString ps)) (hw : Rd w b (vsInt ws)) (hl : ps.length ≤ 1048576) (hm : ws.length ≤ 1048576) (hs : ∀ s ∈ ps, s.size ≤ 1048576) (hok : ¬ chipOkP ps ws) :
    Calls Tryz.prog 41 #[.agg #[.slice a ps.length c, .slice b ws.length d]] w fun e w' => ∃ v, e = .returned v ∧ w'.ownsRow w.heap.size 3 1 v 0 [] ∧ Below w.heap.size w w' := by
  obtain ⟨A, hA⟩ : ∃ A, A = w.alloc (Obj.cells #[.slice a ps.length c, .slice b ws.length d] 30) := ⟨_, rfl⟩
  have hbA : Below w.heap.size w A := by rw [hA]; exact (Below.refl _ _).alloc (Nat.le_refl _) _
  have hsA : w.heap.size < A.heap.size := by rw [hA]; simp
  have hsA1 : A.heap.size = w.heap.size + 1 := by rw [hA]; simp
  obtain ⟨W, hW⟩ : ∃ W, W = A.alloc (Obj.cells #[] 3) := ⟨_, rfl⟩
  have hbW : Below A.heap.size A W := by rw [hW]; exact (Below.refl _ _).alloc (Nat.le_refl _) _
  have hW0 : W.ownsRow w.heap.size 3 1 (.slice (some ⟨w.heap.size + 1, 0, none⟩) 0 0) 0 [] := by rw [hW, ← hsA1]; exact World.ownsRow_made A #[] 0 (Nat.le_of_lt hsA) (Nat.zero_le _) rfl
  have x0 : A.cell? ⟨w.heap.size, 0, none⟩ = some (.slice a ps.length c) := by rw [hA]; simp
  have x1 : A.cell? ⟨w.heap.size, 1, none⟩ = some (.slice b ws.length d) := by rw [hA]; simp
  have hB := chipOkB_false hok
  have hbAW := after hbA hbW
  have c0 := (hbW.cell (p := ⟨w.heap.size, 0, none⟩) hsA).trans x0
  have c1 := (hbW.cell (p := ⟨w.heap.size, 1, none⟩) hsA).trans x1
  have HP := hide (hp.below hbAW)
  have HW := hide (hw.below hbAW)
  clear hp hw hok hsA1 x0 x1
  go_enter Tryz.func41, Tryz.ntmps41
  go_wp2
  rw [← hA]
  rw [← hW]
  clear hA hW
  go_loopw [3, 4] (fun v i wr => i = .int .i64 0 ∧ v = .slice (some ⟨w.heap.size + 1, 0, none⟩) 0 0 ∧ wr = W) (fun _ _ _ => 0)
  case atStart => exact ⟨rfl, rfl, rfl⟩
  case round =>
    obtain ⟨rfl, rfl, rfl⟩ := hrel
    go_wp2_with fail
    refine (specChipOk_any a b ps ws c d _ HP.out HW.out hl hm hs).mono ?_
    rw [hB]
    rintro e u1 ⟨rfl, hb1⟩
    have hbw1 := after hbAW hb1
    have hown := owns_below hW0 hb1
    clear hb1
    go_wp2
    go_ret
    exact ⟨_, rfl, hown, hbw1⟩

end Go.Proofs.YtghadfbpcbcpiaaGreat

namespace Go.Proofs.YtghadfbpcbcpiaaGreat
open Go.RowKit

theorem fnExactFreeBlocks_both (ps : List ByteArray) (ws : List Int)  (hk0 : ps.length ≤ 1048576) (hk1 : ws.length ≤ 1048576) (hs : ∀ s ∈ ps, s.size ≤ 1048576)  :
    ∃ (Gxs : List Int) , Gxs.length ≤ 1000 ∧ Hid (∀ (u : World) (v : Value), ChipRd u v ps ws → CapOk v → Calls Tryz.prog 41 #[v] u fun e w' => ∃ v, e = .returned (v) ∧ IntsOwn w' u.heap.size v Gxs ∧ Below u.heap.size u w') ∧ Hid (∀ (u : World) (v : Value), ChipRd u v ps ws → CapOk v → Calls Tryz.prog 73 #[v] u fun e w' => ∃ v, e = .returned (v) ∧ IntsOwn w' u.heap.size v Gxs ∧ Below u.heap.size u w') := by
  by_cases hok : chipOkP ps ws
  · refine ⟨freeB ps 10, by have := freeB_len ps 10; omega, ?_, ?_⟩
    · rintro u v ⟨a, c, b, d, rfl, h1, h2⟩ _
      exact specFree_ok a b ps ws c d u h1 h2 hok
    · rintro u v ⟨a, c, b, d, rfl, h1, h2⟩ hcap
      exact implFree_ok a b ps ws c d u h1 h2 hok (by have := (chip_caps hcap).1; have := hok.1; omega)
  · refine ⟨[], by decide, ?_, ?_⟩
    · rintro u v ⟨a, c, b, d, rfl, h1, h2⟩ _
      exact specFree_bad a b ps ws c d u h1 h2 hk0 hk1 hs hok
    · rintro u v ⟨a, c, b, d, rfl, h1, h2⟩ _
      exact implFree_bad a b ps ws c d u h1 h2 hk0 hk1 hs hok

end Go.Proofs.YtghadfbpcbcpiaaGreat
