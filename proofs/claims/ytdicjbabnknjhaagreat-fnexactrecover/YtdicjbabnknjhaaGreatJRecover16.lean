/-
  Contract of the program's NextPage.
  Contracts of what the program's Worst calls: inBlock, cmp.Or at int, the closure that holds two blocks against each other, slices.MinFunc with it.
  Contract of slices.MinFunc with Worst's closure: the first that is least.
-/
import Derived.Test.YtdicjbabnknjhaaGreatJRecover15
import Derived.Deep.RegionHeld
namespace Go.Proofs.YtdicjbabnknjhaaGreat
open Go.RowKit Go.Shelf

attribute [local go_sem] Oper.semAt_some

/-- What holds between two blocks: none was begun; the result's variable at block Br, the chip's box at Bn. -/
def NextI (ps : List ByteArray) (w : World) (Br Bn : Nat) (x y : Value) (pre : List (Fin 10)) (W : World) : Prop :=
  (((∀ z ∈ pre, ¬ hitP ps z.val) ∧ Boxed W Br 3 (.int .i64 0)) ∧ W.heap[Bn]? = some (.cells #[x, y] 32 (0, 0)) ∧ W.heap[w.heap.size]? = some (.cells #[x, y] 32 (0, 0))) ∧ Below w.heap.size w W
/-- It was left at a block that is begun. -/
def NextX (ps : List ByteArray) (w : World) (Br : Nat) (c : Code) (pre : List (Fin 10)) (W : World) : Prop :=
  (c = .ret ∧ ∃ (pre0 : List (Fin 10)) (x : Fin 10), pre = pre0 ++ [x] ∧ (∀ z ∈ pre0, ¬ hitP ps z.val) ∧ hitP ps x.val ∧ Boxed W Br 3 (.int .i64 (((x.val : Nat) : Int) * 6 + 6 - (clr ps x.val 6).1))) ∧ Below w.heap.size w W

theorem boxed_kept {A C : World} {row : Option Nat} {B : Nat} {t : TypeId} {v : Value} (h : Boxed A B t v) (hg : A.grownBy C row) (hr : ∀ r, row = some r → ∃ o : Obj, A.heap[r]? = some o ∧ o.isCells = false) : Boxed C B t v := by
  refine h.kept hg (fun e => ?_)
  obtain ⟨o, ho, hc⟩ := hr B e.symm
  rw [show A.heap[B]? = _ from h] at ho; cases ho; cases hc
theorem heap2_kept {A C : World} {row : Option Nat} {Bn : Nat} {x y : Value} {t : TypeId} (h : A.heap[Bn]? = some (.cells #[x, y] t (0, 0))) (hg : A.grownBy C row) (hr : ∀ r, row = some r → ∃ o : Obj, A.heap[r]? = some o ∧ o.isCells = false) : C.heap[Bn]? = some (.cells #[x, y] t (0, 0)) := by
  refine (hg.block Bn (Array.getElem?_eq_some_iff.1 h).1 (fun e => ?_)).trans h
  obtain ⟨o, ho, hc⟩ := hr Bn e.symm
  rw [h] at ho; cases ho; cases hc
theorem nextI_own (ps : List ByteArray) (w : World) (Br Bn : Nat) (x y : Value) (B : Nat) (hB : w.heap.size ≤ B) : OwnFrom B (NextI ps w Br Bn x y) :=
  OwnFrom.and (Own.from (fun _ _ _ _ hs hg hr => ⟨⟨hs.1.1, boxed_kept hs.1.2 hg hr⟩, heap2_kept hs.2.1 hg hr, heap2_kept hs.2.2 hg hr⟩) _) (ownFrom_below (Nat.le_refl _) hB)
theorem nextX_own (ps : List ByteArray) (w : World) (Br : Nat) (B : Nat) (hB : w.heap.size ≤ B) (c : Code) : OwnFrom B (NextX ps w Br c) :=
  OwnFrom.and (Own.from (fun _ _ _ _ hs hg hr => ⟨hs.1, by obtain ⟨-, p0, z, h1, h2, h3, h4⟩ := hs; exact ⟨p0, z, h1, h2, h3, boxed_kept h4 hg hr⟩⟩) _) (ownFrom_below (Nat.le_refl _) hB)

theorem FirstAt.unique {α : Type} {xs : List α} {x : α} {r r' : Int} (h : FirstAt xs x r) (h' : FirstAt xs x r') : r = r' := by
  rcases h with ⟨rfl, h⟩ | ⟨i, rfl, h1, h2⟩ <;> rcases h' with ⟨rfl, h'⟩ | ⟨i', rfl, h1', h2'⟩
  · rfl
  · exact absurd (List.mem_of_getElem? h1') h
  · exact absurd (List.mem_of_getElem? h1) h'
  · rcases Nat.lt_trichotomy i i' with h | h | h
    · exact absurd (List.mem_iff_getElem?.2 ⟨i, by rw [List.getElem?_take_of_lt h]; exact h1⟩) h2'
    · rw [h]
    · exact absurd (List.mem_iff_getElem?.2 ⟨i', by rw [List.getElem?_take_of_lt h]; exact h1'⟩) h2
theorem firstAt_ex {α : Type} (xs : List α) (x : α) : ∃ r, FirstAt xs x r := by
  induction xs with
  | nil => exact ⟨-1, .inl ⟨rfl, by simp⟩⟩
  | cons y ys ih =>
    by_cases hy : y = x
    · exact ⟨(0 : Nat), .inr ⟨0, rfl, by simp [hy], by simp⟩⟩
    · obtain ⟨r, ⟨rfl, h⟩ | ⟨i, rfl, h1, h2⟩⟩ := ih
      · exact ⟨-1, .inl ⟨rfl, by simp [Ne.symm hy, h]⟩⟩
      · exact ⟨((i + 1 : Nat) : Int), .inr ⟨i + 1, rfl, by simpa using h1, by simp [Ne.symm hy, h2]⟩⟩
theorem rdS_drop {w : World} {ba o i : Nat} {xs : List ByteArray} (h : Rd w (some ⟨ba, o, none⟩) (vsString xs)) : Rd w (some ⟨ba, o + i, none⟩) (vsString (xs.drop i)) := by
  rcases h with h | ⟨b, off, ha, hc⟩
  · left; simp at h; subst h; simp
  · simp at ha
    obtain ⟨rfl, rfl⟩ := ha
    refine .inr ⟨ba, o + i, rfl, fun j v hv => ?_⟩
    rw [List.getElem?_map, List.getElem?_drop, ← List.getElem?_map] at hv
    rw [show o + i + j = o + (i + j) by omega]
    exact hc (i + j) v hv
theorem mem_blk {k : Nat} {x : Fin 10} : x ∈ blk k ↔ x.val < k := by
  unfold blk
  rw [List.mem_iff_getElem?]
  constructor
  · rintro ⟨i, hi⟩
    rw [List.getElem?_take] at hi
    split at hi
    · rename_i h
      have : i < 10 := by
        rcases Nat.lt_or_ge i 10 with h' | h'
        · exact h'
        · rw [List.getElem?_eq_none (by simpa using h')] at hi; cases hi
      simp [this] at hi
      subst hi
      exact h
    · cases hi
  · intro h
    refine ⟨x.val, ?_⟩
    rw [List.getElem?_take_of_lt h]
    simp [x.isLt]

set_option maxRecDepth 100000 in
set_option maxHeartbeats 6000000 in
theorem implNext_ok (a b : Option Addr) (ps : List ByteArray) (ws : List Int) (c d : Nat) (w : World) (hp : Rd w a (vsString ps)) (hw : Rd w b (vsInt ws)) (hok : chipOkP ps ws) (hcap : 60 ≤ c) :
    Calls Tryz.prog 112 #[.agg #[.slice a ps.length c, .slice b ws.length d]] w fun e w' => e = .returned (.int .i64 (nextP ps ws)) ∧ Below w.heap.size w w' := by
  obtain ⟨R, hR⟩ : ∃ R, R = nextP ps ws := ⟨_, rfl⟩
  rw [← hR]
  have hmf : ∀ (fn : Fn) (first cap : Array Value) (w : World), (Instr.makeFunc fn first cap).run Tryz.prog w = .ok (.func fn first cap) w := fun _ _ _ _ => rfl
  obtain ⟨ba, oa, rfl, -⟩ := rd_at (k := 0) hp (by have := hok.1; simp; omega)
  obtain ⟨W0, hW0⟩ : ∃ W0, W0 = (w.alloc (Obj.cells #[.slice (some ⟨ba, oa, none⟩) ps.length c, .slice b ws.length d] 32)).alloc (Obj.cells #[.int .i64 0] 3) := ⟨_, rfl⟩
  obtain ⟨V, hV⟩ : ∃ V, V = W0.alloc (Obj.cells #[.slice (some ⟨ba, oa, none⟩) ps.length c, .slice b ws.length d] 32) := ⟨_, rfl⟩
  have hs0 : W0.heap.size = w.heap.size + 1 + 1 := by rw [hW0]; simp
  have hsV : V.heap.size = w.heap.size + 1 + 1 + 1 := by rw [hV]; simp [hs0]
  have hb0 : Below w.heap.size w W0 := by rw [hW0]; exact ((Below.refl _ _).alloc (Nat.le_refl _) _).alloc (by simp) _
  have hb0V : Below W0.heap.size W0 V := by rw [hV]; exact (Below.refl _ _).alloc (Nat.le_refl _) _
  have hbV : Below w.heap.size w V := after hb0 hb0V
  have bR : Boxed V (w.heap.size + 1) 3 (.int .i64 0) := by
    have := Boxed.new (w.alloc (Obj.cells #[.slice (some ⟨ba, oa, none⟩) ps.length c, .slice b ws.length d] 32)) 3 (.int .i64 0)
    rw [World.size_alloc, ← hW0] at this
    rw [hV]; exact this.alloc _
  have bN : V.heap[w.heap.size + 1 + 1]? = some (.cells #[.slice (some ⟨ba, oa, none⟩) ps.length c, .slice b ws.length d] 32 (0, 0)) := by
    have := World.alloc_heap_new W0 (Obj.cells #[.slice (some ⟨ba, oa, none⟩) ps.length c, .slice b ws.length d] 32)
    rw [hs0, ← hV] at this; exact this
  have bC : V.heap[w.heap.size]? = some (.cells #[.slice (some ⟨ba, oa, none⟩) ps.length c, .slice b ws.length d] 32 (0, 0)) := by
    have h1 := World.alloc_heap_new w (Obj.cells #[.slice (some ⟨ba, oa, none⟩) ps.length c, .slice b ws.length d] 32)
    have h2 : W0.heap[w.heap.size]? = some (.cells #[.slice (some ⟨ba, oa, none⟩) ps.length c, .slice b ws.length d] 32 (0, 0)) := by rw [hW0, Below.heap_alloc _ _ _ (by simp)]; exact h1
    exact (hb0V.block w.heap.size (by omega)).trans h2
  have y0 : W0.cell? ⟨w.heap.size, 0, none⟩ = some (.slice (some ⟨ba, oa, none⟩) ps.length c) := by rw [hW0]; simp [go_sem]
  have y1 : W0.cell? ⟨w.heap.size, 1, none⟩ = some (.slice b ws.length d) := by rw [hW0]; simp [go_sem]
  have HST := hide (blocks_stops (3 - 1) (by decide) (w.heap.size + 1 + 1) w.heap.size ba oa b ps ws c d V bN (hp.below hbV) (hw.below hbV) hok hcap)
  have HBO := hide (blocksOf_any (some ⟨ba, oa, none⟩) b ps.length ws.length c d W0)
  rw [← hV, hs0] at HBO
  have HP := hide hp
  have HW := hide hw
  have HOK := hide hok
  have HL := hide hok.1
  have HR := hide hR
  have hl60 : ps.length ≤ 60 := by have := hok.1; omega
  have z0 := (hb0V.cell (p := ⟨w.heap.size, 0, none⟩) (lt_of_cell y0)).trans y0
  have z1 := (hb0V.cell (p := ⟨w.heap.size, 1, none⟩) (lt_of_cell y1)).trans y1
  clear hp hw hok hR
  refine (callsIn_wide (n := 3)).1 ?_
  refine callsIn_of_wp_marks Tryz.func112 rfl trivial ?_ rfl
  simp only [Tryz.ntmps112, List.size_toArray, List.length_cons, List.length_nil, Nat.reduceAdd, Nat.reduceSub, Array.replicate_succ, Array.replicate_zero, List.push_toArray, List.append_toArray, List.nil_append, List.cons_append]
  gi_wp2_with (first | (rw [← hW0]; clear hW0) | (refine ⟨trivial, ?_⟩; gi_at_call 117; refine (callsIn_wide.2 HBO.out).mono ?_; rintro e u ⟨rfl, hu⟩; have hu' := hu.symm; subst hu') | (gi_at_call 117; refine (callsIn_wide.2 HBO.out).mono ?_; rintro e u ⟨rfl, hu⟩; have hu' := hu.symm; subst hu'))
  rw [← hV]
  clear hV HBO hu y0 y1
  refine wpIn_rangeFunc_ownG (F := Fence.wide) (n := 3) rfl (by decide) (gf := 135) (lb := #[.pointer (some ⟨w.heap.size + 1 + 1, 0, none⟩)]) rfl trivial (enters_of Tryz.func135 (by kernel_rfl) rfl)
    HST.out kpB_t (kpB_b (by omega) (by omega)) (Below.refl _ _) (fun _ => rfl)
    (NextI ps w (w.heap.size + 1) (w.heap.size + 1 + 1) (.slice (some ⟨ba, oa, none⟩) ps.length c) (.slice b ws.length d)) (NextX ps w (w.heap.size + 1))
    (nextI_own ps w _ _ _ _ _ (by omega)) (fun c => nextX_own ps w _ _ (by omega) c)
    ⟨⟨⟨by simp, bR⟩, bN, bC⟩, hbV⟩
    (fun x => { tmps := #[.agg #[.slice (some ⟨ba, oa, none⟩) ps.length c, .slice b ws.length d], .pointer (some ⟨w.heap.size, 0, none⟩), .pointer (some ⟨w.heap.size + 1, 0, none⟩), .int .i64 ((x.val : Nat) : Int), .slice (some ⟨ba, oa + x.val * 6, none⟩) 6 (c - x.val * 6), undef, undef, .agg #[.slice (some ⟨ba, oa, none⟩) ps.length c, .slice b ws.length d], .func (.func 135) #[] #[.pointer (some ⟨w.heap.size + 1 + 1, 0, none⟩)], .int .i64 ((x.val : Nat) : Int), .slice (some ⟨ba, oa + x.val * 6, none⟩) 6 (c - x.val * 6), undef, undef, undef, undef, undef, undef, undef, undef, undef, undef, undef, undef, undef, undef, undef, undef, undef, undef, undef, undef, undef, undef, undef], defers := [] }) ?assign ?body ?done ?stop
  case assign =>
    intro l x W K hK
    simp only [encB]
    gi_wp2
    exact hK
  case body =>
    rintro l pre x W ⟨⟨⟨hno, hv⟩, hbn, hbc⟩, hB⟩ hlt
    have hx10 := x.isLt
    obtain ⟨r, hr⟩ := firstAt_ex (pagesOf ps x.val) ByteArray.empty
    have HIX : Hid (Calls Tryz.prog 131 #[.slice (some ⟨ba, oa + x.val * 6, none⟩) 6 (c - x.val * 6), .string ⟨#[]⟩] W fun e w' => e = .returned (.int .i64 r) ∧ w' = W) := by
      have := indexString_any (some ⟨ba, oa + x.val * 6, none⟩) (pagesOf ps x.val) (c - x.val * 6) W (rd_pages x.val (HP.out.below hB)) (by rw [pagesOf_len HL.out x.isLt]; decide)
      rw [pagesOf_len HL.out x.isLt] at this
      exact this.mono fun e w' h => by obtain ⟨⟨r', rfl, h1⟩, h2⟩ := h; exact ⟨by rw [h1.unique hr], h2⟩
    have HNO := hide hno
    have HBN := hide (And.intro hbn hbc)
    have hcv := hv.cell
    have hfv := hv.frozen
    have HV := hide hv
    have HF := hide hr
    clear bR bN bC HST hno hbn hbc hv z0 z1
    by_cases hr0 : r ≤ 0
    · have HNH := hide (hit_no HL.out hx10 hr (.inl hr0))
      have hnr : ¬ 0 < r := by omega
      clear hr
      gi_wp2_with (first
        | (refine ⟨trivial, ?_⟩; gi_at_call 131; refine (CallsIn.inRound l (callsIn_wide.2 HIX.out)).mono ?_; rintro e u ⟨rfl, hu⟩; have hu' := hu.symm; subst hu'; clear HIX)
        | (gi_at_call 131; refine (CallsIn.inRound l (callsIn_wide.2 HIX.out)).mono ?_; rintro e u ⟨rfl, hu⟩; have hu' := hu.symm; subst hu'; clear HIX))
      refine ⟨trivial, ?_⟩
      gi_wp2
      exact ⟨KeepsFrom.refl _ _, KpB.refl _ _ _, ⟨⟨fun z hz => (List.mem_append.1 hz).elim (HNO.out z) (fun h => by simp at h; rw [h]; exact HNH.out), HV.out⟩, HBN.out.1, HBN.out.2⟩, hB⟩
    · obtain ⟨i, rfl⟩ : ∃ i : Nat, r = i := ⟨r.toNat, by omega⟩
      have hi6 : i < 6 := by
        have := hr.mem.2.2
        rw [pagesOf_len HL.out hx10] at this
        omega
      have HAC := hide (allClear_any (some ⟨ba, oa + x.val * 6 + i, none⟩) ((pagesOf ps x.val).drop i) (c - x.val * 6 - i) W (rdS_drop (rd_pages x.val (HP.out.below hB))) (by rw [List.length_drop, pagesOf_len HL.out x.isLt]; omega))
      rw [List.length_drop, pagesOf_len HL.out x.isLt] at HAC
      have hi0 : (0 : Int) < (i : Int) := by omega
      have hi6' : (i : Int) ≤ 6 := by omega
      have hcne : ¬ c - x.val * 6 = i := by omega
      by_cases hall : AllClr ((pagesOf ps x.val).drop i)
      · have HH := hide (hit_yes HL.out hx10 (by omega) hr hall)
        rw [allClrB_true hall] at HAC
        clear hr hall hr0
        gi_wp2_with (first
          | (refine ⟨trivial, ?_⟩; gi_at_call 131; refine (CallsIn.inRound l (callsIn_wide.2 HIX.out)).mono ?_; rintro e u ⟨rfl, hu⟩; have hu' := hu.symm; subst hu'; clear HIX)
          | (gi_at_call 131; refine (CallsIn.inRound l (callsIn_wide.2 HIX.out)).mono ?_; rintro e u ⟨rfl, hu⟩; have hu' := hu.symm; subst hu'; clear HIX)
          | (refine ⟨trivial, ?_⟩; gi_at_call 118; refine (CallsIn.inRound l (callsIn_wide.2 HAC.out)).mono ?_; rintro e u ⟨rfl, hu⟩; have hu' := hu.symm; subst hu'; clear HAC)
          | (gi_at_call 118; refine (CallsIn.inRound l (callsIn_wide.2 HAC.out)).mono ?_; rintro e u ⟨rfl, hu⟩; have hu' := hu.symm; subst hu'; clear HAC))
        exact ⟨(KeepsOthers.setCell _ _ _).from _, ⟨rfl, pre, x, rfl, HNO.out, HH.out.1, by rw [HH.out.2]; exact HV.out.set _⟩, hB.setCell (p := ⟨w.heap.size + 1, 0, none⟩) (by show _ ≤ _; simp) _⟩
      · have HNH := hide (hit_no HL.out hx10 hr (.inr (by rw [Int.toNat_natCast]; exact hall)))
        rw [allClrB_false hall] at HAC
        clear hr hall hr0
        gi_wp2_with (first
          | (refine ⟨trivial, ?_⟩; gi_at_call 131; refine (CallsIn.inRound l (callsIn_wide.2 HIX.out)).mono ?_; rintro e u ⟨rfl, hu⟩; have hu' := hu.symm; subst hu'; clear HIX)
          | (gi_at_call 131; refine (CallsIn.inRound l (callsIn_wide.2 HIX.out)).mono ?_; rintro e u ⟨rfl, hu⟩; have hu' := hu.symm; subst hu'; clear HIX)
          | (refine ⟨trivial, ?_⟩; gi_at_call 118; refine (CallsIn.inRound l (callsIn_wide.2 HAC.out)).mono ?_; rintro e u ⟨rfl, hu⟩; have hu' := hu.symm; subst hu'; clear HAC)
          | (gi_at_call 118; refine (CallsIn.inRound l (callsIn_wide.2 HAC.out)).mono ?_; rintro e u ⟨rfl, hu⟩; have hu' := hu.symm; subst hu'; clear HAC))
        exact ⟨KeepsFrom.refl _ _, KpB.refl _ _ _, ⟨⟨fun z hz => (List.mem_append.1 hz).elim (HNO.out z) (fun h => by simp at h; rw [h]; exact HNH.out), HV.out⟩, HBN.out.1, HBN.out.2⟩, hB⟩
  case done =>
    rintro D ys W hD rfl ⟨⟨⟨hno, hv⟩, hbn, hbc⟩, hB⟩ hK
    have HNX := hide (nextP_none (ws := ws) (fun b hb => hno ⟨b, hb⟩ (mem_blk.2 hb)))
    have HFR := hide (implFree_ok (some ⟨ba, oa, none⟩) b ps ws c d W (HP.out.below hB) (HW.out.below hB) HOK.out hcap)
    have k0 : W.cell? ⟨w.heap.size, 0, none⟩ = some (.slice (some ⟨ba, oa, none⟩) ps.length c) := by simp [World.cell?, hbc]
    have k1 : W.cell? ⟨w.heap.size, 1, none⟩ = some (.slice b ws.length d) := by simp [World.cell?, hbc]
    have hDW : D < W.heap.size := (Array.getElem?_eq_some_iff.1 hK).1
    have hcW : w.heap.size < W.heap.size := lt_of_cell k0
    have hrW : w.heap.size + 1 < W.heap.size := hv.lt
    clear bR bN bC HST z0 z1 hno hbn hbc
    gi_wp2_with fail
    refine ⟨trivial, ?_⟩
    refine (callsIn_wide.2 HFR.out).mono ?_
    rintro e w1 ⟨v, rfl, hown, hb1⟩
    obtain ⟨fa, fc, rfl⟩ := owns_shape hown
    have hK1 : w1.heap[D]? = some (.deferred (some [])) := (hb1.block D hDW).trans hK
    have hv1 : Boxed w1 (w.heap.size + 1) 3 (.int .i64 0) := (hb1.block (w.heap.size + 1) hrW).trans hv
    have hbw1 := after hB hb1
    by_cases hnil : freeB ps 10 = []
    · have HRV : Hid (R = -1) := by show _ = _; rw [HR.out, HNX.out, if_pos hnil]
      have hc1 := hv1.cell
      have hf1 := hv1.frozen
      rw [hnil]
      clear HNX hnil hown HFR k0 k1
      gi_wp2
      have hK' := (KeepsOthers.setCell w1 ⟨w.heap.size + 1, 0, none⟩ (.int .i64 (-1))).same D _ hK1 rfl
      refine ⟨by simp, .inl ⟨_, _, rfl, run_takeDeferred hK', ?_⟩⟩
      have hc5 := cell_kept (hv1.set (.int .i64 (-1))).cell (grownBy_putObj' _ D (.deferred none)) (fun r e => by cases e; exact ⟨_, hK', rfl⟩)
      refine ⟨.int .i64 R, ?_, rfl, (hbw1.setCell (p := ⟨w.heap.size + 1, 0, none⟩) (by show _ ≤ _; simp) _).trans (belowK_b (w := w) (Nat.le_refl _) _ D _ _ (by omega) hK' rfl rfl)⟩
      rw [HRV.out]
      simp [results, Tryz.results112, go_sem, hc5]
    · have hbd : ∀ x ∈ freeB ps 10, 0 ≤ x ∧ x < 10 := fun x hx => by have := freeB_bd ps 10 x hx; omega
      have hmb := minF_mem (ws := ws) _ hbd hnil
      have HRV : Hid (R = 6 * minF ws (freeB ps 10)) := by show _ = _; rw [HR.out, HNX.out, if_neg hnil, Int.mul_comm]
      have hlen := freeB_len ps 10
      have hpos : 0 < (freeB ps 10).length := List.length_pos_iff.2 hnil
      have k1' := (hb1.cell (p := ⟨w.heap.size, 1, none⟩) hcW).trans k1
      have HMN := hide (minFunc_any w.heap.size fa b (freeB ps 10) ws fc d w1 (rd_of_own hown) k1' (HW.out.below hbw1) HOK.out.2.1 (by omega) hbd hnil)
      obtain ⟨M, hM⟩ : ∃ M, M = minF ws (freeB ps 10) := ⟨_, rfl⟩
      rw [← hM] at hmb HRV HMN
      have hlz : ¬ (((freeB ps 10).length : Int) == 0) = true := by simp; omega
      have hc1 := hv1.cell
      have hf1 := hv1.frozen
      have HV1 := hide hv1
      have HK1 := hide hK1
      clear HNX hnil hown HFR k0 k1 hM hbd k1' hv1 hK1
      gi_wp2_with fail
      refine ⟨trivial, ?_⟩
      refine (callsIn_wide.2 HMN.out).mono ?_
      rintro e u ⟨rfl, n, hu⟩
      have hc2 : u.cell? ⟨w.heap.size + 1, 0, none⟩ = some (.int .i64 0) := by rw [hu]; exact hc1
      have hf2 : u.frozen? ⟨w.heap.size + 1, 0, none⟩ = false := by rw [hu]; exact hf1
      have HU := hide hu
      clear hu HMN hc1 hf1
      gi_wp2
      have hKu : u.heap[D]? = some (.deferred (some [])) := by rw [HU.out]; exact HK1.out
      have hvu : Boxed u (w.heap.size + 1) 3 (.int .i64 0) := by rw [HU.out]; exact HV1.out
      have hbu : Below w.heap.size w u := by rw [HU.out]; exact after_drew hbw1 n
      have hK' := (KeepsOthers.setCell u ⟨w.heap.size + 1, 0, none⟩ (.int .i64 (6 * M))).same D _ hKu rfl
      refine ⟨by simp, .inl ⟨_, _, rfl, run_takeDeferred hK', ?_⟩⟩
      have hc5 := cell_kept (hvu.set (.int .i64 (6 * M))).cell (grownBy_putObj' _ D (.deferred none)) (fun r e => by cases e; exact ⟨_, hK', rfl⟩)
      refine ⟨.int .i64 R, ?_, rfl, (hbu.setCell (p := ⟨w.heap.size + 1, 0, none⟩) (by show _ ≤ _; simp) _).trans (belowK_b (w := w) (Nat.le_refl _) _ D _ _ (by omega) hK' rfl rfl)⟩
      rw [HRV.out]
      simp [results, Tryz.results112, go_sem, hc5]
  case stop =>
    rintro D c' pre W hD ⟨k, hk, hpre⟩ ⟨⟨rfl, pre0, x, hpx, hno, hh, hv⟩, hB⟩ hK
    have HRV : Hid (R = ((x.val : Nat) : Int) * 6 + 6 - (clr ps x.val 6).1) := by
      show _ = _
      rw [HR.out]
      have hk0 : 0 < k := by
        have := congrArg List.length (hpre.symm.trans hpx)
        rw [blk_len hk] at this
        simp at this; omega
      have hsplit : blk (k - 1) ++ [⟨k - 1, by omega⟩] = pre0 ++ [x] := by
        rw [← blk_succ, show k - 1 + 1 = k by omega, ← hpre, hpx]
      obtain ⟨e1, e2⟩ := List.append_inj' hsplit rfl
      simp at e2
      refine nextP_hit x.isLt hh (fun b hb => ?_)
      have : b < k - 1 := by rw [← e2] at hb; exact hb
      exact hno ⟨b, by omega⟩ (by rw [← e1]; exact mem_blk.2 this)
    clear bR bN bC HST z0 z1 hpx hpre hno hh
    gi_wp2
    refine ⟨by simp, .inl ⟨_, _, rfl, run_takeDeferred hK, ?_⟩⟩
    have hc5 := cell_kept hv.cell (grownBy_putObj' _ D (.deferred none)) (fun r e => by cases e; exact ⟨_, hK, rfl⟩)
    refine ⟨.int .i64 R, ?_, rfl, hB.trans (belowK_b (w := w) (Nat.le_refl _) W D _ _ (by omega) hK rfl rfl)⟩
    rw [HRV.out]
    simp [results, Tryz.results112, go_sem, hc5]

end Go.Proofs.YtdicjbabnknjhaaGreat

namespace Go.Proofs.YtdicjbabnknjhaaGreat
open Go.RowKit

def inB (n b : Int) : Bool := decide (b * 6 ≤ n ∧ n < (b + 1) * 6)

set_option maxHeartbeats 800000 in
theorem inBlock_any (n b : Int) (w : World) (_hn0 : -1 ≤ n) (_hn1 : n ≤ 59) (hb0 : 0 ≤ b) (hb1 : b < 10) :
    Calls Tryz.prog 115 #[.int .i64 n, .int .i64 b] w fun e w' => e = .returned (.bool (inB n b)) ∧ w' = w := by
  obtain ⟨R, hR⟩ : ∃ R, R = inB n b := ⟨_, rfl⟩
  rw [← hR]
  by_cases h1 : b * 6 ≤ n
  · by_cases h2 : n < (b + 1) * 6
    · have HR : Hid (R = true) := by show _ = _; rw [hR]; simp [inB, h1, h2]
      clear hR
      go_enter Tryz.func115, Tryz.ntmps115
      go_wp2
      go_ret
      exact ⟨by rw [HR.out]; rfl, rfl⟩
    · have HR : Hid (R = false) := by show _ = _; rw [hR]; simp [inB, h2]
      clear hR
      go_enter Tryz.func115, Tryz.ntmps115
      go_wp2
      go_ret
      exact ⟨by rw [HR.out]; rfl, rfl⟩
  · have HR : Hid (R = false) := by show _ = _; rw [hR]; simp [inB, h1]
    clear hR
    go_enter Tryz.func115, Tryz.ntmps115
    go_wp2
    go_ret
    exact ⟨by rw [HR.out]; rfl, rfl⟩

def orI (x y : Int) : Int := if x = 0 then y else x

set_option maxRecDepth 100000 in
set_option maxHeartbeats 1600000 in
theorem or_any (g : Nat) (x y : Int) (w : World) (h0 : w.cell? ⟨g, 0, none⟩ = some (.int .i64 x)) (h1 : w.cell? ⟨g, 1, none⟩ = some (.int .i64 y)) :
    Calls Tryz.prog 121 #[.slice (some ⟨g, 0, none⟩) 2 2] w fun e w' => e = .returned (.int .i64 (orI x y)) ∧ w' = w := by
  obtain ⟨R, hR⟩ : ∃ R, R = orI x y := ⟨_, rfl⟩
  rw [← hR]
  unfold orI at hR
  have HR := hide hR
  clear hR
  go_enter Tryz.func121, Tryz.ntmps121
  go_wp2
  go_loopw [5, 8] (fun _ i wr => (i = .int .i64 0 ∨ (i = .int .i64 1 ∧ x = 0) ∨ (i = .int .i64 2 ∧ x = 0 ∧ y = 0)) ∧ wr = w) (fun _ i _ => 2 - (intOf i).toNat)
  case atStart => exact ⟨.inl rfl, rfl⟩
  case round =>
    obtain ⟨h, rfl⟩ := hrel
    rcases h with rfl | ⟨rfl, rfl⟩ | ⟨rfl, rfl, rfl⟩
    · by_cases hx : x = 0
      · subst hx
        go_wp2
        exact ⟨⟨.inr (.inl ⟨rfl, by simp⟩), by simp⟩, by simp [intOf]⟩
      · have HV := hide (HR.out.trans (if_neg hx))
        have hxb : (x != 0) = true := by simpa using hx
        go_wp2
        go_ret
        exact ⟨by rw [HV.out]; rfl, rfl⟩
    · by_cases hx : y = 0
      · subst hx
        go_wp2
        exact ⟨⟨.inr (.inr ⟨rfl, by simp, by simp⟩), by simp⟩, by simp [intOf]⟩
      · have HV := hide (HR.out.trans (if_pos rfl))
        have hxb : (y != 0) = true := by simpa using hx
        go_wp2
        go_ret
        exact ⟨by rw [HV.out]; rfl, rfl⟩
    · have HV := hide (HR.out.trans (if_pos rfl))
      go_wp2
      go_ret
      exact ⟨by rw [HV.out]; rfl, rfl⟩

/-- What the closure answers: of two blocks, by their Lives, then by their wear. -/
def wcmp (lv : Nat → Int) (ws : List Int) (A B : Nat) : Int := orI (cmpI (lv A) (lv B)) (cmpI (ws[A]?.getD 0) (ws[B]?.getD 0))

set_option maxRecDepth 100000 in
set_option maxHeartbeats 3200000 in
theorem worstCmp_any (pl pf : Nat) (lv : Nat → Int) (b : Option Addr) (ws : List Int) (d A B : Nat) (w : World) (hlv : ∀ i, i < 10 → w.cell? ⟨pl, i, none⟩ = some (.int .i64 (lv i))) (hc : w.cell? ⟨pf, 1, none⟩ = some (.slice b ws.length d)) (hw : Rd w b (vsInt ws)) (hm : ws.length = 10) (hA : A < 10) (hB : B < 10) :
    Calls Tryz.prog 120 #[.int .i64 A, .int .i64 B, .pointer (some ⟨pl, 0, none⟩), .pointer (some ⟨pf, 0, none⟩)] w fun e w' => e = .returned (.int .i64 (wcmp lv ws A B)) ∧ Below w.heap.size w w' := by
  obtain ⟨bb, ob, x, rfl, hcx, HX⟩ := rdInt_at hw (show A < ws.length by omega)
  obtain ⟨bb', ob', y, hb', hcy, HY⟩ := rdInt_at hw (show B < ws.length by omega)
  simp at hb'
  obtain ⟨rfl, rfl⟩ := hb'
  obtain ⟨R, hR⟩ : ∃ R, R = wcmp lv ws A B := ⟨_, rfl⟩
  rw [← hR]
  unfold wcmp at hR
  rw [HX.out, HY.out] at hR
  simp only [Option.getD_some] at hR
  have hla := hlv A hA
  have hlb := hlv B hB
  obtain ⟨X, hX⟩ : ∃ X, X = lv A := ⟨_, rfl⟩
  obtain ⟨Y, hY⟩ : ∃ Y, Y = lv B := ⟨_, rfl⟩
  rw [← hX] at hla hR
  rw [← hY] at hlb hR
  have HR := hide hR
  have HXY := hide (And.intro hX hY)
  clear hR hX hY hlv hw
  go_enter Tryz.func120, Tryz.ntmps120
  go_wp2
  go_region_held (fun w' => w'.cell? ⟨pl, A, none⟩ = some (.int .i64 X) ∧ w'.cell? ⟨pl, B, none⟩ = some (.int .i64 Y) ∧ w'.cell? ⟨pf, 1, none⟩ = some (.slice (some ⟨bb, ob, none⟩) ws.length d) ∧ w'.cell? ⟨bb, ob + A, none⟩ = some (.int .i64 x) ∧ w'.cell? ⟨bb, ob + B, none⟩ = some (.int .i64 y)) (first | assumption | go_keep)
    ((first
      | (go_at_call 122; refine (compare_any _ _ _).mono ?_; rintro e u ⟨rfl, hu⟩; have hu' := hu.symm; subst hu')
      | (go_at_call 121; refine (or_any _ (cmpI X Y) (cmpI x y) _ ?_ ?_).mono ?_; (simp [go_sem]); (simp [go_sem]); rintro e u ⟨rfl, hu⟩; have hu' := hu.symm; subst hu')))
  all_goals (go_wp2_with fail; go_ret; exact ⟨by rw [HR.out]; rfl, after_drew ((Below.refl _ _).alloc (Nat.le_refl _) _) 1⟩)

end Go.Proofs.YtdicjbabnknjhaaGreat

namespace Go.Proofs.YtdicjbabnknjhaaGreat
open Go.RowKit

def minGS (cf : Nat → Nat → Int) (m x : Int) : Int := if m < 0 ∨ cf x.toNat m.toNat < 0 then x else m
def minG (cf : Nat → Nat → Int) (L : List Int) : Int := L.foldl (minGS cf) (-1)
theorem minG_snoc (cf : Nat → Nat → Int) (L : List Int) (x : Int) : minG cf (L ++ [x]) = minGS cf (minG cf L) x := by simp [minG]
theorem minG_take {cf : Nat → Nat → Int} {L : List Int} {k : Nat} {x : Int} (h : L[k]? = some x) : minG cf (L.take (k + 1)) = minGS cf (minG cf (L.take k)) x := by
  rw [List.take_add_one, h]
  exact minG_snoc cf _ x
theorem minG_mem {cf : Nat → Nat → Int} : ∀ (L : List Int), (∀ x ∈ L, 0 ≤ x ∧ x < 10) → L ≠ [] → 0 ≤ minG cf L ∧ minG cf L < 10 := by
  intro L hb hne
  have key : ∀ (L : List Int) (m : Int), (∀ x ∈ L, 0 ≤ x ∧ x < 10) → ((0 ≤ m ∧ m < 10) ∨ L ≠ []) → 0 ≤ L.foldl (minGS cf) m ∧ L.foldl (minGS cf) m < 10 ∨ (m < 0 ∧ L = []) ∨ ¬ (m < 0 ∨ (0 ≤ m ∧ m < 10)) := by
    intro L
    induction L with
    | nil => intro m _ h; rcases h with h | h
             · exact .inl h
             · exact absurd rfl h
    | cons y L ih =>
      intro m hb _
      by_cases hm : m < 0 ∨ (0 ≤ m ∧ m < 10)
      · have hy := hb y (by simp)
        have hs : 0 ≤ minGS cf m y ∧ minGS cf m y < 10 := by
          unfold minGS
          split
          · exact hy
          · next h => omega
        rcases ih (minGS cf m y) (fun x hx => hb x (by simp [hx])) (.inl hs) with h | h | h
        · exact .inl h
        · omega
        · exact absurd (.inr hs) h
      · exact .inr (.inr hm)
  rcases key L (-1) hb (.inr hne) with h | h | h
  · exact h
  · exact absurd h.2 hne
  · exact absurd (.inl (by decide)) h

theorem rdInt_cell {w u : World} {ba oa : Nat} {L : List Int} {k : Nat} {x : Int} (h : Rd w (some ⟨ba, oa, none⟩) (vsInt L)) (hu : Below w.heap.size w u) (hk : k < L.length) (hx : L[k]? = some x) : u.cell? ⟨ba, oa + k, none⟩ = some (.int .i64 x) := by
  obtain ⟨ba', oa', y, hb', hcy, HY⟩ := rdInt_at (h.below hu) hk
  simp at hb'
  obtain ⟨rfl, rfl⟩ := hb'
  have := HY.out
  rw [hx] at this
  cases this
  exact hcy

set_option maxRecDepth 100000 in
set_option maxHeartbeats 1600000 in
theorem minFunc2_any (pl pf : Nat) (lv : Nat → Int) (a b : Option Addr) (L ws : List Int) (c d : Nat) (w : World) (hL : Rd w a (vsInt L)) (hpl : pl < w.heap.size) (hlv : ∀ i, i < 10 → w.cell? ⟨pl, i, none⟩ = some (.int .i64 (lv i))) (hc : w.cell? ⟨pf, 1, none⟩ = some (.slice b ws.length d)) (hw : Rd w b (vsInt ws)) (hm : ws.length = 10) (hl : L.length ≤ 1048576) (hb : ∀ x ∈ L, 0 ≤ x ∧ x < 10) (hne : L ≠ []) :
    Calls Tryz.prog 119 #[.slice a L.length c, .func (.func 120) #[] #[.pointer (some ⟨pl, 0, none⟩), .pointer (some ⟨pf, 0, none⟩)]] w fun e w' => e = .returned (.int .i64 (minG (wcmp lv ws) L)) ∧ Below w.heap.size w w' := by
  have hpos : 0 < L.length := List.length_pos_iff.2 hne
  have HB := hide hb
  have HK : Hid (∀ (u : World) (A B : Nat), Below w.heap.size w u → A < 10 → B < 10 → Calls Tryz.prog 120 #[.int .i64 A, .int .i64 B, .pointer (some ⟨pl, 0, none⟩), .pointer (some ⟨pf, 0, none⟩)] u fun e w' => e = .returned (.int .i64 (wcmp lv ws A B)) ∧ Below w.heap.size w w') := fun u A B hu hA hB =>
    (worstCmp_any pl pf lv b ws d A B u (fun i hi => (hu.cell (p := ⟨pl, i, none⟩) hpl).trans (hlv i hi)) ((hu.cell (p := ⟨pf, 1, none⟩) (lt_of_cell hc)).trans hc) (hw.below hu) hm hA hB).mono fun e w' h => ⟨h.1, after hu h.2⟩
  obtain ⟨ba, oa, z, rfl, hck, HZ⟩ := rdInt_at hL hpos
  have hz := hb z (List.mem_of_getElem? HZ.out)
  rw [Nat.add_zero] at hck
  have HS1 : Hid (minG (wcmp lv ws) (L.take 1) = z) := by
    show _ = _
    have := minG_take (cf := wcmp lv ws) (k := 0) HZ.out
    rw [show (0 : Nat) + 1 = 1 from rfl] at this
    rw [this]
    simp [minG, minGS]
  have hlen1 : ¬ ((L.length : Int) < 1) := by omega
  have HRL := hide hL
  clear hb hne hc hw hm hlv hpl hL
  go_enter Tryz.func119, Tryz.ntmps119
  go_wp2
  go_loopw [5, 6] (fun m i wr => ∃ k : Nat, 1 ≤ k ∧ k ≤ L.length ∧ i = .int .i64 k ∧ m = .int .i64 (minG (wcmp lv ws) (L.take k)) ∧ Below w.heap.size w wr) (fun _ i _ => L.length - (intOf i).toNat)
  case atStart => exact ⟨1, by omega, by omega, rfl, by rw [HS1.out], Below.refl _ _⟩
  case round =>
    obtain ⟨k, hk1, hk, rfl, rfl, hbr⟩ := hrel
    by_cases hlt : k < L.length
    · obtain ⟨ba', oa', x, hb', hcx, HX⟩ := rdInt_at (HRL.out.below hbr) hlt
      simp at hb'
      obtain ⟨rfl, rfl⟩ := hb'
      have hx := HB.out x (List.mem_of_getElem? HX.out)
      have hmm := minG_mem (cf := wcmp lv ws) (L.take k) (fun x hx => HB.out x (List.mem_of_mem_take hx)) (List.ne_nil_of_length_pos (by rw [List.length_take]; omega))
      have HE := hide (minG_take (cf := wcmp lv ws) HX.out)
      obtain ⟨M, hM⟩ : ∃ M, M = minG (wcmp lv ws) (L.take k) := ⟨_, rfl⟩
      rw [← hM] at hmm HE ⊢
      obtain ⟨X, rfl⟩ : ∃ X : Nat, x = X := ⟨x.toNat, by omega⟩
      obtain ⟨M', rfl⟩ : ∃ M' : Nat, M = M' := ⟨M.toNat, by omega⟩
      obtain ⟨Z, hZ⟩ : ∃ Z, Z = wcmp lv ws X M' := ⟨_, rfl⟩
      have HW := hide (HK.out _ X M' hbr (by omega) (by omega))
      rw [← hZ] at HW
      clear hM
      by_cases hcmp : Z < 0
      · have HE2 : Hid (minG (wcmp lv ws) (L.take (k + 1)) = X) := by show _ = _; rw [HE.out, minGS, if_pos (.inr (by simpa [hZ] using hcmp))]
        clear hZ
        go_wp2_with (refine HW.out.mono ?_; rintro e u ⟨rfl, hu⟩; have hcx' : u.cell? ⟨ba, oa + k, none⟩ = some (.int .i64 X) := (rdInt_cell HRL.out hu hlt HX.out))
        exact ⟨⟨k + 1, by omega, by omega, by go_num, by rw [HE2.out], by assumption⟩, by simp [intOf]; omega⟩
      · have HE2 : Hid (minG (wcmp lv ws) (L.take (k + 1)) = M') := by show _ = _; rw [HE.out, minGS, if_neg (by simp [← hZ]; omega)]
        clear hZ
        go_wp2_with (refine HW.out.mono ?_; rintro e u ⟨rfl, hu⟩)
        exact ⟨⟨k + 1, by omega, by omega, by go_num, by rw [HE2.out], by assumption⟩, by simp [intOf]; omega⟩
    · have HE : Hid (L.take k = L) := List.take_of_length_le (by omega)
      go_wp2
      go_ret
      exact ⟨by rw [HE.out]; rfl, by assumption⟩

end Go.Proofs.YtdicjbabnknjhaaGreat
