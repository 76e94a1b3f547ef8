/-
  NextPage of a chip that is not right; what the two NextPages answer, of any chip: the same.
  What the two FreeBlocks answer, of any chip: the same.
  Contracts of the program's records: RecOk, RecText, takeRec.
-/
import Derived.Test.YtelbannfbglgcaaJMounted15
import Derived.Test.YtelbannfbglgcaaJMounted22
import Derived.Test.YtelbannfbglgcaaJMounted23
namespace Go.Proofs.Ytelbannfbglgcaa
open Go.RowKit Go.Shelf

attribute [local go_sem] Oper.semAt_some

set_option maxRecDepth 100000 in
set_option maxHeartbeats 6000000 in
theorem implNext_bad (a b : Option Addr) (ps : List ByteArray) (ws : List Int) (c d : Nat) (w : World) (hp : Rd w a (vsString ps)) (hw : Rd w b (vsInt ws)) (hl : ps.length ≤ 1048576) (hm : ws.length ≤ 1048576) (hs : ∀ s ∈ ps, s.size ≤ 1048576) (hok : ¬ chipOkP ps ws) :
    Calls Try.prog 35 #[.agg #[.slice a ps.length c, .slice b ws.length d]] w fun e w' => e = .returned (.int .i64 (-1)) ∧ Below w.heap.size w w' := by
  have hmf : ∀ (fn : Fn) (first cap : Array Value) (w : World), (Instr.makeFunc fn first cap).run Try.prog w = .ok (.func fn first cap) w := fun _ _ _ _ => rfl
  obtain ⟨W0, hW0⟩ : ∃ W0, W0 = (w.alloc (Obj.cells #[.slice a ps.length c, .slice b ws.length d] 27)).alloc (Obj.cells #[.int .i64 0] 3) := ⟨_, rfl⟩
  obtain ⟨V, hV⟩ : ∃ V, V = W0.alloc (Obj.cells #[.slice a ps.length c, .slice b ws.length d] 27) := ⟨_, rfl⟩
  have hs0 : W0.heap.size = w.heap.size + 1 + 1 := by rw [hW0]; simp
  have hsV : V.heap.size = w.heap.size + 1 + 1 + 1 := by rw [hV]; simp [hs0]
  have hb0 : Below w.heap.size w W0 := by rw [hW0]; exact ((Below.refl _ _).alloc (Nat.le_refl _) _).alloc (by simp) _
  have hb0V : Below W0.heap.size W0 V := by rw [hV]; exact (Below.refl _ _).alloc (Nat.le_refl _) _
  have hbV : Below w.heap.size w V := after hb0 hb0V
  have bR : Boxed V (w.heap.size + 1) 3 (.int .i64 0) := by
    have := Boxed.new (w.alloc (Obj.cells #[.slice a ps.length c, .slice b ws.length d] 27)) 3 (.int .i64 0)
    rw [World.size_alloc, ← hW0] at this
    rw [hV]; exact this.alloc _
  have bN : V.heap[w.heap.size + 1 + 1]? = some (.cells #[.slice a ps.length c, .slice b ws.length d] 27 (0, 0)) := by
    have := World.alloc_heap_new W0 (Obj.cells #[.slice a ps.length c, .slice b ws.length d] 27)
    rw [hs0, ← hV] at this; exact this
  have bC : V.heap[w.heap.size]? = some (.cells #[.slice a ps.length c, .slice b ws.length d] 27 (0, 0)) := by
    have h1 := World.alloc_heap_new w (Obj.cells #[.slice a ps.length c, .slice b ws.length d] 27)
    have h2 : W0.heap[w.heap.size]? = some (.cells #[.slice a ps.length c, .slice b ws.length d] 27 (0, 0)) := by rw [hW0, Below.heap_alloc _ _ _ (by simp)]; exact h1
    exact (hb0V.block w.heap.size (by omega)).trans h2
  have y0 : W0.cell? ⟨w.heap.size, 0, none⟩ = some (.slice a ps.length c) := by rw [hW0]; simp [go_sem]
  have y1 : W0.cell? ⟨w.heap.size, 1, none⟩ = some (.slice b ws.length d) := by rw [hW0]; simp [go_sem]
  have HST := hide (blocks_none (3 - 1) (by decide) (w.heap.size + 1 + 1) w.heap.size 0 0 a b ps ws c d V bN (hp.below hbV) (hw.below hbV) hl hm hs hok)
  have HBO := hide (blocksOf_any a b ps.length ws.length c d W0)
  rw [← hV, hs0] at HBO
  have HP := hide (And.intro hp (And.intro hw (And.intro hs hok)))
  clear hp hw hok hs
  refine (callsIn_wide (n := 3)).1 ?_
  refine callsIn_of_wp_marks Try.func35 rfl trivial ?_ rfl
  simp only [Try.ntmps35, List.size_toArray, List.length_cons, List.length_nil, Nat.reduceAdd, Nat.reduceSub, Array.replicate_succ, Array.replicate_zero, List.push_toArray, List.append_toArray, List.nil_append, List.cons_append]
  gi_wp2_with (first | (rw [← hW0]; clear hW0) | (refine ⟨trivial, ?_⟩; gi_at_call 81; refine (callsIn_wide.2 HBO.out).mono ?_; rintro e u ⟨rfl, hu⟩; have hu' := hu.symm; subst hu') | (gi_at_call 81; refine (callsIn_wide.2 HBO.out).mono ?_; rintro e u ⟨rfl, hu⟩; have hu' := hu.symm; subst hu'))
  rw [← hV]
  clear hV HBO hu y0 y1
  refine wpIn_rangeFunc_ownG (F := Fence.wide) (n := 3) rfl (by decide) (gf := 116) (lb := #[.pointer (some ⟨w.heap.size + 1 + 1, 0, none⟩)]) rfl trivial (enters_of Try.func116 (by kernel_rfl) rfl)
    HST.out kpB_t (kpB_b (by omega) (by omega)) (Below.refl _ _) (fun _ => rfl)
    (NextI ps w (w.heap.size + 1) (w.heap.size + 1 + 1) (.slice a ps.length c) (.slice b ws.length d)) (fun _ _ _ => False)
    (nextI_own ps w _ _ _ _ _ (by omega)) (fun _ _ _ _ _ hs _ _ => hs)
    ⟨⟨⟨by simp, bR⟩, bN, bC⟩, hbV⟩
    (fun x => { tmps := #[.agg #[.slice a ps.length c, .slice b ws.length d], .pointer (some ⟨w.heap.size, 0, none⟩), .pointer (some ⟨w.heap.size + 1, 0, none⟩), .int .i64 ((x.val : Nat) : Int), .slice (some ⟨0, 0 + x.val * 6, none⟩) 6 (c - x.val * 6), undef, undef, .agg #[.slice a ps.length c, .slice b ws.length d], .func (.func 116) #[] #[.pointer (some ⟨w.heap.size + 1 + 1, 0, none⟩)], .int .i64 ((x.val : Nat) : Int), .slice (some ⟨0, 0 + x.val * 6, none⟩) 6 (c - x.val * 6), undef, undef, undef, undef, undef, undef, undef, undef, undef, undef, undef, undef, undef, undef, undef, undef, undef, undef, undef, undef, undef, undef, undef], defers := [] }) ?assign ?body ?done ?stop
  case assign =>
    intro l x W K hK
    simp only [encB]
    gi_wp2
    simpa using hK
  case body =>
    intro l pre x W _ hlt
    exact absurd hlt (by omega)
  case done =>
    rintro D ys W hD rfl ⟨⟨⟨-, hv⟩, hbn, hbc⟩, hB⟩ hK
    have HFR := hide (implFree_bad a b ps ws c d W (HP.out.1.below hB) (HP.out.2.1.below hB) hl hm HP.out.2.2.1 HP.out.2.2.2)
    have k0 : W.cell? ⟨w.heap.size, 0, none⟩ = some (.slice a ps.length c) := by simp [World.cell?, hbc]
    have k1 : W.cell? ⟨w.heap.size, 1, none⟩ = some (.slice b ws.length d) := by simp [World.cell?, hbc]
    have hDW : D < W.heap.size := (Array.getElem?_eq_some_iff.1 hK).1
    have hrW : w.heap.size + 1 < W.heap.size := hv.lt
    clear bR bN bC HST hbn hbc
    gi_wp2_with fail
    refine ⟨trivial, ?_⟩
    refine (callsIn_wide.2 HFR.out).mono ?_
    rintro e w1 ⟨v, rfl, hown, hb1⟩
    obtain ⟨fa, fc, rfl⟩ := owns_shape hown
    have hK1 : w1.heap[D]? = some (.deferred (some [])) := (hb1.block D hDW).trans hK
    have hv1 : Boxed w1 (w.heap.size + 1) 3 (.int .i64 0) := (hb1.block (w.heap.size + 1) hrW).trans hv
    have hbw1 := after hB hb1
    have hc1 := hv1.cell
    have hf1 := hv1.frozen
    simp only [List.length_nil]
    clear hown HFR k0 k1
    gi_wp2
    have hK' := (KeepsOthers.setCell w1 ⟨w.heap.size + 1, 0, none⟩ (.int .i64 (-1))).same D _ hK1 rfl
    refine ⟨by simp, .inl ⟨_, _, rfl, run_takeDeferred hK', ?_⟩⟩
    have hc5 := cell_kept (hv1.set (.int .i64 (-1))).cell (grownBy_putObj' _ D (.deferred none)) (fun r e => by cases e; exact ⟨_, hK', rfl⟩)
    refine ⟨.int .i64 (-1), ?_, rfl, (hbw1.setCell (p := ⟨w.heap.size + 1, 0, none⟩) (by show _ ≤ _; simp) _).trans (belowK_b (w := w) (Nat.le_refl _) _ D _ _ (by omega) hK' rfl rfl)⟩
    simp [results, Try.results35, go_sem, hc5]
  case stop =>
    rintro D c pre W _ _ h _
    exact h.elim

set_option maxHeartbeats 1600000 in
theorem specNext_any (a b : Option Addr) (ps : List ByteArray) (ws : List Int) (c d : Nat) (w : World) (hp : Rd w a (vsString ps)) (hw : Rd w b (vsInt ws)) (hl : ps.length ≤ 1048576) (hm : ws.length ≤ 1048576) (hs : ∀ s ∈ ps, s.size ≤ 1048576) (R : Int) (hy : chipOkP ps ws → R = nextP ps ws) (hn : ¬ chipOkP ps ws → R = -1) :
    Calls Try.prog 38 #[.agg #[.slice a ps.length c, .slice b ws.length d]] w fun e w' => e = .returned (.int .i64 R) ∧ Below w.heap.size w w' := by
  obtain ⟨W, hW⟩ : ∃ W, W = w.alloc (Obj.cells #[.slice a ps.length c, .slice b ws.length d] 27) := ⟨_, rfl⟩
  have hbW : Below w.heap.size w W := by rw [hW]; exact (Below.refl _ _).alloc (Nat.le_refl _) _
  have x0 : W.cell? ⟨w.heap.size, 0, none⟩ = some (.slice a ps.length c) := by rw [hW]; simp
  have x1 : W.cell? ⟨w.heap.size, 1, none⟩ = some (.slice b ws.length d) := by rw [hW]; simp
  have HOK := hide (specChipOk_any a b ps ws c d W (hp.below hbW) (hw.below hbW) hl hm hs)
  by_cases hok : chipOkP ps ws
  · have HR := hide (hy hok)
    rw [chipOkB_true hok] at HOK
    have HNX : Hid (∀ u, Below W.heap.size W u → Calls Try.prog 87 #[.agg #[.slice a ps.length c, .slice b ws.length d]] u fun e w' => e = .returned (.int .i64 (nextP ps ws)) ∧ Below u.heap.size u w') := fun u hu =>
      next_any a b ps ws c d u (hp.below (after hbW hu)) (hw.below (after hbW hu)) hok.1 hok.2.1
    clear hp hw hs hok hy hn
    go_enter Try.func38, Try.ntmps38
    go_wp2_with fail
    rw [← hW]
    clear hW
    refine HOK.out.mono ?_
    rintro e w1 ⟨rfl, hb1⟩
    have y0 := (hb1.cell (p := ⟨w.heap.size, 0, none⟩) (lt_of_cell x0)).trans x0
    have y1 := (hb1.cell (p := ⟨w.heap.size, 1, none⟩) (lt_of_cell x1)).trans x1
    have HC := hide (HNX.out w1 hb1)
    have hbw1 := after hbW hb1
    clear HNX hb1 x0 x1 HOK
    go_wp2_with fail
    refine HC.out.mono ?_
    rintro e w2 ⟨rfl, hb2⟩
    have hbw2 := after hbw1 hb2
    clear HC hb2 y0 y1
    go_wp2
    go_ret
    exact ⟨by rw [HR.out]; rfl, hbw2⟩
  · have HR := hide (hn hok)
    rw [chipOkB_false hok] at HOK
    clear hp hw hs hok hy hn
    go_enter Try.func38, Try.ntmps38
    go_wp2_with fail
    rw [← hW]
    clear hW
    refine HOK.out.mono ?_
    rintro e w1 ⟨rfl, hb1⟩
    have hbw1 := after hbW hb1
    clear hb1 x0 x1 HOK
    go_wp2
    go_ret
    exact ⟨by rw [HR.out]; rfl, hbw1⟩

theorem fnExactNextPage_both (ps : List ByteArray) (ws : List Int)  (hk0 : ps.length ≤ 1048576) (hk1 : ws.length ≤ 1048576) (hs : ∀ s ∈ ps, s.size ≤ 1048576)  :
    ∃  (S0 : Int), Hid (∀ (u : World) (v : Value), ChipRd u v ps ws → CapOk v → Calls Try.prog 38 #[v] u fun e w' => e = .returned (.int .i64 S0) ∧ Below u.heap.size u w') ∧ Hid (∀ (u : World) (v : Value), ChipRd u v ps ws → CapOk v → Calls Try.prog 35 #[v] u fun e w' => e = .returned (.int .i64 S0) ∧ Below u.heap.size u w') := by
  by_cases hok : chipOkP ps ws
  · refine ⟨nextP ps ws, ?_, ?_⟩
    · rintro u v ⟨a, c, b, d, rfl, h1, h2⟩ _
      exact specNext_any a b ps ws c d u h1 h2 hk0 hk1 hs _ (fun _ => rfl) (fun h => absurd hok h)
    · rintro u v ⟨a, c, b, d, rfl, h1, h2⟩ hcap
      exact implNext_ok a b ps ws c d u h1 h2 hok (by have := (chip_caps hcap).1; have := hok.1; omega)
  · refine ⟨-1, ?_, ?_⟩
    · rintro u v ⟨a, c, b, d, rfl, h1, h2⟩ _
      exact specNext_any a b ps ws c d u h1 h2 hk0 hk1 hs _ (fun h => absurd h hok) (fun _ => rfl)
    · rintro u v ⟨a, c, b, d, rfl, h1, h2⟩ _
      exact implNext_bad a b ps ws c d u h1 h2 hk0 hk1 hs hok

end Go.Proofs.Ytelbannfbglgcaa

namespace Go.Proofs.Ytelbannfbglgcaa
open Go.RowKit

theorem fnExactFreeBlocks_both (ps : List ByteArray) (ws : List Int)  (hk0 : ps.length ≤ 1048576) (hk1 : ws.length ≤ 1048576) (hs : ∀ s ∈ ps, s.size ≤ 1048576)  :
    ∃ (Gxs : List Int) , Gxs.length ≤ 1000 ∧ Hid (∀ (u : World) (v : Value), ChipRd u v ps ws → CapOk v → Calls Try.prog 39 #[v] u fun e w' => ∃ v, e = .returned (v) ∧ IntsOwn w' u.heap.size v Gxs ∧ Below u.heap.size u w') ∧ Hid (∀ (u : World) (v : Value), ChipRd u v ps ws → CapOk v → Calls Try.prog 37 #[v] u fun e w' => ∃ v, e = .returned (v) ∧ IntsOwn w' u.heap.size v Gxs ∧ Below u.heap.size u w') := by
  by_cases hok : chipOkP ps ws
  · refine ⟨freeB ps 10, by have := freeB_len ps 10; omega, ?_, ?_⟩
    · rintro u v ⟨a, c, b, d, rfl, h1, h2⟩ _
      exact specFree_ok a b ps ws c d u h1 h2 hok
    · rintro u v ⟨a, c, b, d, rfl, h1, h2⟩ hcap
      exact implFree_ok a b ps ws c d u h1 h2 hok (by have := (chip_caps hcap).1; have := hok.1; omega)
  · refine ⟨[], by decide, ?_, ?_⟩
    · rintro u v ⟨a, c, b, d, rfl, h1, h2⟩ _
      exact specFree_bad a b ps ws c d u h1 h2 hk0 hk1 hs hok
    · rintro u v ⟨a, c, b, d, rfl, h1, h2⟩ _
      exact implFree_bad a b ps ws c d u h1 h2 hk0 hk1 hs hok

end Go.Proofs.Ytelbannfbglgcaa

namespace Go.Proofs.Ytelbannfbglgcaa
open Go.RowKit

set_option maxRecDepth 100000 in
set_option maxHeartbeats 1600000 in
theorem implRecOk_any (s q : Int) (d : ByteArray) (w : World) (hd : d.size ≤ maxLen) :
    Calls Try.prog 115 #[.agg #[.int .i64 s, .int .i64 q, .string d]] w fun e w' => e = .returned (.bool (recOkB s q d)) ∧ Below w.heap.size w w' := by
  unfold maxLen at hd
  have hbW : Below w.heap.size w (w.alloc (Obj.cells #[.int .i64 s, .int .i64 q, .string d] 50)) := (Below.refl _ _).alloc (Nat.le_refl _) _
  obtain ⟨R, hR⟩ : ∃ R, R = recOkB s q d := ⟨_, rfl⟩
  rw [← hR]
  have HR := hide hR
  clear hR
  go_enter Try.func115, Try.ntmps115
  by_cases h1 : 0 ≤ s
  · by_cases h2 : s < 26
    · by_cases h3 : 1 ≤ q
      · by_cases h4 : q ≤ 1000000000
        · by_cases h5 : (d.size : Int) ≤ 400
          · go_wp2
            go_ret
            exact ⟨ret_bool (by rw [HR.out]; simp [recOkB]; omega), hbW⟩
          · go_wp2
            go_ret
            exact ⟨ret_bool (by rw [HR.out]; simp [recOkB]; omega), hbW⟩
        · go_wp2
          go_ret
          exact ⟨ret_bool (by rw [HR.out]; simp [recOkB]; omega), hbW⟩
      · go_wp2
        go_ret
        exact ⟨ret_bool (by rw [HR.out]; simp [recOkB]; omega), hbW⟩
    · go_wp2
      go_ret
      exact ⟨ret_bool (by rw [HR.out]; simp [recOkB]; omega), hbW⟩
  · go_wp2
    go_ret
    exact ⟨ret_bool (by rw [HR.out]; simp [recOkB]; omega), hbW⟩

/-- What a record's three parts tell from a place on. -/
def getR (zs : List Int) (i : Int) : Option (Int × Int × List Int × Nat) :=
  match getN zs i with
  | none => none
  | some (s, j) => match getN zs (j : Int) with
    | none => none
    | some (q, k) => match getT zs (k : Int) with
      | none => none
      | some (ys, l) => some (s, q, ys, l)
theorem getR_no1 {zs : List Int} {i : Int} (h : getN zs i = none) : getR zs i = none := by unfold getR; rw [h]
theorem getR_no2 {zs : List Int} {i s : Int} {j : Nat} (h : getN zs i = some (s, j)) (h2 : getN zs (j : Int) = none) : getR zs i = none := by unfold getR; rw [h]; simp only []; rw [h2]
theorem getR_no3 {zs : List Int} {i s q : Int} {j k : Nat} (h : getN zs i = some (s, j)) (h2 : getN zs (j : Int) = some (q, k)) (h3 : getT zs (k : Int) = none) : getR zs i = none := by unfold getR; rw [h]; simp only []; rw [h2]; simp only []; rw [h3]
theorem getR_yes {zs : List Int} {i s q : Int} {j k l : Nat} {ys : List Int} (h : getN zs i = some (s, j)) (h2 : getN zs (j : Int) = some (q, k)) (h3 : getT zs (k : Int) = some (ys, l)) : getR zs i = some (s, q, ys, l) := by unfold getR; rw [h]; simp only []; rw [h2]; simp only []; rw [h3]
/-- How taking a record ends. -/
def TookR (pb : Nat) (r : Option (Int × Int × List Int × Nat)) (e : Ending) (w' : World) : Prop :=
  match r with
  | none => ∃ s, e = .panicked [{ v := .iface 9 (.string s), recovered := false }]
  | some (s, q, ys, l) => e = .returned (.agg #[.int .i64 s, .int .i64 q, .string (strOf ys)]) ∧ w'.cell? ⟨pb, 0, none⟩ = some (.int .i64 l) ∧ w'.frozen? ⟨pb, 0, none⟩ = false
theorem tookR_no {pb : Nat} {r : Option (Int × Int × List Int × Nat)} {e : Ending} {w' : World} {s : ByteArray} (h : r = none) (he : e = .panicked [{ v := .iface 9 (.string s), recovered := false }]) : TookR pb r e w' := by subst h; exact ⟨s, he⟩
theorem tookR_yes {pb : Nat} {r : Option (Int × Int × List Int × Nat)} {e : Ending} {w' : World} {s q : Int} {ys : List Int} {l : Nat} (h : r = some (s, q, ys, l)) (he : e = .returned (.agg #[.int .i64 s, .int .i64 q, .string (strOf ys)])) (hc : w'.cell? ⟨pb, 0, none⟩ = some (.int .i64 l)) (hf : w'.frozen? ⟨pb, 0, none⟩ = false) : TookR pb r e w' := by subst h; exact ⟨he, hc, hf⟩

set_option maxRecDepth 100000 in
set_option maxHeartbeats 1600000 in
theorem takeRec_any (a : Option Addr) (zs : List Int) (cap pb : Nat) (i0 : Int) (w : World) (hr : ∀ w', Below pb w w' → Rd w' a (u8s zs)) (hb : IsBytes zs) (hm : zs.length ≤ 1048576) (hcap : zs.length ≤ cap) (hp : w.cell? ⟨pb, 0, none⟩ = some (.int .i64 i0)) (hf : w.frozen? ⟨pb, 0, none⟩ = false) :
    Calls Try.prog 114 #[.slice a zs.length cap, .pointer (some ⟨pb, 0, none⟩)] w fun e w' => Below pb w w' ∧ TookR pb (getR zs i0) e w' := by
  have hpb : pb < w.heap.size := lt_of_cell hp
  obtain ⟨W, hW⟩ : ∃ W, W = w.alloc (Obj.cells #[.int .i64 0, .int .i64 0, .string ⟨#[]⟩] 50) := ⟨_, rfl⟩
  have hbW : Below w.heap.size w W := by rw [hW]; exact (Below.refl _ _).alloc (Nat.le_refl _) _
  have hbp : Below pb w W := hbW.mono (by omega)
  have k0 : C3 W w.heap.size (.int .i64 0) (.int .i64 0) (.string ⟨#[]⟩) := by rw [hW]; exact c3_new _ _ _ _ _
  have p0 : W.cell? ⟨pb, 0, none⟩ = some (.int .i64 i0) := (hbW.cell (p := ⟨pb, 0, none⟩) hpb).trans hp
  have f0 : W.frozen? ⟨pb, 0, none⟩ = false := (hbW.frozen (p := ⟨pb, 0, none⟩) hpb).trans hf
  have hsW := k0.lt
  clear hp hf hbW
  go_enter Try.func114, Try.ntmps114
  go_wp2_with fail
  rw [← hW]
  clear hW
  refine (takeNum_grown a zs cap pb i0 W (fun u hu => hr u (hbp.trans hu)) hb hm p0 f0).mono ?_
  rintro e w1 ⟨hg1, ht⟩
  have hb1 := hbp.trans (belowGrown hg1 (by omega))
  have k1 := k0.grown hg1 (by omega)
  cases hg : getN zs i0 with
  | none =>
    rw [hg] at ht
    obtain ⟨s, rfl⟩ := ht
    have hT := hide (getR_no1 hg)
    clear hg hr p0 f0 k0 k1
    go_wp2
    exact ⟨rfl, hb1, tookR_no hT.out rfl⟩
  | some r =>
    obtain ⟨n, j⟩ := r
    rw [hg] at ht
    obtain ⟨rfl, p1, f1⟩ := ht
    have H1 := hide hg
    clear hg p0 f0 k0 hg1
    go_wp2_with fail
    refine (takeNum_grown a zs cap pb j w1 (fun u hu => hr u (hb1.trans hu)) hb hm p1 f1).mono ?_
    rintro e w2 ⟨hg2, ht⟩
    have hb2 := hb1.trans (belowGrown hg2 (Nat.le_of_lt (lt_of_cell p1)))
    have k2 := k1.grown hg2 (by omega)
    cases hg : getN zs (j : Int) with
    | none =>
      rw [hg] at ht
      obtain ⟨s, rfl⟩ := ht
      have hT := hide (getR_no2 H1.out hg)
      clear hg hr p1 f1 k1 k2
      go_wp2
      exact ⟨rfl, hb2, tookR_no hT.out rfl⟩
    | some r =>
      obtain ⟨q, k⟩ := r
      rw [hg] at ht
      obtain ⟨rfl, p2, f2⟩ := ht
      have H2 := hide hg
      clear hg p1 f1 k1 hg2
      go_wp2_with fail
      refine (takeText_grown a zs cap pb k w2 (fun u hu => hr u (hb2.trans hu)) hb hm hcap p2 f2).mono ?_
      rintro e w3 ⟨hg3, ht⟩
      have hb3 := hb2.trans (belowGrown hg3 (Nat.le_of_lt (lt_of_cell p2)))
      have k3 := k2.grown hg3 (by omega)
      cases hg : getT zs (k : Int) with
      | none =>
        rw [hg] at ht
        obtain ⟨s, rfl⟩ := ht
        have hT := hide (getR_no3 H1.out H2.out hg)
        clear hg hr p2 f2 k2 k3
        go_wp2
        exact ⟨rfl, hb3, tookR_no hT.out rfl⟩
      | some r =>
        obtain ⟨ys, l⟩ := r
        rw [hg] at ht
        obtain ⟨rfl, p3, f3⟩ := ht
        have hT := hide (getR_yes H1.out H2.out hg)
        obtain ⟨⟨c0, c1, c2⟩, cf⟩ := k3
        have g0 := cf 0
        have g1 := cf 1
        have g2 := cf 2
        have hne : pb ≠ w.heap.size := by omega
        clear hg hr p2 f2 k2 hg3 cf
        go_wp2
        exact bodyPost_ret (v := .agg #[.int .i64 n, .int .i64 q, .string (strOf ys)]) (by simp [results, Try.results114, go_sem, c0, c1, c2]) rfl
          ⟨((hb3.setCell (by show _ ≤ _; simp; omega) _).setCell (by show _ ≤ _; simp; omega) _).setCell (by show _ ≤ _; simp; omega) _,
            tookR_yes hT.out rfl (cell_aside (cell_aside (cell_aside p3 (by omega)) (by omega)) (by omega)) (by simpa using f3)⟩

end Go.Proofs.Ytelbannfbglgcaa
