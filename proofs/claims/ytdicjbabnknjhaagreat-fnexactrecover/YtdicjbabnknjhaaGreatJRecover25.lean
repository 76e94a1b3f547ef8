/-
  Contract of the program's chipCopy: a chip that is right, in rows of the call's own.
  Contract of the program's Mount, of a chip that is not right; what holds while it goes through the pages.
  Contracts of math/bits.Mul and slices.Repeat at what the program hands them: one -1, 26 times.
-/
import Derived.Test.YtdicjbabnknjhaaGreatJRecover17
import Derived.Test.YtdicjbabnknjhaaGreatJRecover2
import Derived.Test.YtdicjbabnknjhaaGreatJRecover24
import Derived.Test.YtdicjbabnknjhaaGreatJRecover14
import Derived.Test.YtdicjbabnknjhaaGreatJRecover13
import Derived.Test.YtdicjbabnknjhaaGreatJRecover9
import Derived.Test.YtdicjbabnknjhaaGreatJRecover3
import Derived.Laws.MakeOwn
import Derived.Laws.CopyOwn
import Derived.Deep.RegionLaw
namespace Go.Proofs.YtdicjbabnknjhaaGreat
open Go.RowKit

set_option maxHeartbeats 3200000 in
theorem chipCopy_any (a b : Option Addr) (ps : List ByteArray) (ws : List Int) (c d : Nat) (w : World) (hp : Rd w a (vsString ps)) (hw : Rd w b (vsInt ws)) (hl : ps.length = 60) (hm : ws.length = 10) :
    Calls Tryz.prog 90 #[.agg #[.slice a ps.length c, .slice b ws.length d]] w fun e w' => ∃ v, e = .returned v ∧ ChipOwn w' w.heap.size v ps ws ∧ Below w.heap.size w w' := by
  obtain ⟨b1, o1, rfl, -⟩ := rd_at (k := 0) hp (by simp; omega)
  obtain ⟨b2, o2, rfl, -⟩ := rd_at (k := 0) hw (by simp; omega)
  obtain ⟨A, hA⟩ : ∃ A, A = w.alloc (Obj.cells #[.slice (some ⟨b1, o1, none⟩) ps.length c, .slice (some ⟨b2, o2, none⟩) ws.length d] 32) := ⟨_, rfl⟩
  obtain ⟨W, hW⟩ : ∃ W, W = A.alloc (Obj.cells #[.slice none 0 0, .slice none 0 0] 32) := ⟨_, rfl⟩
  have hsA : A.heap.size = w.heap.size + 1 := by rw [hA]; simp
  have hbA : Below w.heap.size w A := by rw [hA]; exact (Below.refl _ _).alloc (Nat.le_refl _) _
  have hbAW : Below A.heap.size A W := by rw [hW]; exact (Below.refl _ _).alloc (Nat.le_refl _) _
  have hbW : Below w.heap.size w W := after hbA hbAW
  have x0 : W.cell? ⟨w.heap.size, 0, none⟩ = some (.slice (some ⟨b1, o1, none⟩) ps.length c) := by
    have h : A.cell? ⟨w.heap.size, 0, none⟩ = some (.slice (some ⟨b1, o1, none⟩) ps.length c) := by rw [hA]; simp
    exact (hbAW.cell (p := ⟨w.heap.size, 0, none⟩) (lt_of_cell h)).trans h
  have x1 : W.cell? ⟨w.heap.size, 1, none⟩ = some (.slice (some ⟨b2, o2, none⟩) ws.length d) := by
    have h : A.cell? ⟨w.heap.size, 1, none⟩ = some (.slice (some ⟨b2, o2, none⟩) ws.length d) := by rw [hA]; simp
    exact (hbAW.cell (p := ⟨w.heap.size, 1, none⟩) (lt_of_cell h)).trans h
  have c0 : W.cell? ⟨w.heap.size + 1, 0, none⟩ = some (.slice none 0 0) := by rw [hW, ← hsA]; simp
  have c1 : W.cell? ⟨w.heap.size + 1, 1, none⟩ = some (.slice none 0 0) := by rw [hW, ← hsA]; simp
  have f0 : W.frozen? ⟨w.heap.size + 1, 0, none⟩ = false := by rw [hW, ← hsA]; simp
  have f1 : W.frozen? ⟨w.heap.size + 1, 1, none⟩ = false := by rw [hW, ← hsA]; simp
  have hsW : w.heap.size + 1 < W.heap.size := lt_of_cell c0
  have hdr : Below W.heap.size W W.drew := after_drew (Below.refl _ _) 1
  have HP := hide ((hp.below hbW).below hdr)
  have HQ := hide ((hw.below hbW).below hdr)
  have HL := hide (And.intro hl hm)
  have hl0 : 0 < ps.length := by omega
  have hm0 : 0 < ws.length := by omega
  have HBW : Hid (Below w.heap.size w W.drew) := after hbW hdr
  have HC : Hid (∀ u, Below W.drew.heap.size W.drew u → u.cell? ⟨w.heap.size, 1, none⟩ = some (.slice (some ⟨b2, o2, none⟩) ws.length d) ∧ (u.cell? ⟨w.heap.size + 1, 0, none⟩ = some (.slice none 0 0) ∧ u.cell? ⟨w.heap.size + 1, 1, none⟩ = some (.slice none 0 0)) ∧ u.frozen? ⟨w.heap.size + 1, 0, none⟩ = false ∧ u.frozen? ⟨w.heap.size + 1, 1, none⟩ = false) := fun u hu =>
    ⟨(hu.cell (p := ⟨w.heap.size, 1, none⟩) (by show w.heap.size < W.heap.size; omega)).trans (by simpa using x1), ⟨(hu.cell (p := ⟨w.heap.size + 1, 0, none⟩) hsW).trans (by simpa using c0), (hu.cell (p := ⟨w.heap.size + 1, 1, none⟩) hsW).trans (by simpa using c1)⟩, (hu.frozen (p := ⟨w.heap.size + 1, 0, none⟩) hsW).trans (by simpa using f0), (hu.frozen (p := ⟨w.heap.size + 1, 1, none⟩) hsW).trans (by simpa using f1)⟩
  clear hp hw hbA hbAW hbW c0 c1 f0 f1 hl hm hdr hsA
  go_enter Tryz.func90, Tryz.ntmps90
  go_wp2_with fail
  rw [← hA]
  rw [← hW]
  clear hA hW
  go_region_with (first
    | (go_at_call 106; refine (cloneString_any b1 o1 c ps _ HP.out (by have := HL.out.1; omega)).mono ?_; rintro e w1 ⟨v1, rfl, ho1, hb1⟩; obtain ⟨g1, k1, hv1, hg1, hg1'⟩ := owns_form ho1 hl0; subst hv1; have HO1 := hide ho1; have HQ1 := hide (HQ.out.below hb1); have HBW1 := hide hb1; have y1 := (HC.out w1 hb1).1; clear ho1 hb1)
    | (go_at_call 107; refine (cloneInt_any b2 o2 d ws _ HQ1.out (by have := HL.out.2; omega)).mono ?_; rintro e w2 ⟨v2, rfl, ho2, hb2⟩; obtain ⟨g2, k2, hv2, hg2, hg2'⟩ := owns_form ho2 hm0; subst hv2; have HO2 := hide ho2; have HO1' := hide (owns_below HO1.out hb2); have HBW2 : Hid (Below W.drew.heap.size W.drew w2) := after HBW1.out hb2; obtain ⟨-, ⟨c0, c1⟩, f0, f1⟩ := HC.out w2 HBW2.out; clear ho2 hb2))
  all_goals go_wp2
  all_goals
    have HW2 : Hid (Below w.heap.size w w2) := HBW.out.trans (HBW2.out.mono HBW.out.size)
    refine bodyPost_ret (v := .agg #[.slice (some ⟨g1, 0, none⟩) ps.length k1, .slice (some ⟨g2, 0, none⟩) ws.length k2]) (by simp [results, Tryz.results90, go_sem, c0, c1]) rfl ⟨_, rfl, ⟨_, _, rfl, ?_, ?_, ?_⟩, (HW2.out.setCell (by show _ ≤ _; simp) _).setCell (by show _ ≤ _; simp) _⟩
    · exact owns_mono (ownsRow_setCell_below (ownsRow_setCell_below HO1'.out (show w.heap.size + 1 < W.drew.heap.size from hsW) _) (show w.heap.size + 1 < W.drew.heap.size from hsW) _) (show w.heap.size ≤ W.drew.heap.size from by show _ ≤ W.heap.size; omega)
    · exact owns_mono (ownsRow_setCell_below (ownsRow_setCell_below HO2.out (show w.heap.size + 1 < w1.heap.size by have := HBW1.out.size; simp at this; omega) _) (show w.heap.size + 1 < w1.heap.size by have := HBW1.out.size; simp at this; omega) _) (show w.heap.size ≤ w1.heap.size by have := HBW1.out.size; simp at this; omega)
    · intro k hk
      simp [Value.ownBlock] at hk ⊢
      omega

end Go.Proofs.YtdicjbabnknjhaaGreat

namespace Go.Proofs.YtdicjbabnknjhaaGreat
open Go.RowKit

set_option maxHeartbeats 1600000 in
theorem implMount_bad (a b : Option Addr) (ps : List ByteArray) (ws : List Int) (c d : Nat) (w : World) (hp : Rd w a (vsString ps)) (hw : Rd w b (vsInt ws)) (hl : ps.length ≤ 1048576) (hm : ws.length ≤ 1048576) (hs : ∀ s ∈ ps, s.size ≤ 1048576) (hok : ¬ chipOkP ps ws) :
    Calls Tryz.prog 63 #[.agg #[.slice a ps.length c, .slice b ws.length d]] w fun e w' => ∃ v, e = .returned v ∧ FtlOwn w' w.heap.size v [] [] [] 0 ∧ Below w.heap.size w w' := by
  obtain ⟨W, hW⟩ : ∃ W, W = (w.alloc (Obj.cells #[.slice a ps.length c, .slice b ws.length d] 32)).alloc (Obj.cells #[.slice none 0 0, .slice none 0 0, .slice none 0 0, .int .i64 0] 34) := ⟨_, rfl⟩
  have hbW : Below w.heap.size w W := by subst hW; exact ((Below.refl _ _).alloc (Nat.le_refl _) _).alloc (by simp) _
  have cW : W.cell? ⟨w.heap.size + 1, 0, none⟩ = some (.slice none 0 0) ∧ W.cell? ⟨w.heap.size + 1, 1, none⟩ = some (.slice none 0 0) ∧ W.cell? ⟨w.heap.size + 1, 2, none⟩ = some (.slice none 0 0) ∧ W.cell? ⟨w.heap.size + 1, 3, none⟩ = some (.int .i64 0) ∧ (∀ j, W.frozen? ⟨w.heap.size + 1, j, none⟩ = false) ∧ w.heap.size + 1 < W.heap.size := by
    subst hW; refine ⟨?_, ?_, ?_, ?_, fun j => ?_, ?_⟩ <;> simp [go_sem]
  obtain ⟨x0, x1, x2, x3, xf, hsz⟩ := cW
  have hB := chipOkB_false hok
  go_enter Tryz.func63, Tryz.ntmps63
  go_wp2_with fail
  rw [← hW]
  clear hW
  refine (implChipOk_any a b ps ws c d _ (hp.below hbW) (hw.below hbW) hl hm hs).mono ?_
  rw [hB]
  rintro e w1 ⟨rfl, hb1⟩
  have k0 := (hb1.cell (p := ⟨w.heap.size + 1, 0, none⟩) hsz).trans x0
  have k1 := (hb1.cell (p := ⟨w.heap.size + 1, 1, none⟩) hsz).trans x1
  have k2 := (hb1.cell (p := ⟨w.heap.size + 1, 2, none⟩) hsz).trans x2
  have k3 := (hb1.cell (p := ⟨w.heap.size + 1, 3, none⟩) hsz).trans x3
  have f0 := (hb1.frozen (p := ⟨w.heap.size + 1, 0, none⟩) hsz).trans (xf 0)
  have f1 := (hb1.frozen (p := ⟨w.heap.size + 1, 1, none⟩) hsz).trans (xf 1)
  have f2 := (hb1.frozen (p := ⟨w.heap.size + 1, 2, none⟩) hsz).trans (xf 2)
  have f3 := (hb1.frozen (p := ⟨w.heap.size + 1, 3, none⟩) hsz).trans (xf 3)
  have hbw1 := after hbW hb1
  clear hb1 hbW x0 x1 x2 x3 xf hp hw hs hok hB
  go_wp2
  exact bodyPost_ret (v := .agg #[.slice none 0 0, .slice none 0 0, .slice none 0 0, .int .i64 0]) (by simp [results, Tryz.results63, go_sem, k0, k1, k2, k3]) rfl ⟨_, rfl, ftlOwn_zero _ _, (((hbw1.setCell (by show _ ≤ _; simp) _).setCell (by show _ ≤ _; simp) _).setCell (by show _ ≤ _; simp) _).setCell (by show _ ≤ _; simp) _⟩

/-- What holds between two pages: nothing but the map's row has turned, and that is what Mount tells of the pages so far. -/
def MI (V : World) (gm : Nat) (ps : List ByteArray) (k : Nat) (wr : World) : Prop :=
  OnlyIn V wr [some gm] ∧ wr.heap[gm]? = some (.cells (vsInt (mUpto ps k).2.1).toArray 3 (0, 0))

theorem RecRow.only {u u' : World} {L : List (Option Nat)} {g : Nat} {ps : List ByteArray} {k : Nat} (h : RecRow u g ps k) (hO : OnlyIn u u' L) (hn : some g ∉ L) : RecRow u' g ps k := by
  have hb := hO.block g h.lt hn
  refine ⟨fun i hi => ?_, fun j => ?_⟩
  · obtain ⟨h0, h1, h2⟩ := h.1 i hi
    exact ⟨only_cell hO hn h0, only_cell hO hn h1, only_cell hO hn h2⟩
  · have := h.2 j
    simp only [World.frozen?] at this ⊢
    rw [hb]; exact this

theorem row_cell {w : World} {g j : Nat} {C : Array Value} {t : TypeId} {v : Value} (h : w.heap[g]? = some (.cells C t (0, 0))) (hv : C[j]? = some v) : w.cell? ⟨g, j, none⟩ = some v := by
  simp [World.cell?, h, hv]
theorem rowInt {w : World} {g k : Nat} {xs : List Int} {x : Int} (h : w.heap[g]? = some (.cells (vsInt xs).toArray 3 (0, 0))) (hx : xs[k]? = some x) : w.cell? ⟨g, k, none⟩ = some (.int .i64 x) := by
  refine row_cell h ?_
  rw [List.getElem?_toArray, List.getElem?_map, hx]; rfl
theorem rowFrozen {w : World} {g k : Nat} {xs : List Int} (h : w.heap[g]? = some (.cells (vsInt xs).toArray 3 (0, 0))) : w.frozen? ⟨g, k, none⟩ = false := frozen_of_row w g k _ _ h
theorem rowSet {w : World} {g k : Nat} {xs : List Int} {y : Int} (h : w.heap[g]? = some (.cells (vsInt xs).toArray 3 (0, 0))) : (w.setCell ⟨g, k, none⟩ (.int .i64 y)).heap[g]? = some (.cells (vsInt (xs.set k y)).toArray 3 (0, 0)) := by
  rw [heap_setCell_same w g k _ _ _ h]
  congr 2
  simp [List.map_set]
theorem rowOwns {w : World} {g base : Nat} {xs : List Int} {n : Nat} (h : w.heap[g]? = some (.cells (vsInt xs).toArray 3 (0, 0))) (hn : xs.length = n) (hb : base ≤ g) (hm : n ≤ 1048576) : w.ownsRow base 3 1 (.slice (some ⟨g, 0, none⟩) n n) n (vsInt xs) := by
  subst hn
  refine ⟨by simp, .inr ⟨g, _, _, rfl, hb, h, Nat.le_refl _, by unfold maxLen; omega, by simp, ?_⟩⟩
  rw [Nat.mul_one]
  exact List.take_of_length_le (by simp)
theorem rowRd {w : World} {g : Nat} {xs : List Int} (h : w.heap[g]? = some (.cells (vsInt xs).toArray 3 (0, 0))) : Rd w (some ⟨g, 0, none⟩) (vsInt xs) := by
  refine .inr ⟨g, 0, rfl, fun i v hv => ?_⟩
  rw [Nat.zero_add]
  exact row_cell h (by rw [List.getElem?_toArray]; exact hv)

end Go.Proofs.YtdicjbabnknjhaaGreat

namespace Go.Proofs.YtdicjbabnknjhaaGreat
open Go.RowKit

set_option maxHeartbeats 1600000 in
theorem mul64_any (w : World) : Calls Tryz.prog 130 #[.int .u64 1, .int .u64 26] w fun e w' => e = .returned (.tuple #[.int .u64 0, .int .u64 26]) ∧ w' = w := by
  go_enter Tryz.func130, Tryz.ntmps130
  go_wp2
  go_ret2
  exact ⟨rfl, rfl⟩

set_option maxHeartbeats 1600000 in
theorem mul_any (w : World) : Calls Tryz.prog 105 #[.int .u64 1, .int .u64 26] w fun e w' => e = .returned (.tuple #[.int .u64 0, .int .u64 26]) ∧ w' = w := by
  go_enter Tryz.func105, Tryz.ntmps105
  go_wp2_with fail
  refine (mul64_any _).mono ?_
  rintro e u ⟨rfl, hu⟩
  have hu' := hu.symm
  subst hu'
  go_wp2
  go_ret2
  exact ⟨rfl, rfl⟩

/-- The row that Repeat fills: n of them are there. -/
def repL (n : Nat) : List Value := vsInt (List.replicate n (-1)) ++ List.replicate (26 - n) (Value.int .i64 0)
theorem repL_len {n : Nat} (h : n ≤ 26) : (repL n).length = 26 := by simp [repL]; omega
theorem repL_splice (n m : Nat) : splice (repL n) n (vsInt (List.replicate m (-1))) = repL (n + m) := by
  have e1 : (repL n).take n = vsInt (List.replicate n (-1)) := by
    unfold repL; rw [List.take_left' (by simp)]
  have e2 : (repL n).drop (n + m) = List.replicate (26 - (n + m)) (Value.int .i64 0) := by
    unfold repL
    rw [List.drop_append, List.drop_eq_nil_of_le (by simp), List.nil_append, List.drop_replicate]
    congr 1
    simp; omega
  have e3 : vsInt (List.replicate (n + m) (-1)) = vsInt (List.replicate n (-1)) ++ vsInt (List.replicate m (-1)) := by
    rw [← List.map_append, List.replicate_append_replicate]
  simp only [splice, List.length_map, List.length_replicate, e1, e2]
  rw [repL, e3, List.append_assoc]
theorem szInt1 : (Tryz.prog.info? 3).map (·.size) = some 1 := by kernel_rfl
theorem made_n (n : Nat) : madeCells (Value.int .i64 0).cells n = (List.replicate n (Value.int .i64 0)).toArray :=
  Array.ext (by simp [madeCells]) (fun i h1 h2 => by simp [madeCells, Value.cells, Nat.mod_one])
theorem made26 : madeCells (Value.int .i64 0).cells 26 = (repL 0).toArray := by
  rw [made_n]; rfl
theorem repL_at {n j : Nat} {v : Value} {m : Nat} (hm : m ≤ n) (hv : (vsInt (List.replicate m (-1)))[j]? = some v) : (repL n).toArray[j]? = some v := by
  have hj : j < m := by
    rcases Nat.lt_or_ge j m with h' | h'
    · exact h'
    · simp [h'] at hv
  have e : v = .int .i64 (-1) := by
    rw [List.getElem?_map, List.getElem?_replicate_of_lt hj] at hv; simpa using hv.symm
  subst e
  simp only [List.getElem?_toArray, repL]
  rw [List.getElem?_append_left (by simp; omega), List.getElem?_map, List.getElem?_replicate_of_lt (by omega)]
  rfl

theorem heap_cell {w : World} {g j : Nat} {C : Array Value} {t : TypeId} {v : Value} (h : w.heap[g]? = some (.cells C t (0, 0))) (hv : C[j]? = some v) : w.cell? ⟨g, j, none⟩ = some v := by
  simp [World.cell?, h, hv]

set_option maxRecDepth 100000 in
set_option maxHeartbeats 3200000 in
theorem repeat_any (b o c : Nat) (w : World) (hc : w.cell? ⟨b, o, none⟩ = some (.int .i64 (-1))) :
    Calls Tryz.prog 89 #[.slice (some ⟨b, o, none⟩) 1 c, .int .i64 26] w fun e w' => e = .returned (.slice (some ⟨w.heap.size, 0, none⟩) 26 26) ∧ w'.heap[w.heap.size]? = some (.cells (vsInt (List.replicate 26 (-1))).toArray 3 (0, 0)) ∧ Below w.heap.size w w' := by
  obtain ⟨i2, hi2, hz0, hz1, hz2⟩ := info_parts infoInt
  have k26 : ∀ w, (Instr.makeSlice 23 (.int .i64 26) (.int .i64 26)).run Tryz.prog w = .ok (.slice (some ⟨w.heap.size, 0, none⟩) 26 26) (w.alloc (.cells (repL 0).toArray 3)) := by
    intro w
    have := run_make (P := Tryz.prog) w 23 3 i2 _ Tryz.underlying23 hi2 hz0 .i64 .i64 26 26 (by decide) (by decide) (by rw [hz2]; decide) (by decide)
    rw [hz1, show Int.toNat 26 * 1 = 26 from rfl, made26] at this
    exact this
  obtain ⟨Z, hZ⟩ : ∃ Z, Z = (repL 0).toArray := ⟨_, rfl⟩
  rw [← hZ] at k26
  obtain ⟨W, hW⟩ : ∃ W, W = w.alloc (.cells Z 3) := ⟨_, rfl⟩
  have hbW : Below w.heap.size w W := by rw [hW]; exact (Below.refl _ _).alloc (Nat.le_refl _) _
  have HG : Hid (W.heap[w.heap.size]? = some (.cells (repL 0).toArray 3 (0, 0))) := by show _ = _; rw [hW, hZ]; exact Go.heap_alloc_new w _
  have HC : Hid (W.cell? ⟨b, o, none⟩ = some (.int .i64 (-1))) := (hbW.cell (p := ⟨b, o, none⟩) (lt_of_cell hc)).trans hc
  have HB := hide hbW
  clear hZ hz0 hz1 hz2 hc hbW
  go_enter Tryz.func89, Tryz.ntmps89
  go_wp2_with fail
  refine (mul_any _).mono ?_
  rintro e u ⟨rfl, hu⟩
  have hu' := hu.symm
  subst hu'
  go_wp2_with (rw [← hW]; refine wpList_copy_splice rfl (.tmp 31) (.tmp 32) 23 23 rfl 3 Tryz.underlying23 szInt1 _ _ _ _ _ _ rfl rfl w.heap.size 0 (repL 0) 3 HG.out (vsInt (List.replicate 1 (-1))) rfl (fun _ => ⟨rfl, _, rfl, ?q1⟩) (by decide) ?q2 w.heap.size w HB.out (Nat.le_refl _) ?_)
  case q1 =>
    intro j v hv
    match j, hv with
    | 0, hv => simp at hv; subst hv; simpa [Addr.add] using HC.out
  case q2 => intro v hv; simp at hv; subst hv; rfl
  intro w1 HG1 hB1
  have hg1 : w1.heap[w.heap.size]? = some (.cells (repL 1).toArray 3 (0, 0)) := by
    have := HG1.out
    exact (repL_splice 0 1) ▸ this
  clear HG HC HB HG1 hW k26
  go_wp2_with fail
  go_loopw [8] (fun i wr => ∃ n : Nat, 1 ≤ n ∧ n ≤ 26 ∧ i = .int .i64 n ∧ wr.heap[w.heap.size]? = some (.cells (repL n).toArray 3 (0, 0)) ∧ Below w.heap.size w wr) (fun i _ => 26 - (intOf i).toNat)
  case atStart => exact ⟨1, by omega, by omega, rfl, hg1, hB1⟩
  case round =>
    obtain ⟨n, hn1, hn2, rfl, hg, hB⟩ := hrel
    clear hg1 hB1
    by_cases hlt : n < 26
    · have HG2 : Hid (wr.drew.heap[w.heap.size]? = some (.cells (repL n).toArray 3 (0, 0))) := hg
      have HB2 : Hid (Below w.heap.size w wr.drew) := after_drew hB 1
      obtain ⟨m, hm⟩ : ∃ m, m = Nat.min n (26 - n) := ⟨_, rfl⟩
      have HN : Hid ((vsInt (List.replicate m (-1))).length = Nat.min n (26 - n)) := by show _ = _; simp [hm]
      have hm1 : 1 ≤ m ∧ m ≤ n ∧ n + m ≤ 26 := by rw [hm]; have : Nat.min n (26 - n) = min n (26 - n) := rfl; omega
      have HF : Hid (n + (vsInt (List.replicate m (-1))).length ≤ (repL n).length) := by show _ ≤ _; rw [repL_len hn2]; simp; omega
      have HC2 : Hid (∀ j v, (vsInt (List.replicate m (-1)))[j]? = some v → wr.drew.cell? ((⟨w.heap.size, 0, none⟩ : Addr).add j) = some v) := fun j v hv => by
        rw [add_at, Nat.zero_add]
        exact heap_cell HG2.out (repL_at hm1.2.1 hv)
      have HO : Hid (∀ v ∈ vsInt (List.replicate m (-1)), v.oneCell' = true) := fun v hv => by
        simp at hv; obtain ⟨_, rfl⟩ := hv; rfl
      have m1 := hm1.1
      have m2 := hm1.2.1
      have m3 := hm1.2.2
      clear hm1
      have q1 : (n : Int) ≤ 26 := by omega
      have q2 : ¬ 26 = n := by omega
      have q3 : IntKind.i64.wrap ((n : Int) + m) = n + m := by rw [IntKind.wrap_i64]; omega
      clear hm hg hB
      go_wp2_with fail
      go_region_law (refine step_copy_splice rfl (.tmp 41) (.tmp 44) 23 23 rfl 3 Tryz.underlying23 szInt1 _ _ _ _ _ _ (by rfl) (by rfl) w.heap.size n (repL n) 3 HG2.out (vsInt (List.replicate m (-1))) HN.out (fun _ => ⟨rfl, _, rfl, HC2.out⟩) HF.out HO.out w.heap.size w HB2.out (Nat.le_refl _) ?_; intro w4 HG4 hB4)
      have hB5 := hB4
      have HG5 : Hid (w4.heap[w.heap.size]? = some (.cells (repL (n + m)).toArray 3 (0, 0))) := by
        have := HG4.out
        rw [repL_splice n m] at this
        exact this
      clear HG4 HG2 HC2 HB2 HF HO HN hB4
      go_simp
      go_wp2
      go_roundw
      case rel => exact ⟨n + m, by omega, by omega, by go_num, HG5.out, hB5⟩
      case measure => simp [intOf]; omega
    · obtain rfl : n = 26 := by omega
      have HE : Hid (wr.heap[w.heap.size]? = some (.cells (vsInt (List.replicate 26 (-1))).toArray 3 (0, 0))) := by
        show _ = _
        rw [hg]; simp [repL]
      clear hg
      go_wp2
      go_ret
      exact ⟨rfl, HE.out, hB⟩

end Go.Proofs.YtdicjbabnknjhaaGreat
