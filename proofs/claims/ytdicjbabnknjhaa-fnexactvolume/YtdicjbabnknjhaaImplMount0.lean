/-
  Contract of the program's Mount, of a chip that is not right; what holds while it goes through the pages.
-/
import Derived.Test.YtdicjbabnknjhaaRecs
import Derived.Test.YtdicjbabnknjhaaChipCopy
import Derived.Test.YtdicjbabnknjhaaSlLib
import Derived.Test.YtdicjbabnknjhaaImplChip
import Derived.Test.YtdicjbabnknjhaaMountInv
import Derived.Test.YtdicjbabnknjhaaLawChip
namespace Go.Proofs.Ytdicjbabnknjhaa
open Go.RowKit

set_option maxHeartbeats 1600000 in
theorem implMount_bad (a b : Option Addr) (ps : List ByteArray) (ws : List Int) (c d : Nat) (w : World) (hp : Rd w a (vsString ps)) (hw : Rd w b (vsInt ws)) (hl : ps.length ≤ 1048576) (hm : ws.length ≤ 1048576) (hs : ∀ s ∈ ps, s.size ≤ 1048576) (hok : ¬ chipOkP ps ws) :
    Calls Try.prog 61 #[.agg #[.slice a ps.length c, .slice b ws.length d]] w fun e w' => ∃ v, e = .returned v ∧ FtlOwn w' w.heap.size v [] [] [] 0 ∧ Below w.heap.size w w' := by
  obtain ⟨W, hW⟩ : ∃ W, W = (w.alloc (Obj.cells #[.slice a ps.length c, .slice b ws.length d] 41)).alloc (Obj.cells #[.slice none 0 0, .slice none 0 0, .slice none 0 0, .int .i64 0] 43) := ⟨_, rfl⟩
  have hbW : Below w.heap.size w W := by subst hW; exact ((Below.refl _ _).alloc (Nat.le_refl _) _).alloc (by simp) _
  have cW : W.cell? ⟨w.heap.size + 1, 0, none⟩ = some (.slice none 0 0) ∧ W.cell? ⟨w.heap.size + 1, 1, none⟩ = some (.slice none 0 0) ∧ W.cell? ⟨w.heap.size + 1, 2, none⟩ = some (.slice none 0 0) ∧ W.cell? ⟨w.heap.size + 1, 3, none⟩ = some (.int .i64 0) ∧ (∀ j, W.frozen? ⟨w.heap.size + 1, j, none⟩ = false) ∧ w.heap.size + 1 < W.heap.size := by
    subst hW; refine ⟨?_, ?_, ?_, ?_, fun j => ?_, ?_⟩ <;> simp [go_sem]
  obtain ⟨x0, x1, x2, x3, xf, hsz⟩ := cW
  have hB := chipOkB_false hok
  go_enter Try.func61, Try.ntmps61
  go_wp2_with fail
  rw [← hW]
  clear hW
  refine (implChipOk_any a b ps ws c d _ (hp.below hbW) (hw.below hbW) hl hm hs).mono ?_
  rw [hB]
  rintro e w1 ⟨rfl, hb1⟩
  have k0 := (hb1.cell (p := ⟨w.heap.size + 1, 0, none⟩) hsz).trans x0
  have k1 := (hb1.cell (p := ⟨w.heap.size + 1, 1, none⟩) hsz).trans x1
  have k2 := (hb1.cell (p := ⟨w.heap.size + 1, 2, none⟩) hsz).trans x2
  have k3 := (hb1.cell (p := ⟨w.heap.size + 1, 3, none⟩) hsz).trans x3
  have f0 := (hb1.frozen (p := ⟨w.heap.size + 1, 0, none⟩) hsz).trans (xf 0)
  have f1 := (hb1.frozen (p := ⟨w.heap.size + 1, 1, none⟩) hsz).trans (xf 1)
  have f2 := (hb1.frozen (p := ⟨w.heap.size + 1, 2, none⟩) hsz).trans (xf 2)
  have f3 := (hb1.frozen (p := ⟨w.heap.size + 1, 3, none⟩) hsz).trans (xf 3)
  have hbw1 := after hbW hb1
  clear hb1 hbW x0 x1 x2 x3 xf hp hw hs hok hB
  go_wp2
  exact bodyPost_ret (v := .agg #[.slice none 0 0, .slice none 0 0, .slice none 0 0, .int .i64 0]) (by simp [results, Try.results61, go_sem, k0, k1, k2, k3]) rfl ⟨_, rfl, ftlOwn_zero _ _, (((hbw1.setCell (by show _ ≤ _; simp) _).setCell (by show _ ≤ _; simp) _).setCell (by show _ ≤ _; simp) _).setCell (by show _ ≤ _; simp) _⟩

/-- What holds between two pages: nothing but the map's row has turned, and that is what Mount tells of the pages so far. -/
def MI (V : World) (gm : Nat) (ps : List ByteArray) (k : Nat) (wr : World) : Prop :=
  OnlyIn V wr [some gm] ∧ wr.heap[gm]? = some (.cells (vsInt (mUpto ps k).2.1).toArray 3 (0, 0))

theorem RecRow.only {u u' : World} {L : List (Option Nat)} {g : Nat} {ps : List ByteArray} {k : Nat} (h : RecRow u g ps k) (hO : OnlyIn u u' L) (hn : some g ∉ L) : RecRow u' g ps k := by
  have hb := hO.block g h.lt hn
  refine ⟨fun i hi => ?_, fun j => ?_⟩
  · obtain ⟨h0, h1, h2⟩ := h.1 i hi
    exact ⟨only_cell hO hn h0, only_cell hO hn h1, only_cell hO hn h2⟩
  · have := h.2 j
    simp only [World.frozen?] at this ⊢
    rw [hb]; exact this

theorem row_cell {w : World} {g j : Nat} {C : Array Value} {t : TypeId} {v : Value} (h : w.heap[g]? = some (.cells C t (0, 0))) (hv : C[j]? = some v) : w.cell? ⟨g, j, none⟩ = some v := by
  simp [World.cell?, h, hv]
theorem rowInt {w : World} {g k : Nat} {xs : List Int} {x : Int} (h : w.heap[g]? = some (.cells (vsInt xs).toArray 3 (0, 0))) (hx : xs[k]? = some x) : w.cell? ⟨g, k, none⟩ = some (.int .i64 x) := by
  refine row_cell h ?_
  rw [List.getElem?_toArray, List.getElem?_map, hx]; rfl
theorem rowFrozen {w : World} {g k : Nat} {xs : List Int} (h : w.heap[g]? = some (.cells (vsInt xs).toArray 3 (0, 0))) : w.frozen? ⟨g, k, none⟩ = false := frozen_of_row w g k _ _ h
theorem rowSet {w : World} {g k : Nat} {xs : List Int} {y : Int} (h : w.heap[g]? = some (.cells (vsInt xs).toArray 3 (0, 0))) : (w.setCell ⟨g, k, none⟩ (.int .i64 y)).heap[g]? = some (.cells (vsInt (xs.set k y)).toArray 3 (0, 0)) := by
  rw [heap_setCell_same w g k _ _ _ h]
  congr 2
  simp [List.map_set]
theorem rowOwns {w : World} {g base : Nat} {xs : List Int} {n : Nat} (h : w.heap[g]? = some (.cells (vsInt xs).toArray 3 (0, 0))) (hn : xs.length = n) (hb : base ≤ g) (hm : n ≤ 1048576) : w.ownsRow base 3 1 (.slice (some ⟨g, 0, none⟩) n n) n (vsInt xs) := by
  subst hn
  refine ⟨by simp, .inr ⟨g, _, _, rfl, hb, h, Nat.le_refl _, by unfold maxLen; omega, by simp, ?_⟩⟩
  rw [Nat.mul_one]
  exact List.take_of_length_le (by simp)
theorem rowRd {w : World} {g : Nat} {xs : List Int} (h : w.heap[g]? = some (.cells (vsInt xs).toArray 3 (0, 0))) : Rd w (some ⟨g, 0, none⟩) (vsInt xs) := by
  refine .inr ⟨g, 0, rfl, fun i v hv => ?_⟩
  rw [Nat.zero_add]
  exact row_cell h (by rw [List.getElem?_toArray]; exact hv)

end Go.Proofs.Ytdicjbabnknjhaa
