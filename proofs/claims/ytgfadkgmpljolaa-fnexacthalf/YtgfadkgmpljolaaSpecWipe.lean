/-
  Contract of the specification's l2Wipe: the first pages of a block of a chip that is our own are cleared, its number is one more.
-/
import Derived.Test.YtgfadkgmpljolaaSpecBurn
import Derived.RegionTactic
import Derived.BigRegion
namespace Go.Proofs.Ytgfadkgmpljolaa
open Go.RowKit

/-- The first m pages of a block are clear. -/
def wipeP (ps : List ByteArray) (B : Nat) : Nat → List ByteArray
  | 0 => ps
  | m + 1 => (wipeP ps B m).set (B * 6 + m) ByteArray.empty
theorem wipeP_len (ps : List ByteArray) (B m : Nat) : (wipeP ps B m).length = ps.length := by
  induction m with
  | zero => rfl
  | succ m ih => simp [wipeP, ih]

theorem grown_setB (w : World) (p o : Nat) (v : Value) : w.grownBy (w.setCell ⟨p, o, none⟩ v) (some p) :=
  ⟨rfl, rfl, rfl, by simp [World.setCell], fun k _ hk => Below.heap_setCell _ _ _ _ (fun e => hk (by rw [e]))⟩

theorem OnlyIn.drew {w w' : World} {L : List (Option Nat)} (h : OnlyIn w w' L) : OnlyIn w w'.drew L := ⟨h.os, h.tape, h.output, h.size, h.block⟩

set_option maxHeartbeats 3200000 in
theorem wipe_any (g k g' k' base B M : Nat) (n x : Int) (ps : List ByteArray) (ws : List Int) (w : World) (hl : ps.length = 60) (hm : ws.length = 10)
    (ho1 : w.ownsRow base 9 1 (.slice (some ⟨g, 0, none⟩) ps.length k) ps.length (vsString ps)) (ho2 : w.ownsRow base 3 1 (.slice (some ⟨g', 0, none⟩) ws.length k') ws.length (vsInt ws)) (hne : g ≠ g')
    (hB : B < 10) (hx : ws[B]? = some x) (hx0 : 0 ≤ x) (hx1 : x ≤ 1000000000) (hM : (M : Int) = max (min n 6) 0) (hn1 : n ≤ 9223372036854775807) :
    Calls Try.prog 41 #[.agg #[.slice (some ⟨g, 0, none⟩) ps.length k, .slice (some ⟨g', 0, none⟩) ws.length k'], .int .i64 B, .int .i64 n] w fun e w' =>
      e = .returned (.agg #[.slice (some ⟨g, 0, none⟩) ps.length k, .slice (some ⟨g', 0, none⟩) ws.length k']) ∧ w'.ownsRow base 9 1 (.slice (some ⟨g, 0, none⟩) ps.length k) ps.length (vsString (wipeP ps B M)) ∧
      w'.ownsRow base 3 1 (.slice (some ⟨g', 0, none⟩) ws.length k') ws.length (vsInt (ws.set B (x + 1))) ∧ OnlyIn w w' [some g, some g'] := by
  obtain ⟨W, hW⟩ : ∃ W, W = (w.alloc (Obj.cells #[.slice (some ⟨g, 0, none⟩) ps.length k, .slice (some ⟨g', 0, none⟩) ws.length k'] 28)).alloc (Obj.cells #[.slice none 0 0, .slice none 0 0] 28) := ⟨_, rfl⟩
  have hbW : Below w.heap.size w W := by subst hW; exact ((Below.refl _ _).alloc (Nat.le_refl _) _).alloc (by simp) _
  have cW : W.cell? ⟨w.heap.size, 0, none⟩ = some (.slice (some ⟨g, 0, none⟩) ps.length k) ∧ W.cell? ⟨w.heap.size, 1, none⟩ = some (.slice (some ⟨g', 0, none⟩) ws.length k') ∧ W.cell? ⟨w.heap.size + 1, 0, none⟩ = some (.slice none 0 0) ∧ W.cell? ⟨w.heap.size + 1, 1, none⟩ = some (.slice none 0 0) ∧ W.frozen? ⟨w.heap.size + 1, 0, none⟩ = false ∧ W.frozen? ⟨w.heap.size + 1, 1, none⟩ = false := by
    subst hW; refine ⟨?_, ?_, ?_, ?_, ?_, ?_⟩ <;> simp [go_sem]
  have hsW : w.heap.size + 1 < W.heap.size := by subst hW; simp
  have hg : g < w.heap.size := (owns_lt ho1).2
  have hg' : g' < w.heap.size := (owns_lt ho2).2
  have oW1 := owns_below ho1 hbW
  have oW2 := owns_below ho2 hbW
  have HL : Hid (ps.length = 60 ∧ ws.length = 10) := ⟨hl, hm⟩
  have hl1 : 60 ≤ ps.length ∧ ps.length ≤ 60 := by omega
  have hm1 : 10 ≤ ws.length ∧ ws.length ≤ 10 := by omega
  have HX : Hid (ws[B]? = some x) := hx
  have HM : Hid ((M : Int) = max (min n 6) 0) := hM
  clear hl hm ho1 ho2 hx hM
  go_enter Try.func41, Try.ntmps41
  go_wp2
  rw [← hW]
  clear hW
  go_loopw [7] (fun i wr => ∃ j : Nat, j ≤ M ∧ i = .int .i64 j ∧ wr.ownsRow base 9 1 (.slice (some ⟨g, 0, none⟩) ps.length k) ps.length (vsString (wipeP ps B j)) ∧ W.grownBy wr (some g)) (fun i _ => M - (intOf i).toNat)
  case atStart => exact ⟨0, Nat.zero_le _, rfl, oW1, World.grownBy.refl _ _⟩
  case round =>
    obtain ⟨j, hj, rfl, hown, hgr⟩ := hrel
    have c1 := hgr.cell cW.1 (by simp; omega)
    have c2 := hgr.cell cW.2.1 (by simp; omega)
    have hMn : M ≤ 6 := by have := HM.out; omega
    by_cases hlt : j < M
    · have t1 : (j : Int) < n := by have := HM.out; omega
      have t2 : (j : Int) < 6 := by omega
      have hfz := hown.frozenAt (B * 6 + j)
      have hst := hown.stored (B * 6 + j) (.string ⟨#[]⟩)
      have hcell : ∃ u, wr.cell? ⟨g, B * 6 + j, none⟩ = some u := by
        have h1 := hown.cellAt (B * 6 + j) (by omega)
        have h2 : B * 6 + j < (vsString (wipeP ps B j)).length := by rw [hown.1]; omega
        exact ⟨(vsString (wipeP ps B j))[B * 6 + j], by rw [h1]; exact List.getElem?_eq_getElem h2⟩
      obtain ⟨u, hcell⟩ := hcell
      have HO : Hid ((wr.setCell ⟨g, B * 6 + j, none⟩ (.string ⟨#[]⟩)).ownsRow base 9 1 (.slice (some ⟨g, 0, none⟩) ps.length k) ps.length (vsString (wipeP ps B (j + 1))) ∧ W.grownBy (wr.setCell ⟨g, B * 6 + j, none⟩ (.string ⟨#[]⟩)) (some g)) := by
        refine ⟨?_, grown_trans hgr hst.2⟩
        have e : (vsString (wipeP ps B j)).set (B * 6 + j) (.string ⟨#[]⟩) = vsString (wipeP ps B (j + 1)) := by simp [wipeP, List.map_set]; rfl
        rw [← e]; exact hst.1
      clear hst hown hgr cW oW1 oW2
      go_wp2
      go_roundw
      case rel => exact ⟨j + 1, by omega, by go_num, HO.out.1, HO.out.2⟩
      case measure => simp [intOf]; omega
    · have hjM : j = M := by omega
      subst hjM
      have o2 := oW2.kept hgr (.inr (by simp [Value.ownBlock]; omega))
      have c3 := hgr.cell cW.2.2.1 (by simp; omega)
      have c4 := hgr.cell cW.2.2.2.1 (by simp; omega)
      have f3 : wr.frozen? ⟨w.heap.size + 1, 0, none⟩ = false := (World.frozen?_of_block (w := W) (hgr.block (w.heap.size + 1) (by omega) (by simp; omega))).trans cW.2.2.2.2.1
      have f4 : wr.frozen? ⟨w.heap.size + 1, 1, none⟩ = false := (World.frozen?_of_block (w := W) (hgr.block (w.heap.size + 1) (by omega) (by simp; omega))).trans cW.2.2.2.2.2
      have hwc : wr.cell? ⟨g', B, none⟩ = some (.int .i64 x) := by
        rw [o2.cellAt B (by omega), List.getElem?_map, HX.out]; rfl
      have hwf := o2.frozenAt B
      have hst := o2.stored B (.int .i64 (x + 1))
      have hgn : ¬ g' = w.heap.size := by omega
      have hgn1 : ¬ g' = w.heap.size + 1 := by omega
      have hI1 : (0 : Int) ≤ (B : Int) := by omega
      have hI2 : (B : Int) < (ws.length : Int) := by omega
      have HF : Hid (∀ q r, ((((wr.setCell ⟨g', B, none⟩ (.int .i64 (x + 1))).setCell ⟨w.heap.size + 1, 0, none⟩ q).setCell ⟨w.heap.size + 1, 1, none⟩ r).ownsRow base 9 1 (.slice (some ⟨g, 0, none⟩) ps.length k) ps.length (vsString (wipeP ps B j))) ∧
          ((((wr.setCell ⟨g', B, none⟩ (.int .i64 (x + 1))).setCell ⟨w.heap.size + 1, 0, none⟩ q).setCell ⟨w.heap.size + 1, 1, none⟩ r).ownsRow base 3 1 (.slice (some ⟨g', 0, none⟩) ws.length k') ws.length (vsInt (ws.set B (x + 1)))) ∧
          OnlyIn w (((wr.setCell ⟨g', B, none⟩ (.int .i64 (x + 1))).setCell ⟨w.heap.size + 1, 0, none⟩ q).setCell ⟨w.heap.size + 1, 1, none⟩ r) [some g, some g']) := by
        intro q r
        have e : (vsInt ws).set B (.int .i64 (x + 1)) = vsInt (ws.set B (x + 1)) := by simp [List.map_set]
        have s1 := hst.1
        rw [e] at s1
        have on0 : OnlyIn w wr [some g] := by
          have := (OnlyIn.of_below hbW []).trans (OnlyIn.of_grown hgr)
          simpa using this
        have on1 : OnlyIn w (wr.setCell ⟨g', B, none⟩ (.int .i64 (x + 1))) [some g, some g'] := on0.trans (OnlyIn.of_grown hst.2)
        have s2 : (wr.setCell ⟨g', B, none⟩ (.int .i64 (x + 1))).ownsRow base 9 1 (.slice (some ⟨g, 0, none⟩) ps.length k) ps.length (vsString (wipeP ps B j)) := hown.kept hst.2 (.inr (by simp [Value.ownBlock]; omega))
        have g1 := grown_trans (grown_setB (wr.setCell ⟨g', B, none⟩ (.int .i64 (x + 1))) (w.heap.size + 1) 0 q) (grown_setB _ (w.heap.size + 1) 1 r)
        refine ⟨s2.kept g1 (.inr (by simp [Value.ownBlock]; omega)), s1.kept g1 (.inr (by simp [Value.ownBlock]; omega)), ?_⟩
        refine ⟨on1.os, on1.tape, on1.output, Nat.le_trans on1.size g1.size, fun i hi hn => ?_⟩
        rw [g1.block i (Nat.lt_of_lt_of_le hi on1.size) (by simp; omega)]
        exact on1.block i hi hn
      clear cW oW1 oW2 hown hgr hst o2 hbW
      by_cases t1 : (j : Int) < n
      · have t2 : ¬ (j : Int) < 6 := by have := HM.out; omega
        go_wp2
        go_region
        go_wp2
        exact bodyPost_ret (v := .agg #[.slice (some ⟨g, 0, none⟩) ps.length k, .slice (some ⟨g', 0, none⟩) ws.length k']) (by simp [results, Try.results41, go_sem, c3, c4]) rfl ⟨rfl, (HF.out _ _).1, (HF.out _ _).2.1, (HF.out _ _).2.2.drew⟩
      · go_wp2
        go_region
        go_wp2
        exact bodyPost_ret (v := .agg #[.slice (some ⟨g, 0, none⟩) ps.length k, .slice (some ⟨g', 0, none⟩) ws.length k']) (by simp [results, Try.results41, go_sem, c3, c4]) rfl ⟨rfl, (HF.out _ _).1, (HF.out _ _).2.1, (HF.out _ _).2.2.drew⟩

end Go.Proofs.Ytgfadkgmpljolaa
