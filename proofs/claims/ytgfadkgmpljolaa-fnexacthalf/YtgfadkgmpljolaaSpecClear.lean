/-
  Contract of the specification's Clear.
-/
import Derived.Test.YtgfadkgmpljolaaSpecWipe
namespace Go.Proofs.Ytgfadkgmpljolaa
open Go.RowKit

/-- A block can be cleared. -/
def clearOk (ws : List Int) (block : Int) : Prop := 0 ≤ block ∧ block ≤ 9 ∧ ws[block.toNat]?.getD 0 ≠ 1000000000

set_option maxHeartbeats 1600000 in
theorem specClear_bad (a b : Option Addr) (ps : List ByteArray) (ws : List Int) (c d : Nat) (block : Int) (w : World) (hp : Rd w a (vsString ps)) (hw : Rd w b (vsInt ws)) (hl : ps.length ≤ 1048576) (hm : ws.length ≤ 1048576) (hs : ∀ s ∈ ps, s.size ≤ 1048576) (hok : ¬ chipOkP ps ws) :
    Calls Try.prog 20 #[.agg #[.slice a ps.length c, .slice b ws.length d], .int .i64 block] w fun e w' => ∃ v, e = .returned (.tuple #[v, .bool false]) ∧ ChipOwn w' w.heap.size v [] [] ∧ Below w.heap.size w w' := by
  obtain ⟨W, hW⟩ : ∃ W, W = (w.alloc (Obj.cells #[.slice a ps.length c, .slice b ws.length d] 28)).alloc (Obj.cells #[.slice none 0 0, .slice none 0 0] 28) := ⟨_, rfl⟩
  have hbW : Below w.heap.size w W := by subst hW; exact ((Below.refl _ _).alloc (Nat.le_refl _) _).alloc (by simp) _
  have cW : W.cell? ⟨w.heap.size + 1, 0, none⟩ = some (.slice none 0 0) ∧ W.cell? ⟨w.heap.size + 1, 1, none⟩ = some (.slice none 0 0) ∧ W.frozen? ⟨w.heap.size + 1, 0, none⟩ = false ∧ W.frozen? ⟨w.heap.size + 1, 1, none⟩ = false ∧ w.heap.size + 1 < W.heap.size := by
    subst hW; refine ⟨?_, ?_, ?_, ?_, ?_⟩ <;> simp [go_sem]
  have hB := chipOkB_false hok
  go_enter Try.func20, Try.ntmps20
  go_wp2_with fail
  rw [← hW]
  clear hW
  refine (specChipOk_any a b ps ws c d _ (hp.below hbW) (hw.below hbW) hl hm hs).mono ?_
  rw [hB]
  rintro e w1 ⟨rfl, hb1⟩
  have k1 := (hb1.cell (p := ⟨w.heap.size + 1, 0, none⟩) (by show _ < _; exact cW.2.2.2.2)).trans cW.1
  have k2 := (hb1.cell (p := ⟨w.heap.size + 1, 1, none⟩) (by show _ < _; exact cW.2.2.2.2)).trans cW.2.1
  have f1 := (hb1.frozen (p := ⟨w.heap.size + 1, 0, none⟩) (by show _ < _; exact cW.2.2.2.2)).trans cW.2.2.1
  have f2 := (hb1.frozen (p := ⟨w.heap.size + 1, 1, none⟩) (by show _ < _; exact cW.2.2.2.2)).trans cW.2.2.2.1
  have hbw1 := after hbW hb1
  clear hb1 hbW cW hp hw hs hok hB
  go_wp2
  exact bodyPost_ret (v := .tuple #[.agg #[.slice none 0 0, .slice none 0 0], .bool false]) (by simp [results, Try.results20, go_sem, k1, k2]) rfl ⟨_, rfl, own_zero _ _, (hbw1.setCell (by show _ ≤ _; simp) _).setCell (by show _ ≤ _; simp) _⟩

set_option maxHeartbeats 3200000 in
theorem specClear_ok (a b : Option Addr) (ps : List ByteArray) (ws : List Int) (c d : Nat) (block : Int) (w : World) (hp : Rd w a (vsString ps)) (hw : Rd w b (vsInt ws)) (hok : chipOkP ps ws) :
    Calls Try.prog 20 #[.agg #[.slice a ps.length c, .slice b ws.length d], .int .i64 block] w fun e w' => (clearOk ws block → ∃ v, e = .returned (.tuple #[v, .bool true]) ∧ ChipOwn w' w.heap.size v (wipeP ps block.toNat 6) (ws.set block.toNat (ws[block.toNat]?.getD 0 + 1))) ∧
      (¬ clearOk ws block → ∃ v, e = .returned (.tuple #[v, .bool false]) ∧ ChipOwn w' w.heap.size v ps ws) ∧ Below w.heap.size w w' := by
  obtain ⟨W, hW⟩ : ∃ W, W = (w.alloc (Obj.cells #[.slice a ps.length c, .slice b ws.length d] 28)).alloc (Obj.cells #[.slice none 0 0, .slice none 0 0] 28) := ⟨_, rfl⟩
  have hbW : Below w.heap.size w W := by subst hW; exact ((Below.refl _ _).alloc (Nat.le_refl _) _).alloc (by simp) _
  have cW : W.cell? ⟨w.heap.size, 0, none⟩ = some (.slice a ps.length c) ∧ W.cell? ⟨w.heap.size, 1, none⟩ = some (.slice b ws.length d) ∧ W.cell? ⟨w.heap.size + 1, 0, none⟩ = some (.slice none 0 0) ∧ W.cell? ⟨w.heap.size + 1, 1, none⟩ = some (.slice none 0 0) ∧ W.frozen? ⟨w.heap.size + 1, 0, none⟩ = false ∧ W.frozen? ⟨w.heap.size + 1, 1, none⟩ = false := by
    subst hW; refine ⟨?_, ?_, ?_, ?_, ?_, ?_⟩ <;> simp [go_sem]
  have hsW : w.heap.size + 1 < W.heap.size := by subst hW; simp
  have hB := chipOkB_true hok
  obtain ⟨hl, hm, hs8, hx⟩ := hok
  have HL : Hid (ps.length = 60 ∧ ws.length = 10) := ⟨hl, hm⟩
  have hl1 : 60 ≤ ps.length ∧ ps.length ≤ 60 := by omega
  have hm1 : 10 ≤ ws.length ∧ ws.length ≤ 10 := by omega
  clear hl hm
  go_enter Try.func20, Try.ntmps20
  go_wp2_with fail
  rw [← hW]
  clear hW
  refine (specChipOk_any a b ps ws c d _ (hp.below hbW) (hw.below hbW) (by omega) (by omega) (fun s h => by have := hs8 s h; omega)).mono ?_
  rw [hB]
  rintro e w1 ⟨rfl, hb1⟩
  have k1 := (hb1.cell (p := ⟨w.heap.size, 0, none⟩) (by show _ < _; simp; omega)).trans cW.1
  have k2 := (hb1.cell (p := ⟨w.heap.size, 1, none⟩) (by show _ < _; simp; omega)).trans cW.2.1
  have hbw1 := after hbW hb1
  have hs1 := hb1.size
  have hw1 := hw.below hbw1
  have copyF : ∀ (w2 : World) (v : Value), ChipOwn w2 w1.heap.size v ps ws → Below w1.heap.size w1 w2 → Hid (∃ g k g' k', v = .agg #[.slice (some ⟨g, 0, none⟩) ps.length k, .slice (some ⟨g', 0, none⟩) ws.length k'] ∧
      w2.cell? ⟨w.heap.size + 1, 0, none⟩ = some (.slice none 0 0) ∧ w2.cell? ⟨w.heap.size + 1, 1, none⟩ = some (.slice none 0 0) ∧ w2.frozen? ⟨w.heap.size + 1, 0, none⟩ = false ∧ w2.frozen? ⟨w.heap.size + 1, 1, none⟩ = false ∧ Below w.heap.size w w2 ∧
      w2.ownsRow w1.heap.size 9 1 (.slice (some ⟨g, 0, none⟩) ps.length k) ps.length (vsString ps) ∧ w2.ownsRow w1.heap.size 3 1 (.slice (some ⟨g', 0, none⟩) ws.length k') ws.length (vsInt ws) ∧ g ≠ g' ∧ w1.heap.size ≤ g ∧ w1.heap.size ≤ g') := by
    intro w2 v hown hb2
    obtain ⟨g, kg, g', kg', rfl, ho1, ho2, hne, hg1, hg2, hg3, hg4⟩ := own_form hown (by omega) (by omega)
    have hb12 := after hb1 hb2
    refine ⟨g, kg, g', kg', rfl, ?_, ?_, ?_, ?_, after hbw1 hb2, ho1, ho2, hne, hg1, hg2⟩
    · exact (hb12.cell (p := ⟨w.heap.size + 1, 0, none⟩) (by show _ < _; simp; omega)).trans cW.2.2.1
    · exact (hb12.cell (p := ⟨w.heap.size + 1, 1, none⟩) (by show _ < _; simp; omega)).trans cW.2.2.2.1
    · exact (hb12.frozen (p := ⟨w.heap.size + 1, 0, none⟩) (by show _ < _; simp; omega)).trans cW.2.2.2.2.1
    · exact (hb12.frozen (p := ⟨w.heap.size + 1, 1, none⟩) (by show _ < _; simp; omega)).trans cW.2.2.2.2.2
  have HCF : Hid _ := copyF
  have hwb : w.heap.size + 1 < w1.heap.size := by omega
  have HP : Hid (Rd w1 a (vsString ps)) := hp.below hbw1
  have HW : Hid (Rd w1 b (vsInt ws)) := hw1
  clear copyF hb1 hbW cW hp hw hB hs8 hsW hs1 hbw1 hw1
  go_wp2_with fail
  refine (in_any _ _ _ _).mono ?_
  rintro e u ⟨rfl, hu⟩
  have hu' := hu.symm
  subst hu'
  have outF : ∀ (w2 : World) (v : Value), ChipOwn w2 w1.heap.size v ps ws → True := fun _ _ _ => trivial
  clear outF
  by_cases hin : 0 ≤ block ∧ block ≤ 9
  · have hd : decide (0 ≤ block ∧ block ≤ 9) = true := by simpa using hin
    rw [hd]
    obtain ⟨B, rfl⟩ : ∃ B : Nat, block = B := ⟨block.toNat, by omega⟩
    have hBl : B < ws.length := by omega
    obtain ⟨b1, o1, x, hbe, hck, HX⟩ := rdInt_at HW.out hBl
    subst hbe
    have hx' := hx x (List.mem_of_getElem? HX.out)
    clear hin hd hx
    by_cases hxm : x = 1000000000
    · have hnb : Hid (¬ clearOk ws B) := fun h => h.2.2 (by rw [Int.toNat_natCast, HX.out]; exact hxm)
      have t1 : (x == 1000000000) = true := by simp [hxm]
      clear hxm
      go_wp2_with fail
      refine (copy_any a _ ps ws c d _ HP.out HW.out HL.out.1 HL.out.2).mono ?_
      rintro e w2 ⟨v, rfl, hown, hb2⟩
      obtain ⟨g, kg, g', kg', rfl, j3, j4, f3, f4, hbw2, ho1, ho2, hne, hg1, hg2⟩ := (HCF.out w2 v hown hb2).out
      clear hown hb2
      go_wp2
      refine bodyPost_ret (v := .tuple #[.agg #[.slice (some ⟨g, 0, none⟩) ps.length kg, .slice (some ⟨g', 0, none⟩) ws.length kg'], .bool false]) (by simp [results, Try.results20, go_sem, j3, j4]) rfl ⟨fun h => absurd h hnb.out, fun _ => ⟨_, rfl, ?_⟩, (hbw2.setCell (by show _ ≤ _; simp) _).setCell (by show _ ≤ _; simp) _⟩
      refine own_mono (own_set (own_set ⟨_, _, rfl, ho1, ho2, fun q hq => by simp [Value.ownBlock] at hq ⊢; omega⟩ ?_ _) ?_ _) (show w.heap.size ≤ w1.heap.size by omega)
      · show _ < _; exact hwb
      · show _ < _; exact hwb
    · have hyb : Hid (clearOk ws B) := ⟨by omega, by omega, by rw [Int.toNat_natCast, HX.out]; exact hxm⟩
      have t1 : (x == 1000000000) = false := by simp [hxm]
      clear hxm
      go_wp2_with fail
      refine (copy_any a _ ps ws c d _ HP.out HW.out HL.out.1 HL.out.2).mono ?_
      rintro e w2 ⟨v, rfl, hown, hb2⟩
      obtain ⟨g, kg, g', kg', rfl, j3, j4, f3, f4, hbw2, ho1, ho2, hne, hg1, hg2⟩ := (HCF.out w2 v hown hb2).out
      clear hown hb2
      go_wp2_with fail
      refine (wipe_any g kg g' kg' w1.heap.size B 6 6 x ps ws w2 HL.out.1 HL.out.2 ho1 ho2 hne (by omega) HX.out hx'.1 hx'.2 (by omega) (by omega)).mono ?_
      rintro e w3 ⟨rfl, oo1, oo2, hon⟩
      have hb3 : Below w1.heap.size w2 w3 := hon.below (by have := (owns_lt ho1).2; omega) (by intro q hq; simp at hq; omega)
      have i3 := (hb3.cell (p := ⟨w.heap.size + 1, 0, none⟩) (by show _ < _; exact hwb)).trans j3
      have i4 := (hb3.cell (p := ⟨w.heap.size + 1, 1, none⟩) (by show _ < _; exact hwb)).trans j4
      have m3 := (hb3.frozen (p := ⟨w.heap.size + 1, 0, none⟩) (by show _ < _; exact hwb)).trans f3
      have m4 := (hb3.frozen (p := ⟨w.heap.size + 1, 1, none⟩) (by show _ < _; exact hwb)).trans f4
      have hbw3 : Below w.heap.size w w3 := hbw2.trans (hb3.mono (by omega))
      clear j3 j4 f3 f4 hb3 hon ho1 ho2 hbw2
      go_wp2
      refine bodyPost_ret (v := .tuple #[.agg #[.slice (some ⟨g, 0, none⟩) ps.length kg, .slice (some ⟨g', 0, none⟩) ws.length kg'], .bool true]) (by simp [results, Try.results20, go_sem, i3, i4]) rfl ⟨fun _ => ⟨_, rfl, ?_⟩, fun h => absurd hyb.out h, (hbw3.setCell (by show _ ≤ _; simp) _).setCell (by show _ ≤ _; simp) _⟩
      rw [Int.toNat_natCast, HX.out]
      refine own_mono (own_set (own_set ⟨_, _, rfl, ?_, ?_, fun q hq => by simp [Value.ownBlock] at hq ⊢; omega⟩ ?_ _) ?_ _) (show w.heap.size ≤ w1.heap.size by omega)
      · rw [wipeP_len]; exact oo1
      · rw [List.length_set]; exact oo2
      · show _ < _; exact hwb
      · show _ < _; exact hwb
  · have hd : decide (0 ≤ block ∧ block ≤ 9) = false := by simpa using hin
    have hnb : Hid (¬ clearOk ws block) := fun h => hin ⟨h.1, h.2.1⟩
    rw [hd]
    clear hin hd
    go_wp2_with fail
    refine (copy_any a b ps ws c d _ HP.out HW.out HL.out.1 HL.out.2).mono ?_
    rintro e w2 ⟨v, rfl, hown, hb2⟩
    obtain ⟨g, kg, g', kg', rfl, j3, j4, f3, f4, hbw2, ho1, ho2, hne, hg1, hg2⟩ := (HCF.out w2 v hown hb2).out
    clear hown hb2
    go_wp2
    refine bodyPost_ret (v := .tuple #[.agg #[.slice (some ⟨g, 0, none⟩) ps.length kg, .slice (some ⟨g', 0, none⟩) ws.length kg'], .bool false]) (by simp [results, Try.results20, go_sem, j3, j4]) rfl ⟨fun h => absurd h hnb.out, fun _ => ⟨_, rfl, ?_⟩, (hbw2.setCell (by show _ ≤ _; simp) _).setCell (by show _ ≤ _; simp) _⟩
    refine own_mono (own_set (own_set ⟨_, _, rfl, ho1, ho2, fun q hq => by simp [Value.ownBlock] at hq ⊢; omega⟩ ?_ _) ?_ _) (show w.heap.size ≤ w1.heap.size by omega)
    · show _ < _; exact hwb
    · show _ < _; exact hwb

end Go.Proofs.Ytgfadkgmpljolaa
