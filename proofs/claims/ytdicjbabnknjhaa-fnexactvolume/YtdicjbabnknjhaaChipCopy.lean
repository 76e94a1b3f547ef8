/-
  Contract of the program's chipCopy: a chip that is right, in rows of the call's own.
-/
import Derived.Test.YtdicjbabnknjhaaClone
import Derived.Test.YtdicjbabnknjhaaArgChip
namespace Go.Proofs.Ytdicjbabnknjhaa
open Go.RowKit

set_option maxHeartbeats 3200000 in
theorem chipCopy_any (a b : Option Addr) (ps : List ByteArray) (ws : List Int) (c d : Nat) (w : World) (hp : Rd w a (vsString ps)) (hw : Rd w b (vsInt ws)) (hl : ps.length = 60) (hm : ws.length = 10) :
    Calls Try.prog 74 #[.agg #[.slice a ps.length c, .slice b ws.length d]] w fun e w' => ∃ v, e = .returned v ∧ ChipOwn w' w.heap.size v ps ws ∧ Below w.heap.size w w' := by
  obtain ⟨b1, o1, rfl, -⟩ := rd_at (k := 0) hp (by simp; omega)
  obtain ⟨b2, o2, rfl, -⟩ := rd_at (k := 0) hw (by simp; omega)
  obtain ⟨A, hA⟩ : ∃ A, A = w.alloc (Obj.cells #[.slice (some ⟨b1, o1, none⟩) ps.length c, .slice (some ⟨b2, o2, none⟩) ws.length d] 41) := ⟨_, rfl⟩
  obtain ⟨W, hW⟩ : ∃ W, W = A.alloc (Obj.cells #[.slice none 0 0, .slice none 0 0] 41) := ⟨_, rfl⟩
  have hsA : A.heap.size = w.heap.size + 1 := by rw [hA]; simp
  have hbA : Below w.heap.size w A := by rw [hA]; exact (Below.refl _ _).alloc (Nat.le_refl _) _
  have hbAW : Below A.heap.size A W := by rw [hW]; exact (Below.refl _ _).alloc (Nat.le_refl _) _
  have hbW : Below w.heap.size w W := after hbA hbAW
  have x0 : W.cell? ⟨w.heap.size, 0, none⟩ = some (.slice (some ⟨b1, o1, none⟩) ps.length c) := by
    have h : A.cell? ⟨w.heap.size, 0, none⟩ = some (.slice (some ⟨b1, o1, none⟩) ps.length c) := by rw [hA]; simp
    exact (hbAW.cell (p := ⟨w.heap.size, 0, none⟩) (lt_of_cell h)).trans h
  have x1 : W.cell? ⟨w.heap.size, 1, none⟩ = some (.slice (some ⟨b2, o2, none⟩) ws.length d) := by
    have h : A.cell? ⟨w.heap.size, 1, none⟩ = some (.slice (some ⟨b2, o2, none⟩) ws.length d) := by rw [hA]; simp
    exact (hbAW.cell (p := ⟨w.heap.size, 1, none⟩) (lt_of_cell h)).trans h
  have c0 : W.cell? ⟨w.heap.size + 1, 0, none⟩ = some (.slice none 0 0) := by rw [hW, ← hsA]; simp
  have c1 : W.cell? ⟨w.heap.size + 1, 1, none⟩ = some (.slice none 0 0) := by rw [hW, ← hsA]; simp
  have f0 : W.frozen? ⟨w.heap.size + 1, 0, none⟩ = false := by rw [hW, ← hsA]; simp
  have f1 : W.frozen? ⟨w.heap.size + 1, 1, none⟩ = false := by rw [hW, ← hsA]; simp
  have hsW : w.heap.size + 1 < W.heap.size := lt_of_cell c0
  have hdr : Below W.heap.size W W.drew := after_drew (Below.refl _ _) 1
  have HP := hide ((hp.below hbW).below hdr)
  have HQ := hide ((hw.below hbW).below hdr)
  have HL := hide (And.intro hl hm)
  have hl0 : 0 < ps.length := by omega
  have hm0 : 0 < ws.length := by omega
  have HBW : Hid (Below w.heap.size w W.drew) := after hbW hdr
  have HC : Hid (∀ u, Below W.drew.heap.size W.drew u → u.cell? ⟨w.heap.size, 1, none⟩ = some (.slice (some ⟨b2, o2, none⟩) ws.length d) ∧ (u.cell? ⟨w.heap.size + 1, 0, none⟩ = some (.slice none 0 0) ∧ u.cell? ⟨w.heap.size + 1, 1, none⟩ = some (.slice none 0 0)) ∧ u.frozen? ⟨w.heap.size + 1, 0, none⟩ = false ∧ u.frozen? ⟨w.heap.size + 1, 1, none⟩ = false) := fun u hu =>
    ⟨(hu.cell (p := ⟨w.heap.size, 1, none⟩) (by show w.heap.size < W.heap.size; omega)).trans (by simpa using x1), ⟨(hu.cell (p := ⟨w.heap.size + 1, 0, none⟩) hsW).trans (by simpa using c0), (hu.cell (p := ⟨w.heap.size + 1, 1, none⟩) hsW).trans (by simpa using c1)⟩, (hu.frozen (p := ⟨w.heap.size + 1, 0, none⟩) hsW).trans (by simpa using f0), (hu.frozen (p := ⟨w.heap.size + 1, 1, none⟩) hsW).trans (by simpa using f1)⟩
  clear hp hw hbA hbAW hbW c0 c1 f0 f1 hl hm hdr hsA
  go_enter Try.func74, Try.ntmps74
  go_wp2_with fail
  rw [← hA]
  rw [← hW]
  clear hA hW
  go_region_with (first
    | (go_at_call 79; refine (cloneString_any b1 o1 c ps _ HP.out (by have := HL.out.1; omega)).mono ?_; rintro e w1 ⟨v1, rfl, ho1, hb1⟩; obtain ⟨g1, k1, hv1, hg1, hg1'⟩ := owns_form ho1 hl0; subst hv1; have HO1 := hide ho1; have HQ1 := hide (HQ.out.below hb1); have HBW1 := hide hb1; have y1 := (HC.out w1 hb1).1; clear ho1 hb1)
    | (go_at_call 80; refine (cloneInt_any b2 o2 d ws _ HQ1.out (by have := HL.out.2; omega)).mono ?_; rintro e w2 ⟨v2, rfl, ho2, hb2⟩; obtain ⟨g2, k2, hv2, hg2, hg2'⟩ := owns_form ho2 hm0; subst hv2; have HO2 := hide ho2; have HO1' := hide (owns_below HO1.out hb2); have HBW2 : Hid (Below W.drew.heap.size W.drew w2) := after HBW1.out hb2; obtain ⟨-, ⟨c0, c1⟩, f0, f1⟩ := HC.out w2 HBW2.out; clear ho2 hb2))
  all_goals go_wp2
  all_goals
    have HW2 : Hid (Below w.heap.size w w2) := HBW.out.trans (HBW2.out.mono HBW.out.size)
    refine bodyPost_ret (v := .agg #[.slice (some ⟨g1, 0, none⟩) ps.length k1, .slice (some ⟨g2, 0, none⟩) ws.length k2]) (by simp [results, Try.results74, go_sem, c0, c1]) rfl ⟨_, rfl, ⟨_, _, rfl, ?_, ?_, ?_⟩, (HW2.out.setCell (by show _ ≤ _; simp) _).setCell (by show _ ≤ _; simp) _⟩
    · exact owns_mono (ownsRow_setCell_below (ownsRow_setCell_below HO1'.out (show w.heap.size + 1 < W.drew.heap.size from hsW) _) (show w.heap.size + 1 < W.drew.heap.size from hsW) _) (show w.heap.size ≤ W.drew.heap.size from by show _ ≤ W.heap.size; omega)
    · exact owns_mono (ownsRow_setCell_below (ownsRow_setCell_below HO2.out (show w.heap.size + 1 < w1.heap.size by have := HBW1.out.size; simp at this; omega) _) (show w.heap.size + 1 < w1.heap.size by have := HBW1.out.size; simp at this; omega) _) (show w.heap.size ≤ w1.heap.size by have := HBW1.out.size; simp at this; omega)
    · intro k hk
      simp [Value.ownBlock] at hk ⊢
      omega

end Go.Proofs.Ytdicjbabnknjhaa
