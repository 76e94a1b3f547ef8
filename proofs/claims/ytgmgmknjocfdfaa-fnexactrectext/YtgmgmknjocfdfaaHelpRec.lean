/-
  Contracts of the laws' helpers over records: eqRec, toRec, szRec.
-/
import Derived.Test.YtgmgmknjocfdfaaSpecRead
namespace Go.Proofs.Ytgmgmknjocfdfaa
open Go.RowKit

set_option maxHeartbeats 1600000 in
theorem eqRec_any (s q s' q' : Int) (d d' : ByteArray) (w : World) :
    Calls Try.prog 20 #[.agg #[.int .i64 s, .int .i64 q, .string d], .agg #[.int .i64 s', .int .i64 q', .string d']] w fun e w' => e = .returned (.bool (decide (s = s' ∧ q = q' ∧ d = d'))) ∧ Below w.heap.size w w' := by
  have hbW : Below w.heap.size w ((w.alloc (Obj.cells #[.int .i64 s, .int .i64 q, .string d] 25)).alloc (Obj.cells #[.int .i64 s', .int .i64 q', .string d'] 25)) := ((Below.refl _ _).alloc (Nat.le_refl _) _).alloc (by simp) _
  obtain ⟨B, hB⟩ : ∃ B : Bool, B = decide (s = s' ∧ q = q' ∧ d = d') := ⟨_, rfl⟩
  rw [← hB]
  by_cases h1 : s = s'
  · subst h1
    by_cases h2 : q = q'
    · subst h2
      by_cases h3 : d = d'
      · subst h3
        have hf : Hid (B = true) := by show _ = _; simp [hB]
        clear hB
        go_enter Try.func20, Try.ntmps20
        go_wp2
        go_ret
        exact ⟨ret_bool hf.out.symm, hbW⟩
      · have hf : Hid (B = false) := by show _ = _; simp [hB, h3]
        have hne : (d.toList == d'.toList) = false := by simpa using fun h => h3 (text_inj h)
        clear h3 hB
        go_enter Try.func20, Try.ntmps20
        go_wp2
        go_ret
        exact ⟨ret_bool hf.out.symm, hbW⟩
    · have hf : Hid (B = false) := by show _ = _; simp [hB, h2]
      have hne : (q != q') = true := by simpa using h2
      clear h2 hB
      go_enter Try.func20, Try.ntmps20
      go_wp2
      go_ret
      exact ⟨ret_bool hf.out.symm, hbW⟩
  · have hf : Hid (B = false) := by show _ = _; simp [hB, h1]
    have hne : (s != s') = true := by simpa using h1
    clear h1 hB
    go_enter Try.func20, Try.ntmps20
    go_wp2
    go_ret
    exact ⟨ret_bool hf.out.symm, hbW⟩

theorem cell_aside {w : World} {p o q k : Nat} {v u : Value} (h : w.cell? ⟨p, o, none⟩ = some v) (hne : q ≠ p) : (w.setCell ⟨q, k, none⟩ u).cell? ⟨p, o, none⟩ = some v := by
  rw [World.cell?_of_block (w := w) (a := ⟨p, o, none⟩) (Below.heap_setCell w _ u _ (by show p ≠ q; omega))]
  exact h
/-- Three cells of a variable. -/
def C3 (u : World) (p : Nat) (x0 x1 x2 : Value) : Prop :=
  (u.cell? ⟨p, 0, none⟩ = some x0 ∧ u.cell? ⟨p, 1, none⟩ = some x1 ∧ u.cell? ⟨p, 2, none⟩ = some x2) ∧ ∀ j, u.frozen? ⟨p, j, none⟩ = false
theorem C3.lt {u : World} {p : Nat} {x0 x1 x2 : Value} (h : C3 u p x0 x1 x2) : p < u.heap.size := lt_of_cell h.1.1
theorem C3.below {u u' : World} {p : Nat} {x0 x1 x2 : Value} (h : C3 u p x0 x1 x2) (hb : Below u.heap.size u u') : C3 u' p x0 x1 x2 :=
  ⟨⟨(hb.cell (p := ⟨p, 0, none⟩) h.lt).trans h.1.1, (hb.cell (p := ⟨p, 1, none⟩) h.lt).trans h.1.2.1, (hb.cell (p := ⟨p, 2, none⟩) h.lt).trans h.1.2.2⟩, fun j => (hb.frozen (p := ⟨p, j, none⟩) h.lt).trans (h.2 j)⟩
theorem C3.grown {u u' : World} {p q : Nat} {x0 x1 x2 : Value} (h : C3 u p x0 x1 x2) (hg : u.grownBy u' (some q)) (hne : q ≠ p) : C3 u' p x0 x1 x2 := by
  have e := hg.block p h.lt (fun he => hne (by cases he; rfl))
  exact ⟨⟨(World.cell?_of_block (a := ⟨p, 0, none⟩) e).trans h.1.1, (World.cell?_of_block (a := ⟨p, 1, none⟩) e).trans h.1.2.1, (World.cell?_of_block (a := ⟨p, 2, none⟩) e).trans h.1.2.2⟩, fun j => (World.frozen?_of_block (a := ⟨p, j, none⟩) e).trans (h.2 j)⟩
theorem c3_new (u : World) (x0 x1 x2 : Value) (t : TypeId) : C3 (u.alloc (.cells #[x0, x1, x2] t)) u.heap.size x0 x1 x2 := ⟨⟨by simp, by simp, by simp⟩, fun j => by simp⟩

set_option maxRecDepth 100000 in
set_option maxHeartbeats 1600000 in
theorem toRec_any (s q : Int) (d : ByteArray) (w : World) :
    Calls Try.prog 19 #[.agg #[.int .i64 s, .int .i64 q, .string d]] w fun e w' => e = .returned (.agg #[.int .i64 s, .int .i64 q, .string d]) ∧ Below w.heap.size w w' := by
  obtain ⟨A, hA⟩ : ∃ A, A = w.alloc (Obj.cells #[.int .i64 s, .int .i64 q, .string d] 33) := ⟨_, rfl⟩
  obtain ⟨A2, hA2⟩ : ∃ A2, A2 = A.alloc (Obj.cells #[.int .i64 0, .int .i64 0, .string ⟨#[]⟩] 25) := ⟨_, rfl⟩
  obtain ⟨W, hW⟩ : ∃ W, W = A2.alloc (Obj.cells #[.int .i64 0, .int .i64 0, .string ⟨#[]⟩] 25) := ⟨_, rfl⟩
  have hsA : A.heap.size = w.heap.size + 1 := by rw [hA]; simp
  have hsA2 : A2.heap.size = w.heap.size + 1 + 1 := by rw [hA2]; simp [hsA]
  have hb0 : Below w.heap.size w A := by rw [hA]; exact (Below.refl _ _).alloc (Nat.le_refl _) _
  have hb1 : Below A.heap.size A A2 := by rw [hA2]; exact (Below.refl _ _).alloc (Nat.le_refl _) _
  have hb2 : Below A2.heap.size A2 W := by rw [hW]; exact (Below.refl _ _).alloc (Nat.le_refl _) _
  have k0 : C3 W w.heap.size (.int .i64 s) (.int .i64 q) (.string d) := by
    have : C3 A w.heap.size (.int .i64 s) (.int .i64 q) (.string d) := by rw [hA]; exact c3_new _ _ _ _ _
    exact (this.below hb1).below hb2
  have k1 : C3 W (w.heap.size + 1) (.int .i64 0) (.int .i64 0) (.string ⟨#[]⟩) := by
    have : C3 A2 A.heap.size (.int .i64 0) (.int .i64 0) (.string ⟨#[]⟩) := by rw [hA2]; exact c3_new _ _ _ _ _
    rw [hsA] at this
    exact this.below hb2
  have k2 : C3 W (w.heap.size + 1 + 1) (.int .i64 0) (.int .i64 0) (.string ⟨#[]⟩) := by
    have : C3 W A2.heap.size (.int .i64 0) (.int .i64 0) (.string ⟨#[]⟩) := by rw [hW]; exact c3_new _ _ _ _ _
    rw [hsA2] at this
    exact this
  have hbW : Below w.heap.size w W := after (after hb0 hb1) hb2
  obtain ⟨⟨a0, a1, a2⟩, -⟩ := k0
  obtain ⟨⟨b0, b1, b2⟩, bf⟩ := k1
  obtain ⟨⟨c0, c1, c2⟩, cf⟩ := k2
  have f0 := bf 0
  have f1 := bf 1
  have f2 := bf 2
  have g0 := cf 0
  have g1 := cf 1
  have g2 := cf 2
  clear bf cf hsA hsA2 hb0 hb1 hb2
  go_enter Try.func19, Try.ntmps19
  go_wp2_with (first | (rw [← hA]) | (rw [← hA2]) | (rw [← hW]; clear hA hA2 hW))
  exact bodyPost_ret (v := .agg #[.int .i64 s, .int .i64 q, .string d]) (by simp [results, Try.results19, go_sem, b0, b1, b2]) rfl ⟨rfl, (((((hbW.setCell (by show _ ≤ _; simp; omega) _).setCell (by show _ ≤ _; simp; omega) _).setCell (by show _ ≤ _; simp; omega) _).setCell (by show _ ≤ _; simp) _).setCell (by show _ ≤ _; simp) _).setCell (by show _ ≤ _; simp) _⟩

set_option maxHeartbeats 1600000 in
theorem szRec_any (s q : Int) (d : ByteArray) (w : World) (hd : d.size ≤ maxLen) :
    Calls Try.prog 18 #[.agg #[.int .i64 s, .int .i64 q, .string d], .int .i64 1048576] w fun e w' => (∃ r : Int, e = .returned (.int .i64 r) ∧ (0 ≤ r → d.size ≤ 1048576)) ∧ Below w.heap.size w w' := by
  unfold maxLen at hd
  have hbW : Below w.heap.size w (w.alloc (Obj.cells #[.int .i64 s, .int .i64 q, .string d] 33)) := (Below.refl _ _).alloc (Nat.le_refl _) _
  go_enter Try.func18, Try.ntmps18
  by_cases h : (d.size : Int) ≤ 1048576
  · go_wp2
    go_ret
    exact ⟨⟨_, rfl, fun _ => by omega⟩, hbW⟩
  · go_wp2
    go_ret
    exact ⟨⟨_, rfl, fun h => by omega⟩, hbW⟩

end Go.Proofs.Ytgmgmknjocfdfaa
