/-
  The laws' helpers over one act: toAct, szAct; an act that came in as an argument; the cells of the two arguments of Apply's law.
  What Apply answers, of both: in the form that its law's walk takes.
-/
import Derived.Test.YtghadfbpcbcpiaaK8
import Derived.Test.YtghadfbpcbcpiaaK18
namespace Go.Proofs.Ytghadfbpcbcpiaa
open Go.RowKit Go.ChangeShapes Go.WideShapes Go.ChangeAt Go.Joins
set_option maxRecDepth 100000

set_option maxRecDepth 100000 in
set_option maxHeartbeats 1600000 in
theorem toAct_any (s q : Int) (d : ByteArray) (w : World) :
    Calls Try.prog 9 #[.agg #[.int .i64 s, .int .i64 q, .string d]] w fun e w' => e = .returned (.agg #[.int .i64 s, .int .i64 q, .string d]) ∧ Below w.heap.size w w' := by
  obtain ⟨A, hA⟩ : ∃ A, A = w.alloc (Obj.cells #[.int .i64 s, .int .i64 q, .string d] 27) := ⟨_, rfl⟩
  obtain ⟨A2, hA2⟩ : ∃ A2, A2 = A.alloc (Obj.cells #[.int .i64 0, .int .i64 0, .string ⟨#[]⟩] 34) := ⟨_, rfl⟩
  obtain ⟨W, hW⟩ : ∃ W, W = A2.alloc (Obj.cells #[.int .i64 0, .int .i64 0, .string ⟨#[]⟩] 34) := ⟨_, rfl⟩
  have hsA : A.heap.size = w.heap.size + 1 := by rw [hA]; simp
  have hsA2 : A2.heap.size = w.heap.size + 1 + 1 := by rw [hA2]; simp [hsA]
  have hb0 : Below w.heap.size w A := by rw [hA]; exact (Below.refl _ _).alloc (Nat.le_refl _) _
  have hb1 : Below A.heap.size A A2 := by rw [hA2]; exact (Below.refl _ _).alloc (Nat.le_refl _) _
  have hb2 : Below A2.heap.size A2 W := by rw [hW]; exact (Below.refl _ _).alloc (Nat.le_refl _) _
  have k0 : C3 W w.heap.size (.int .i64 s) (.int .i64 q) (.string d) := by
    have : C3 A w.heap.size (.int .i64 s) (.int .i64 q) (.string d) := by rw [hA]; exact c3_new _ _ _ _ _
    exact (this.below hb1).below hb2
  have k1 : C3 W (w.heap.size + 1) (.int .i64 0) (.int .i64 0) (.string ⟨#[]⟩) := by
    have : C3 A2 A.heap.size (.int .i64 0) (.int .i64 0) (.string ⟨#[]⟩) := by rw [hA2]; exact c3_new _ _ _ _ _
    rw [hsA] at this
    exact this.below hb2
  have k2 : C3 W (w.heap.size + 1 + 1) (.int .i64 0) (.int .i64 0) (.string ⟨#[]⟩) := by
    have : C3 W A2.heap.size (.int .i64 0) (.int .i64 0) (.string ⟨#[]⟩) := by rw [hW]; exact c3_new _ _ _ _ _
    rw [hsA2] at this
    exact this
  have hbW : Below w.heap.size w W := after (after hb0 hb1) hb2
  obtain ⟨⟨a0, a1, a2⟩, -⟩ := k0
  obtain ⟨⟨b0, b1, b2⟩, bf⟩ := k1
  obtain ⟨⟨c0, c1, c2⟩, cf⟩ := k2
  have f0 := bf 0
  have f1 := bf 1
  have f2 := bf 2
  have g0 := cf 0
  have g1 := cf 1
  have g2 := cf 2
  clear bf cf hsA hsA2 hb0 hb1 hb2
  go_enter Try.func9, Try.ntmps9
  go_wp2_with (first | (rw [← hA]) | (rw [← hA2]) | (rw [← hW]; clear hA hA2 hW))
  exact bodyPost_ret (v := .agg #[.int .i64 s, .int .i64 q, .string d]) (by simp [results, Try.results9, go_sem, b0, b1, b2]) rfl ⟨rfl, (((((hbW.setCell (by show _ ≤ _; simp; omega) _).setCell (by show _ ≤ _; simp; omega) _).setCell (by show _ ≤ _; simp; omega) _).setCell (by show _ ≤ _; simp) _).setCell (by show _ ≤ _; simp) _).setCell (by show _ ≤ _; simp) _⟩


set_option maxHeartbeats 1600000 in
theorem szAct_any (s q : Int) (d : ByteArray) (l : Int) (w : World) (hd : d.size ≤ maxLen) (hl0 : 0 ≤ l) (hl1 : l ≤ 1048576) :
    Calls Try.prog 6 #[.agg #[.int .i64 s, .int .i64 q, .string d], .int .i64 l] w fun e w' => (∃ r : Int, e = .returned (.int .i64 r) ∧ (0 ≤ r → d.size ≤ 1048576)) ∧ Below w.heap.size w w' := by
  unfold maxLen at hd
  have hbW : Below w.heap.size w (w.alloc (Obj.cells #[.int .i64 s, .int .i64 q, .string d] 27)) := (Below.refl _ _).alloc (Nat.le_refl _) _
  go_enter Try.func6, Try.ntmps6
  by_cases h : (d.size : Int) ≤ l
  · go_wp2
    go_ret
    exact ⟨⟨_, rfl, fun _ => by omega⟩, hbW⟩
  · go_wp2
    go_ret
    exact ⟨⟨_, rfl, fun h => by omega⟩, hbW⟩

theorem act_of {H : Type} {enc : TypeId × Value → H} {W : World} {r : Reach} {base : Nat} {v : Value} {d : DataW H} {p : List MemPlace} (hv : Value.okWide Try.prog W r base 27 v) (h : DataW.Trod enc Try.prog W 0 (fun _ => true) true 27 v d p) :
    ∃ (s q : Int) (x : ByteArray), v = .agg #[.int .i64 s, .int .i64 q, .string x] ∧ x.size ≤ maxLen ∧ (Lit.int .i64 s).wf = true ∧ (Lit.int .i64 q).wf = true := by
  obtain ⟨c0, c1, c2, y0, y1, y2, m, rfl, -, -, hy0, hy1, hy2⟩ := open_agg3 Try.underlying27 (by kernel_rfl) (by kernel_rfl) hv h
  obtain ⟨s, e0, -, ws⟩ := DataW.trod_int Try.underlying3 hy0
  obtain ⟨q, e1, -, wq⟩ := DataW.trod_int Try.underlying3 hy1
  obtain ⟨x, e2, -, hx⟩ := DataW.trod_string Try.underlying9 hy2
  cases e0
  cases e1
  cases e2
  exact ⟨s, q, x, rfl, hx, ws, wq⟩

/-- A variable of two slices that was made behind the world U, still empty. -/
def Z3 (U u : World) (p : Nat) : Prop := (u.cell? ⟨p, 0, none⟩ = some (.slice none 0 0) ∧ u.cell? ⟨p, 1, none⟩ = some (.slice none 0 0) ∧ u.frozen? ⟨p, 0, none⟩ = false ∧ u.frozen? ⟨p, 1, none⟩ = false) ∧ p < u.heap.size ∧ U.heap.size ≤ p
theorem Z3.below {U u u' : World} {p : Nat} (h : Z3 U u p) (hb : Below u.heap.size u u') : Z3 U u' p :=
  ⟨⟨(hb.cell (p := ⟨p, 0, none⟩) h.2.1).trans h.1.1, (hb.cell (p := ⟨p, 1, none⟩) h.2.1).trans h.1.2.1, (hb.frozen (p := ⟨p, 0, none⟩) h.2.1).trans h.1.2.2.1, (hb.frozen (p := ⟨p, 1, none⟩) h.2.1).trans h.1.2.2.2⟩, Nat.lt_of_lt_of_le h.2.1 hb.size, h.2.2⟩
theorem Z3.ne {U u : World} {p q : Nat} (h : Z3 U u p) (hq : q < U.heap.size) : p ≠ q := by have := h.2.2; omega
theorem z3_new {U u : World} (hb : Below U.heap.size U u) (t : TypeId) : Z3 U (u.alloc (Obj.cells #[.slice none 0 0, .slice none 0 0] t)) u.heap.size := ⟨⟨by simp, by simp, by simp, by simp⟩, by simp, hb.size⟩
theorem z3_drew (u : World) (t : TypeId) : Z3 u (u.alloc (Obj.cells #[.slice none 0 0, .slice none 0 0] t)).drew u.heap.size := ⟨⟨by simp, by simp, by simp, by simp⟩, by show _ < (u.alloc _).heap.size; simp, Nat.le_refl _⟩
theorem chipRd_al {u u' : World} {o : Obj} {v : Value} {ps : List ByteArray} {ws : List Int} (h : ChipRd u v ps ws) (hb : Below (u.alloc o).heap.size (u.alloc o) u') : ChipRd u' v ps ws :=
  (h.below ((Below.refl _ _).alloc (Nat.le_refl _) _)).below hb
/-- What such a statement leaves: 'x, ok := f(..)', x a chip of the call's own in a variable of its own. -/
def Boxed (U : World) (Gps : List ByteArray) (Gws : List Int) (F : Bool) (s t : Value) (u : World) : Prop :=
  ∃ p base a c b d, s = .pointer (some ⟨p, 0, none⟩) ∧ t = .bool F ∧ U.heap.size ≤ p ∧ U.heap.size ≤ base ∧ At u p [.slice a Gps.length c, .slice b Gws.length d] ∧ ChipOwn u base (.agg #[.slice a Gps.length c, .slice b Gws.length d]) Gps Gws ∧ (∀ k, some k ∈ bk (.agg #[.slice a Gps.length c, .slice b Gws.length d]) → k ≠ p) ∧ Below U.heap.size U u
theorem boxed_late {U u : World} {Gps : List ByteArray} {Gws : List Int} {F : Bool} {base c d : Nat} {a b : Option Addr} {t : TypeId} (hb : Below U.heap.size U u) (h : ChipOwn u base (.agg #[.slice a Gps.length c, .slice b Gws.length d]) Gps Gws) (hn : U.heap.size ≤ base) :
    Boxed U Gps Gws F (.pointer (some ⟨u.heap.size, 0, none⟩)) (.bool F) (u.alloc (Obj.cells #[.slice a Gps.length c, .slice b Gws.length d] t)) :=
  ⟨_, _, _, _, _, _, rfl, rfl, hb.size, hn, at_new u [.slice a Gps.length c, .slice b Gws.length d] t, h.below ((Below.refl _ _).alloc (Nat.le_refl _) _), fun k hk => by have := h.blk hk; omega, hb.alloc hb.size _⟩
theorem boxed_early {U u : World} {Gps : List ByteArray} {Gws : List Int} {F : Bool} {base c d p : Nat} {a b : Option Addr} (hb : Below U.heap.size U u) (h : ChipOwn u base (.agg #[.slice a Gps.length c, .slice b Gws.length d]) Gps Gws) (hn : U.heap.size ≤ base) (hz : Z3 U u p) (hp : p < base) :
    Boxed U Gps Gws F (.pointer (some ⟨p, 0, none⟩)) (.bool F) ((u.setCell ⟨p, 0, none⟩ (.slice a Gps.length c)).setCell ⟨p, 1, none⟩ (.slice b Gws.length d)) := by
  obtain ⟨⟨y0, y1, -, -⟩, hl, hU⟩ := hz
  refine ⟨_, _, _, _, _, _, rfl, rfl, hU, hn, ⟨by simpa using hl, ?_⟩, own_set (own_set h hp _) hp _, fun k hk => by have := h.blk hk; omega, (hb.setCell hU _).setCell hU _⟩
  intro i hi
  match i, hi with
  | 0, _ => exact (World.cell?_setCell_other _ _ _ _ (by simp)).trans (World.cell?_setCell_same _ _ _ y0)
  | 1, _ => exact World.cell?_setCell_same _ _ _ ((World.cell?_setCell_other _ _ _ _ (by simp)).trans y1)

end Go.Proofs.Ytghadfbpcbcpiaa

namespace Go.Proofs.Ytghadfbpcbcpiaa
open Go.RowKit

theorem applyP_len (ps : List ByteArray) (ws : List Int) (kind at_ : Int) (text : ByteArray) : (applyP ps ws kind at_ text).length ≤ 1000 := by
  unfold applyP
  split
  · have := burnP_len ps ws at_ text; omega
  · split
    · have := clearP_len ps ws at_; omega
    · split
      · next h => have := (chipOkB_iff.1 h).1; omega
      · simp
theorem applyW_len (ps : List ByteArray) (ws : List Int) (kind at_ : Int) : (applyW ps ws kind at_).length ≤ 1000 := by
  unfold applyW
  split
  · have := burnW_len ps ws; omega
  · split
    · have := clearW_len ps ws at_; omega
    · split
      · next h => have := (chipOkB_iff.1 h).2.1; omega
      · simp

theorem fnExactApply_both (ps : List ByteArray) (ws : List Int) (kind at_ : Int) (text : ByteArray) (hk0 : ps.length ≤ 1048576) (hk1 : ws.length ≤ 1048576) (hs : ∀ s ∈ ps, s.size ≤ 1048576) (ht : text.size ≤ 1048576) :
    ∃ (Gps : List ByteArray) (Gws : List Int) (S1 : Bool), Gps.length ≤ 1000 ∧ Gws.length ≤ 1000 ∧ Hid (∀ (u : World) (v : Value), ChipRd u v ps ws → Calls Try.prog 7 #[v, .agg #[.int .i64 kind, .int .i64 at_, .string text]] u fun e w' => ∃ v, e = .returned (.tuple #[v, .bool S1]) ∧ ChipOwn w' u.heap.size v Gps Gws ∧ Below u.heap.size u w') ∧ Hid (∀ (u : World) (v : Value), ChipRd u v ps ws → Calls Try.prog 10 #[v, .agg #[.int .i64 kind, .int .i64 at_, .string text]] u fun e w' => ∃ v, e = .returned (.tuple #[v, .bool S1]) ∧ ChipOwn w' u.heap.size v Gps Gws ∧ Below u.heap.size u w') := by
  refine ⟨applyP ps ws kind at_ text, applyW ps ws kind at_, applyF ps ws kind at_ text, applyP_len _ _ _ _ _, applyW_len _ _ _ _, ?_, ?_⟩
  · rintro u v ⟨a, c, b, d, rfl, h1, h2⟩
    exact specApply_fn a b ps ws c d kind at_ text u h1 h2 hk0 hk1 hs ht
  · rintro u v ⟨a, c, b, d, rfl, h1, h2⟩
    exact implApply_fn a b ps ws c d kind at_ text u h1 h2 hk0 hk1 hs ht

end Go.Proofs.Ytghadfbpcbcpiaa
