/-
  Work under way in the specification (l5Work): a block of six cells, its rows the call's own; what each store makes of it. And 'append' of one act.
  Work under way in the program (impl.writing): a block of five cells; what is stored into it. 'append' of one act as a step of a region that draws its order.
  Contracts of the program's doerOf, of what it hands back, and of Apply.
-/
import Derived.Test.YtdicjbabnknjhaaGreatJRecover21
import Derived.Test.YtdicjbabnknjhaaGreatJRecover10
import Derived.Lib.OwnKind
import Derived.OneCell
import Derived.Laws.EntriesVeiled
namespace Go.Proofs.YtdicjbabnknjhaaGreat
open Go.RowKit

theorem wk_set {W : World} {p : Nat} {arr : Array Value} {t : TypeId} (h : W.heap[p]? = some (.cells arr t (0, 0))) (i : Nat) (v : Value) : (W.setCell ⟨p, i, none⟩ v).heap[p]? = some (.cells (arr.setIfInBounds i v) t (0, 0)) := by
  have hlt := lt_of_block h
  have h' : W.heap[p] = .cells arr t (0, 0) := by simpa [Array.getElem?_eq_getElem hlt] using h
  show (W.heap.modify p _)[p]? = _
  rw [Array.getElem?_eq_getElem (by simpa using hlt), Array.getElem_modify_self, h']
  rfl
theorem wk_cell {W : World} {p : Nat} {arr : Array Value} {t : TypeId} (h : W.heap[p]? = some (.cells arr t (0, 0))) {i : Nat} {v : Value} (hi : arr[i]? = some v) : W.cell? ⟨p, i, none⟩ = some v := by simp [World.cell?, h, hi]
theorem wk_frozen {W : World} {p : Nat} {arr : Array Value} {t : TypeId} (h : W.heap[p]? = some (.cells arr t (0, 0))) (i : Nat) : W.frozen? ⟨p, i, none⟩ = false := by simp [World.frozen?, h]
theorem kind_ne {w : World} {base : Nat} {e t : TypeId} {size : Nat} {v : Value} {n p : Nat} {xs : List Value} {arr : Array Value} (h : w.ownsRow base e size v n xs) (hp : w.heap[p]? = some (.cells arr t (0, 0))) (hne : e ≠ t) : v.ownBlock ≠ some p := by
  intro hb
  obtain ⟨c, fz, hk⟩ := Lib.ownsRow_kind h p hb
  rw [hp] at hk
  injection hk with hk
  injection hk with _ hk _
  exact hne hk.symm
theorem kind_ne2 {w : World} {base base' : Nat} {e e' : TypeId} {size size' : Nat} {v v' : Value} {n n' : Nat} {xs xs' : List Value} (h : w.ownsRow base e size v n xs) (h' : w.ownsRow base' e' size' v' n' xs') (hne : e ≠ e') (k : Nat) (hk : v.ownBlock = some k) : v'.ownBlock ≠ some k := by
  intro hb
  obtain ⟨c, fz, h1⟩ := Lib.ownsRow_kind h k hk
  obtain ⟨c', fz', h2⟩ := Lib.ownsRow_kind h' k hb
  rw [h1] at h2
  injection h2 with h2
  injection h2 with _ h2 _
  exact hne h2

theorem frozen_far {w w' : World} {row : Option Nat} (hg : w.grownBy w' row) (a : Addr) (hlt : a.block < w.heap.size) (hne : some a.block ≠ row) : w'.frozen? a = w.frozen? a := World.frozen?_of_block (hg.block a.block hlt hne)

/-- Work under way in block P. -/
def WorkAt (w : World) (P base g1 k1 g2 k2 g3 k3 : Nat) (v4 : Option Addr) (k4 : Nat) (ps : List ByteArray) (ws ms : List Int) (q : Int) (cs : List (Int × Int × ByteArray)) (ok : Bool) : Prop :=
  w.heap[P]? = some (.cells #[.slice (some ⟨g1, 0, none⟩) ps.length k1, .slice (some ⟨g2, 0, none⟩) ws.length k2, .slice (some ⟨g3, 0, none⟩) ms.length k3, .int .i64 q, .slice v4 cs.length k4, .bool ok] 109 (0, 0)) ∧ base ≤ P ∧
    w.ownsRow base 9 1 (.slice (some ⟨g1, 0, none⟩) ps.length k1) ps.length (vsString ps) ∧ w.ownsRow base 3 1 (.slice (some ⟨g2, 0, none⟩) ws.length k2) ws.length (vsInt ws) ∧
    w.ownsRow base 3 1 (.slice (some ⟨g3, 0, none⟩) ms.length k3) ms.length (vsInt ms) ∧ w.ownsRow base 71 3 (.slice v4 cs.length k4) cs.length (vsAct cs) ∧ g2 ≠ g3
def Work (w : World) (P base : Nat) (ps : List ByteArray) (ws ms : List Int) (q : Int) (cs : List (Int × Int × ByteArray)) (ok : Bool) : Prop :=
  ∃ g1 k1 g2 k2 g3 k3 v4 k4, WorkAt w P base g1 k1 g2 k2 g3 k3 v4 k4 ps ws ms q cs ok

section
variable {w : World} {P base g1 k1 g2 k2 g3 k3 : Nat} {v4 : Option Addr} {k4 : Nat} {ps : List ByteArray} {ws ms : List Int} {q : Int} {cs : List (Int × Int × ByteArray)} {ok : Bool}
theorem WorkAt.lt (h : WorkAt w P base g1 k1 g2 k2 g3 k3 v4 k4 ps ws ms q cs ok) : P < w.heap.size ∧ base ≤ P ∧ base ≤ w.heap.size := by
  have h1 := lt_of_block h.1
  have h2 := h.2.1
  exact ⟨h1, h2, by omega⟩
theorem WorkAt.cells (h : WorkAt w P base g1 k1 g2 k2 g3 k3 v4 k4 ps ws ms q cs ok) :
    (w.cell? ⟨P, 0, none⟩ = some (.slice (some ⟨g1, 0, none⟩) ps.length k1) ∧ w.cell? ⟨P, 1, none⟩ = some (.slice (some ⟨g2, 0, none⟩) ws.length k2) ∧ w.cell? ⟨P, 2, none⟩ = some (.slice (some ⟨g3, 0, none⟩) ms.length k3) ∧
    w.cell? ⟨P, 3, none⟩ = some (.int .i64 q) ∧ w.cell? ⟨P, 4, none⟩ = some (.slice v4 cs.length k4) ∧ w.cell? ⟨P, 5, none⟩ = some (.bool ok)) ∧ ∀ i, w.frozen? ⟨P, i, none⟩ = false :=
  ⟨⟨wk_cell h.1 rfl, wk_cell h.1 rfl, wk_cell h.1 rfl, wk_cell h.1 rfl, wk_cell h.1 rfl, wk_cell h.1 rfl⟩, fun i => wk_frozen h.1 i⟩
theorem WorkAt.ne (h : WorkAt w P base g1 k1 g2 k2 g3 k3 v4 k4 ps ws ms q cs ok) : g1 ≠ P ∧ g2 ≠ P ∧ g3 ≠ P ∧ (Value.slice v4 cs.length k4).ownBlock ≠ some P ∧ g1 ≠ g2 ∧ g1 ≠ g3 ∧
    (Value.slice v4 cs.length k4).ownBlock ≠ some g1 ∧ (Value.slice v4 cs.length k4).ownBlock ≠ some g2 ∧ (Value.slice v4 cs.length k4).ownBlock ≠ some g3 := by
  obtain ⟨h0, hb, h1, h2, h3, h4, hne⟩ := h
  refine ⟨fun e => kind_ne h1 h0 (by decide) (by rw [← e]; rfl), fun e => kind_ne h2 h0 (by decide) (by rw [← e]; rfl), fun e => kind_ne h3 h0 (by decide) (by rw [← e]; rfl), kind_ne h4 h0 (by decide),
    fun e => kind_ne2 h1 h2 (by decide) g1 rfl (by rw [e]; rfl), fun e => kind_ne2 h1 h3 (by decide) g1 rfl (by rw [e]; rfl), fun e => kind_ne2 h4 h1 (by decide) g1 e rfl, fun e => kind_ne2 h4 h2 (by decide) g2 e rfl, fun e => kind_ne2 h4 h3 (by decide) g3 e rfl⟩
theorem WorkAt.below {w' : World} (h : WorkAt w P base g1 k1 g2 k2 g3 k3 v4 k4 ps ws ms q cs ok) (hb : Below w.heap.size w w') : WorkAt w' P base g1 k1 g2 k2 g3 k3 v4 k4 ps ws ms q cs ok := by
  obtain ⟨h0, hB, h1, h2, h3, h4, hne⟩ := h
  exact ⟨(hb.block P (lt_of_block h0)).trans h0, hB, owns_below h1 hb, owns_below h2 hb, owns_below h3 hb, owns_below h4 hb, hne⟩
theorem WorkAt.rd (h : WorkAt w P base g1 k1 g2 k2 g3 k3 v4 k4 ps ws ms q cs ok) : Rd w (some ⟨g1, 0, none⟩) (vsString ps) ∧ Rd w (some ⟨g2, 0, none⟩) (vsInt ws) ∧ Rd w (some ⟨g3, 0, none⟩) (vsInt ms) :=
  ⟨rd_of_own h.2.2.1, rd_of_own h.2.2.2.1, rd_of_own h.2.2.2.2.1⟩
theorem WorkAt.flag (h : WorkAt w P base g1 k1 g2 k2 g3 k3 v4 k4 ps ws ms q cs ok) (b : Bool) : WorkAt (w.setCell ⟨P, 5, none⟩ (.bool b)) P base g1 k1 g2 k2 g3 k3 v4 k4 ps ws ms q cs b ∧ Below base w (w.setCell ⟨P, 5, none⟩ (.bool b)) := by
  obtain ⟨n1, n2, n3, n4, -⟩ := h.ne
  obtain ⟨h0, hB, h1, h2, h3, h4, hne⟩ := h
  refine ⟨⟨wk_set h0 5 _, hB, ownsRow_setCell_other h1 (by simpa [Value.ownBlock] using n1) _, ownsRow_setCell_other h2 (by simpa [Value.ownBlock] using n2) _, ownsRow_setCell_other h3 (by simpa [Value.ownBlock] using n3) _, ownsRow_setCell_other h4 n4 _, hne⟩, (Below.refl _ _).setCell hB _⟩
theorem WorkAt.seq (h : WorkAt w P base g1 k1 g2 k2 g3 k3 v4 k4 ps ws ms q cs ok) (z : Int) : WorkAt (w.setCell ⟨P, 3, none⟩ (.int .i64 z)) P base g1 k1 g2 k2 g3 k3 v4 k4 ps ws ms z cs ok ∧ Below base w (w.setCell ⟨P, 3, none⟩ (.int .i64 z)) := by
  obtain ⟨n1, n2, n3, n4, -⟩ := h.ne
  obtain ⟨h0, hB, h1, h2, h3, h4, hne⟩ := h
  refine ⟨⟨wk_set h0 3 _, hB, ownsRow_setCell_other h1 (by simpa [Value.ownBlock] using n1) _, ownsRow_setCell_other h2 (by simpa [Value.ownBlock] using n2) _, ownsRow_setCell_other h3 (by simpa [Value.ownBlock] using n3) _, ownsRow_setCell_other h4 n4 _, hne⟩, (Below.refl _ _).setCell hB _⟩
theorem WorkAt.page (h : WorkAt w P base g1 k1 g2 k2 g3 k3 v4 k4 ps ws ms q cs ok) (j : Nat) (t : ByteArray) : WorkAt (w.setCell ⟨g1, j, none⟩ (.string t)) P base g1 k1 g2 k2 g3 k3 v4 k4 (ps.set j t) ws ms q cs ok ∧ Below base w (w.setCell ⟨g1, j, none⟩ (.string t)) := by
  obtain ⟨n1, n2, n3, n4, n5, n6, n7, n8, n9⟩ := h.ne
  obtain ⟨h0, hB, h1, h2, h3, h4, hne⟩ := h
  have hst := h1.stored j (.string t)
  have e : (vsString ps).set j (.string t) = vsString (ps.set j t) := by simp [List.map_set]
  rw [e] at hst
  refine ⟨⟨?_, hB, ?_, ownsRow_setCell_other h2 (by simp [Value.ownBlock]; omega) _, ownsRow_setCell_other h3 (by simp [Value.ownBlock]; omega) _, ownsRow_setCell_other h4 n7 _, hne⟩, (Below.refl _ _).setCell (owns_lt h1).1 _⟩
  · rw [Below.heap_setCell _ _ _ _ (fun e => n1 e.symm), List.length_set]; exact h0
  · rw [List.length_set]; exact hst.1
theorem WorkAt.map (h : WorkAt w P base g1 k1 g2 k2 g3 k3 v4 k4 ps ws ms q cs ok) (j : Nat) (z : Int) : WorkAt (w.setCell ⟨g3, j, none⟩ (.int .i64 z)) P base g1 k1 g2 k2 g3 k3 v4 k4 ps ws (ms.set j z) q cs ok ∧ Below base w (w.setCell ⟨g3, j, none⟩ (.int .i64 z)) := by
  obtain ⟨n1, n2, n3, n4, n5, n6, n7, n8, n9⟩ := h.ne
  obtain ⟨h0, hB, h1, h2, h3, h4, hne⟩ := h
  have hst := h3.stored j (.int .i64 z)
  have e : (vsInt ms).set j (.int .i64 z) = vsInt (ms.set j z) := by simp [List.map_set]
  rw [e] at hst
  refine ⟨⟨?_, hB, ownsRow_setCell_other h1 (by simp [Value.ownBlock]; omega) _, ownsRow_setCell_other h2 (by simp [Value.ownBlock]; omega) _, ?_, ownsRow_setCell_other h4 n9 _, hne⟩, (Below.refl _ _).setCell (owns_lt h3).1 _⟩
  · rw [Below.heap_setCell _ _ _ _ (fun e => n3 e.symm), List.length_set]; exact h0
  · rw [List.length_set]; exact hst.1
theorem owns3_shape {w : World} {base : Nat} {e : TypeId} {size : Nat} {v : Value} {n : Nat} {xs : List Value} (h : w.ownsRow base e size v n xs) : ∃ a c, v = .slice a n c := by
  rcases h with ⟨_, ⟨rfl, rfl⟩ | ⟨g, cap, cur, rfl, -⟩⟩
  · exact ⟨_, _, rfl⟩
  · exact ⟨_, _, rfl⟩
theorem vsAct_snoc (cs : List (Int × Int × ByteArray)) (x : Int × Int × ByteArray) : vsAct cs ++ [.int .i64 x.1, .int .i64 x.2.1, .string x.2.2] = vsAct (cs ++ [x]) := by simp [vsAct]
/-- One more act is laid down. -/
theorem WorkAt.act {u : World} {v : Value} (x : Int × Int × ByteArray) (h : WorkAt w P base g1 k1 g2 k2 g3 k3 v4 k4 ps ws ms q cs ok) (hg : w.grownBy u (Value.slice v4 cs.length k4).ownBlock) (hv : u.ownsRow base 71 3 v (cs.length + 1) (vsAct cs ++ [.int .i64 x.1, .int .i64 x.2.1, .string x.2.2])) :
    ∃ a k, v = .slice a (cs ++ [x]).length k ∧ WorkAt (u.setCell ⟨P, 4, none⟩ v) P base g1 k1 g2 k2 g3 k3 a k ps ws ms q (cs ++ [x]) ok ∧ Below base w (u.setCell ⟨P, 4, none⟩ v) := by
  obtain ⟨n1, n2, n3, n4, n5, n6, n7, n8, n9⟩ := h.ne
  have hlt := h.lt
  obtain ⟨h0, hB, h1, h2, h3, h4, hne⟩ := h
  obtain ⟨a, k, rfl⟩ := owns3_shape hv
  have hl : cs.length + 1 = (cs ++ [x]).length := by simp
  rw [vsAct_snoc, hl] at hv
  rw [hl]
  have hP : u.heap[P]? = some (.cells #[.slice (some ⟨g1, 0, none⟩) ps.length k1, .slice (some ⟨g2, 0, none⟩) ws.length k2, .slice (some ⟨g3, 0, none⟩) ms.length k3, .int .i64 q, .slice v4 cs.length k4, .bool ok] 109 (0, 0)) := (hg.block P (lt_of_block h0) (fun e => n4 e.symm)).trans h0
  have u1 := h1.kept hg (.inr (fun e => n7 e.symm))
  have u2 := h2.kept hg (.inr (fun e => n8 e.symm))
  have u3 := h3.kept hg (.inr (fun e => n9 e.symm))
  have hb : Below base w u := (Below.refl _ _).grown hg hlt.2.2 (fun k hk => (h4.lt k hk).1)
  refine ⟨a, k, rfl, ⟨wk_set hP 4 _, hB, ownsRow_setCell_other u1 (by simpa [Value.ownBlock] using n1) _, ownsRow_setCell_other u2 (by simpa [Value.ownBlock] using n2) _, ownsRow_setCell_other u3 (by simpa [Value.ownBlock] using n3) _, ownsRow_setCell_other hv ?_ _, hne⟩, hb.setCell hB _⟩
  exact kind_ne hv hP (by decide)
/-- Blocks of other kinds than those at work are kept. -/
def Fr (P g1 g3 : Nat) (u u' : World) : Prop := u.heap.size ≤ u'.heap.size ∧ ∀ k, k < u.heap.size → k ≠ P → k ≠ g1 → k ≠ g3 → (∀ c fz, u.heap[k]? ≠ some (.cells c 71 fz)) → u'.heap[k]? = u.heap[k]?
theorem Fr.of_below {P g1 g3 : Nat} {u u' : World} (h : Below u.heap.size u u') : Fr P g1 g3 u u' := ⟨h.size, fun k hk _ _ _ _ => h.block k hk⟩
theorem Fr.trans {P g1 g3 : Nat} {u u' u'' : World} (h : Fr P g1 g3 u u') (k : Fr P g1 g3 u' u'') : Fr P g1 g3 u u'' :=
  ⟨Nat.le_trans h.1 k.1, fun j hj a b c d => by
    have e := h.2 j hj a b c d
    rw [← e]
    exact k.2 j (Nat.lt_of_lt_of_le hj h.1) a b c (fun x y => by rw [e]; exact d x y)⟩
theorem Fr.set {P g1 g3 : Nat} {u u' : World} (h : Fr P g1 g3 u u') {p : Nat} (hp : p = P ∨ p = g1 ∨ p = g3) (i : Nat) (v : Value) : Fr P g1 g3 u (u'.setCell ⟨p, i, none⟩ v) :=
  ⟨by simpa [World.setCell] using h.1, fun j hj a b c d => by
    rw [Below.heap_setCell _ _ _ _ (fun e => by simp at e; omega)]
    exact h.2 j hj a b c d⟩
theorem Fr.grown {P g1 g3 base n : Nat} {u u' : World} {v : Value} {xs : List Value} (h : u.grownBy u' v.ownBlock) (ho : u.ownsRow base 71 3 v n xs) : Fr P g1 g3 u u' :=
  ⟨h.size, fun j hj _ _ _ d => h.block j hj (fun e => by obtain ⟨c, fz, hk⟩ := Lib.ownsRow_kind ho j e.symm; exact d c fz hk)⟩
theorem Fr.row {P g1 g3 base n size : Nat} {u u' : World} {v : Value} {e : TypeId} {xs : List Value} (h : Fr P g1 g3 u u') (ho : u.ownsRow base e size v n xs) (he : e ≠ 71) (hne : ∀ k, v.ownBlock = some k → k ≠ P ∧ k ≠ g1 ∧ k ≠ g3) : u'.ownsRow base e size v n xs := by
  obtain ⟨h1, h2⟩ := ho
  refine ⟨h1, ?_⟩
  rcases h2 with h2 | ⟨g, cap, cur, hv, hg, hh, r⟩
  · exact .inl h2
  · obtain ⟨n1, n2, n3⟩ := hne g (by rw [hv]; rfl)
    refine .inr ⟨g, cap, cur, hv, hg, ?_, r⟩
    rw [h.2 g (lt_of_block hh) n1 n2 n3 (fun c fz hx => by rw [hh] at hx; injection hx with hx; injection hx with _ hx _; exact he hx)]
    exact hh
/-- The acts of work, whatever else it has. -/
def ActsAt (w : World) (P base : Nat) (v4 : Option Addr) (k4 : Nat) (cs : List (Int × Int × ByteArray)) (ok : Bool) : Prop :=
  ∃ x0 x1 x2 x3, w.heap[P]? = some (.cells #[x0, x1, x2, x3, .slice v4 cs.length k4, .bool ok] 109 (0, 0)) ∧ base ≤ P ∧ w.ownsRow base 71 3 (.slice v4 cs.length k4) cs.length (vsAct cs)
theorem WorkAt.acts (h : WorkAt w P base g1 k1 g2 k2 g3 k3 v4 k4 ps ws ms q cs ok) : ActsAt w P base v4 k4 cs ok := ⟨_, _, _, _, h.1, h.2.1, h.2.2.2.2.2.1⟩
theorem ActsAt.below {w w' : World} (h : ActsAt w P base v4 k4 cs ok) (hb : Below w.heap.size w w') : ActsAt w' P base v4 k4 cs ok := by
  obtain ⟨x0, x1, x2, x3, h0, hB, h4⟩ := h
  exact ⟨x0, x1, x2, x3, (hb.block P (lt_of_block h0)).trans h0, hB, owns_below h4 hb⟩
theorem ActsAt.only {w w' : World} {L : List (Option Nat)} (h : ActsAt w P base v4 k4 cs ok) (hO : OnlyIn w w' L) (hP : some P ∉ L) (ha : ∀ k, (Value.slice v4 cs.length k4).ownBlock = some k → some k ∉ L) : ActsAt w' P base v4 k4 cs ok := by
  obtain ⟨x0, x1, x2, x3, h0, hB, h4⟩ := h
  exact ⟨x0, x1, x2, x3, (hO.block P (lt_of_block h0) hP).trans h0, hB, hO.owns h4 ha⟩
theorem ActsAt.cells {w : World} (h : ActsAt w P base v4 k4 cs ok) : (∃ x0 x1 x2 x3, w.cell? ⟨P, 0, none⟩ = some x0 ∧ w.cell? ⟨P, 1, none⟩ = some x1 ∧ w.cell? ⟨P, 2, none⟩ = some x2 ∧ w.cell? ⟨P, 3, none⟩ = some x3) ∧ w.cell? ⟨P, 4, none⟩ = some (.slice v4 cs.length k4) ∧ w.cell? ⟨P, 5, none⟩ = some (.bool ok) ∧ (∀ i, w.frozen? ⟨P, i, none⟩ = false) ∧ P < w.heap.size := by
  obtain ⟨x0, x1, x2, x3, h0, hB, h4⟩ := h
  exact ⟨⟨x0, x1, x2, x3, wk_cell h0 rfl, wk_cell h0 rfl, wk_cell h0 rfl, wk_cell h0 rfl⟩, wk_cell h0 rfl, wk_cell h0 rfl, fun i => wk_frozen h0 i, lt_of_block h0⟩
/-- What is mounted anew is laid into work. -/
theorem ActsAt.mount {w : World} {nb c d f : Nat} {a b e : Option Addr} {z : Int} (h : ActsAt w P base v4 k4 cs ok) (hf : FtlOwn w nb (.agg #[.slice a ps.length c, .slice b ws.length d, .slice e ms.length f, .int .i64 z]) ps ws ms z) (hn : base ≤ nb) (hl : ps.length = 60) (hm : ws.length = 10) (hk : ms.length = 26) :
    Work ((((w.setCell ⟨P, 0, none⟩ (.slice a ps.length c)).setCell ⟨P, 1, none⟩ (.slice b ws.length d)).setCell ⟨P, 2, none⟩ (.slice e ms.length f)).setCell ⟨P, 3, none⟩ (.int .i64 z)) P base ps ws ms z cs ok ∧
    Below base w ((((w.setCell ⟨P, 0, none⟩ (.slice a ps.length c)).setCell ⟨P, 1, none⟩ (.slice b ws.length d)).setCell ⟨P, 2, none⟩ (.slice e ms.length f)).setCell ⟨P, 3, none⟩ (.int .i64 z)) := by
  obtain ⟨x0, x1, x2, x3, h0, hB, h4⟩ := h
  obtain ⟨v1, v2, v3, hv, o1, o2, o3, -, -, hne⟩ := hf
  injection hv with hv
  simp at hv
  obtain ⟨rfl, rfl, rfl⟩ := hv
  obtain ⟨g1, c', e1, -⟩ := owns_form o1 (by omega)
  obtain ⟨g2, d', e2, -⟩ := owns_form o2 (by omega)
  obtain ⟨g3, f', e3, -⟩ := owns_form o3 (by omega)
  injection e1 with e1 _ _
  injection e2 with e2 _ _
  injection e3 with e3 _ _
  subst e1 e2 e3
  have m1 := kind_ne o1 h0 (by decide)
  have m2 := kind_ne o2 h0 (by decide)
  have m3 := kind_ne o3 h0 (by decide)
  have m4 := kind_ne h4 h0 (by decide)
  have st : ∀ {e : TypeId} {size : Nat} {v : Value} {n : Nat} {xs : List Value} (y0 y1 y2 y3 : Value), w.ownsRow base e size v n xs → v.ownBlock ≠ some P → ((((w.setCell ⟨P, 0, none⟩ y0).setCell ⟨P, 1, none⟩ y1).setCell ⟨P, 2, none⟩ y2).setCell ⟨P, 3, none⟩ y3).ownsRow base e size v n xs := fun y0 y1 y2 y3 ho hn =>
    ownsRow_setCell_other (ownsRow_setCell_other (ownsRow_setCell_other (ownsRow_setCell_other ho hn _) hn _) hn _) hn _
  refine ⟨⟨g1, c, g2, d, g3, f, v4, k4, ?_, hB, st _ _ _ _ (owns_mono o1 hn) m1, st _ _ _ _ (owns_mono o2 hn) m2, st _ _ _ _ (owns_mono o3 hn) m3, st _ _ _ _ h4 m4, fun e => hne g2 rfl (by rw [e]; rfl)⟩, ((((Below.refl _ _).setCell hB _).setCell hB _).setCell hB _).setCell hB _⟩
  exact wk_set (wk_set (wk_set (wk_set h0 0 _) 1 _) 2 _) 3 _
end
theorem infoAct : (Tryz.prog.info? 71).map (fun i => (i.zero, i.size, i.bytes)) = some (some (Value.agg #[.int .i64 0, .int .i64 0, .string ⟨#[]⟩]), 3, 32) := by kernel_rfl
/-- 'append(acts, act)', acts being the call's own. -/
theorem wpList_append_act {P : Program} {w w0 : World} {ops : Array Oper} {rest : List Oper} {o : Oper} {a : Act} {Q : Exit → Act → World → Prop} (hgd : o.guard = none) (s x : Operand) (t : TypeId)
    (ho : o.op = .call { callee := .builtin .append, args := #[s, x], argTypes := #[t, t] })
    (base : Nat) (e : TypeId) (i : TypeInfo) (z : Value) (bytes : Nat) (ht : P.underlying t = some (.slice e)) (hi : P.info? e = some i) (hz : i.zero = some z)
    (hsize : i.size = 3) (hby : i.bytes = bytes) (hzs : z.cells.size = 3)
    (v : Value) (n : Nat) (xs : List Value) (u0 u1 u2 : Value) (hs : a.eval s = v) (hown : w0.ownsRow base e 3 v n xs) (h1 : u0.oneCell' = true ∧ u1.oneCell' = true ∧ u2.oneCell' = true)
    (hx : a.eval x = .slice (some ⟨w0.heap.size, 0, none⟩) 1 1)
    (hbytes : (n + 1) * bytes ≤ 140737488355328) (hn : n ≤ 140737488355327) (hbase : base ≤ w0.heap.size)
    (hw : w = w0.alloc (.cells #[u0, u1, u2] e)) (h : ∀ v' w', w'.ownsRow base e 3 v' (n + 1) (xs ++ [u0, u1, u2]) → w0.grownBy w' v.ownBlock → wpList P ops Q rest (a.put o.dst v') w') : wpList P ops Q (o :: rest) a w := by
  subst hw
  refine wpList_append_own _ hgd s x t ho base e i z 3 bytes ht hi hz hsize hby hzs (by decide) v n xs hs (hown.alloc _) ⟨w0.heap.size, 0, none⟩ 1 1 [u0, u1, u2] hx rfl ?_ ?_ (by unfold maxLen; omega) hbytes (by simp; omega) ?_
  · intro j y hj
    match j, hj with
    | 0, hj => simp at hj; subst hj; simp [Addr.add]
    | 1, hj => simp at hj; subst hj; simp [Addr.add]
    | 2, hj => simp at hj; subst hj; simp [Addr.add]
  · intro y hy
    simp at hy
    rcases hy with rfl | rfl | rfl
    · exact h1.1
    · exact h1.2.1
    · exact h1.2.2
  · intro v' w' k1 k2 _
    exact h v' w' k1 (grown_trans (World.grownBy_alloc w0 _ _) k2)
end Go.Proofs.YtdicjbabnknjhaaGreat

namespace Go.Proofs.YtdicjbabnknjhaaGreat
open Go.RowKit

theorem ftlOwn_mono {w : World} {base base' : Nat} {v : Value} {ps : List ByteArray} {ws ms : List Int} {q : Int} (h : FtlOwn w base' v ps ws ms q) (hb : base ≤ base') : FtlOwn w base v ps ws ms q := by
  obtain ⟨v1, v2, v3, hv, o1, o2, o3, hh⟩ := h
  exact ⟨v1, v2, v3, hv, owns_mono o1 hb, owns_mono o2 hb, owns_mono o3 hb, hh⟩
theorem ftl_rows {w : World} {base n m l c d f : Nat} {a b e : Option Addr} {z q : Int} {ps : List ByteArray} {ws ms : List Int} (h : FtlOwn w base (.agg #[.slice a n c, .slice b m d, .slice e l f, .int .i64 z]) ps ws ms q) :
    w.ownsRow base 9 1 (.slice a n c) ps.length (vsString ps) ∧ w.ownsRow base 3 1 (.slice b m d) ws.length (vsInt ws) ∧ w.ownsRow base 3 1 (.slice e l f) ms.length (vsInt ms) := by
  obtain ⟨v1, v2, v3, hv, o1, o2, o3, hh⟩ := h
  injection hv with hv
  simp at hv
  obtain ⟨rfl, rfl, rfl, -⟩ := hv
  exact ⟨o1, o2, o3⟩

/-- The acts of the work in block P, whatever else it has. -/
def PActs (w : World) (P base : Nat) (v4 : Option Addr) (k4 : Nat) (cs : List (Int × Int × ByteArray)) : Prop :=
  ∃ x1 x2 x3 x4, w.heap[P]? = some (.cells #[.slice v4 cs.length k4, x1, x2, x3, x4] 65 (0, 0)) ∧ base ≤ P ∧ w.ownsRow base 71 3 (.slice v4 cs.length k4) cs.length (vsAct cs)
/-- Work in block P. -/
def PWAt (w : World) (P base : Nat) (v4 : Option Addr) (k4 : Nat) (a : Option Addr) (c : Nat) (b : Option Addr) (d : Nat) (e : Option Addr) (f : Nat) (ps : List ByteArray) (ws ms : List Int) (q : Int) (cs : List (Int × Int × ByteArray)) : Prop :=
  w.heap[P]? = some (.cells #[.slice v4 cs.length k4, .slice a ps.length c, .slice b ws.length d, .slice e ms.length f, .int .i64 q] 65 (0, 0)) ∧ base ≤ P ∧ w.ownsRow base 71 3 (.slice v4 cs.length k4) cs.length (vsAct cs) ∧
    FtlOwn w base (.agg #[.slice a ps.length c, .slice b ws.length d, .slice e ms.length f, .int .i64 q]) ps ws ms q
def PW (w : World) (P base : Nat) (ps : List ByteArray) (ws ms : List Int) (q : Int) (cs : List (Int × Int × ByteArray)) : Prop :=
  ∃ v4 k4 a c b d e f, PWAt w P base v4 k4 a c b d e f ps ws ms q cs

section
variable {w : World} {P base : Nat} {v4 : Option Addr} {k4 : Nat} {a : Option Addr} {c : Nat} {b : Option Addr} {d : Nat} {e : Option Addr} {f : Nat} {ps : List ByteArray} {ws ms : List Int} {q : Int} {cs : List (Int × Int × ByteArray)}
theorem PWAt.lt (h : PWAt w P base v4 k4 a c b d e f ps ws ms q cs) : P < w.heap.size ∧ base ≤ P ∧ base ≤ w.heap.size := by
  have h1 := lt_of_block h.1
  have h2 := h.2.1
  exact ⟨h1, h2, by omega⟩
theorem PWAt.cells (h : PWAt w P base v4 k4 a c b d e f ps ws ms q cs) :
    (w.cell? ⟨P, 0, none⟩ = some (.slice v4 cs.length k4) ∧ w.cell? ⟨P, 1, none⟩ = some (.slice a ps.length c) ∧ w.cell? ⟨P, 2, none⟩ = some (.slice b ws.length d) ∧ w.cell? ⟨P, 3, none⟩ = some (.slice e ms.length f) ∧ w.cell? ⟨P, 4, none⟩ = some (.int .i64 q)) ∧ ∀ i, w.frozen? ⟨P, i, none⟩ = false :=
  ⟨⟨wk_cell h.1 rfl, wk_cell h.1 rfl, wk_cell h.1 rfl, wk_cell h.1 rfl, wk_cell h.1 rfl⟩, fun i => wk_frozen h.1 i⟩
theorem PWAt.below {w' : World} (h : PWAt w P base v4 k4 a c b d e f ps ws ms q cs) (hb : Below w.heap.size w w') : PWAt w' P base v4 k4 a c b d e f ps ws ms q cs := by
  obtain ⟨h0, hB, h1, h2⟩ := h
  exact ⟨(hb.block P (lt_of_block h0)).trans h0, hB, owns_below h1 hb, h2.below hb⟩
theorem PWAt.rd (h : PWAt w P base v4 k4 a c b d e f ps ws ms q cs) : Rd w a (vsString ps) ∧ Rd w b (vsInt ws) ∧ Rd w e (vsInt ms) := by
  obtain ⟨o1, o2, o3⟩ := ftl_rows h.2.2.2
  exact ⟨rd_of_own o1, rd_of_own o2, rd_of_own o3⟩
theorem PWAt.cap (h : PWAt w P base v4 k4 a c b d e f ps ws ms q cs) : ps.length ≤ c := owns_cap (ftl_rows h.2.2.2).1
theorem PWAt.acts (h : PWAt w P base v4 k4 a c b d e f ps ws ms q cs) : PActs w P base v4 k4 cs := ⟨_, _, _, _, h.1, h.2.1, h.2.2.1⟩
theorem PWAt.pw (h : PWAt w P base v4 k4 a c b d e f ps ws ms q cs) : PW w P base ps ws ms q cs := ⟨_, _, _, _, _, _, _, _, h⟩
theorem PW.below {w' : World} (h : PW w P base ps ws ms q cs) (hb : Below w.heap.size w w') : PW w' P base ps ws ms q cs := by
  obtain ⟨v4, k4, a, c, b, d, e, f, h⟩ := h
  exact (h.below hb).pw
theorem PActs.below {w' : World} (h : PActs w P base v4 k4 cs) (hb : Below w.heap.size w w') : PActs w' P base v4 k4 cs := by
  obtain ⟨x0, x1, x2, x3, h0, hB, h4⟩ := h
  exact ⟨x0, x1, x2, x3, (hb.block P (lt_of_block h0)).trans h0, hB, owns_below h4 hb⟩
theorem PActs.cells (h : PActs w P base v4 k4 cs) : w.cell? ⟨P, 0, none⟩ = some (.slice v4 cs.length k4) ∧ (∃ x1 x2 x3 x4, w.cell? ⟨P, 1, none⟩ = some x1 ∧ w.cell? ⟨P, 2, none⟩ = some x2 ∧ w.cell? ⟨P, 3, none⟩ = some x3 ∧ w.cell? ⟨P, 4, none⟩ = some x4) ∧ (∀ i, w.frozen? ⟨P, i, none⟩ = false) ∧ P < w.heap.size ∧ base ≤ P := by
  obtain ⟨x1, x2, x3, x4, h0, hB, h4⟩ := h
  exact ⟨wk_cell h0 rfl, ⟨x1, x2, x3, x4, wk_cell h0 rfl, wk_cell h0 rfl, wk_cell h0 rfl, wk_cell h0 rfl⟩, fun i => wk_frozen h0 i, lt_of_block h0, hB⟩
/-- One more act is laid down. -/
theorem PActs.act {u : World} {v : Value} (x : Int × Int × ByteArray) (h : PActs w P base v4 k4 cs) (hg : w.grownBy u (Value.slice v4 cs.length k4).ownBlock) (hv : u.ownsRow base 71 3 v (cs.length + 1) (vsAct cs ++ [.int .i64 x.1, .int .i64 x.2.1, .string x.2.2])) :
    ∃ a' k', v = .slice a' (cs ++ [x]).length k' ∧ PActs (u.setCell ⟨P, 0, none⟩ v) P base a' k' (cs ++ [x]) ∧ Below base w (u.setCell ⟨P, 0, none⟩ v) ∧ Fr P P P w (u.setCell ⟨P, 0, none⟩ v) := by
  obtain ⟨x1, x2, x3, x4, h0, hB, h4⟩ := h
  have hlt := lt_of_block h0
  have n4 := kind_ne h4 h0 (by decide)
  obtain ⟨a', k', rfl⟩ := owns3_shape hv
  have hl : cs.length + 1 = (cs ++ [x]).length := by simp
  rw [vsAct_snoc, hl] at hv
  rw [hl]
  have hP : u.heap[P]? = some (.cells #[.slice v4 cs.length k4, x1, x2, x3, x4] 65 (0, 0)) := (hg.block P hlt (fun e => n4 e.symm)).trans h0
  have hb : Below base w u := (Below.refl _ _).grown hg (by omega) (fun k hk => (h4.lt k hk).1)
  refine ⟨a', k', rfl, ⟨x1, x2, x3, x4, wk_set hP 0 _, hB, ownsRow_setCell_other hv ?_ _⟩, hb.setCell hB _, (Fr.grown hg h4).set (.inl rfl) _ _⟩
  exact kind_ne hv hP (by decide)
/-- What is mounted anew is laid into work. -/
theorem PActs.mount {nb : Nat} (h : PActs w P base v4 k4 cs) (hf : FtlOwn w nb (.agg #[.slice a ps.length c, .slice b ws.length d, .slice e ms.length f, .int .i64 q]) ps ws ms q) (hn : base ≤ nb) :
    PWAt ((((w.setCell ⟨P, 1, none⟩ (.slice a ps.length c)).setCell ⟨P, 2, none⟩ (.slice b ws.length d)).setCell ⟨P, 3, none⟩ (.slice e ms.length f)).setCell ⟨P, 4, none⟩ (.int .i64 q)) P base v4 k4 a c b d e f ps ws ms q cs ∧
    Below base w ((((w.setCell ⟨P, 1, none⟩ (.slice a ps.length c)).setCell ⟨P, 2, none⟩ (.slice b ws.length d)).setCell ⟨P, 3, none⟩ (.slice e ms.length f)).setCell ⟨P, 4, none⟩ (.int .i64 q)) ∧
    Fr P P P w ((((w.setCell ⟨P, 1, none⟩ (.slice a ps.length c)).setCell ⟨P, 2, none⟩ (.slice b ws.length d)).setCell ⟨P, 3, none⟩ (.slice e ms.length f)).setCell ⟨P, 4, none⟩ (.int .i64 q)) := by
  obtain ⟨x1, x2, x3, x4, h0, hB, h4⟩ := h
  obtain ⟨v1, v2, v3, hv, o1, o2, o3, hh⟩ := hf
  injection hv with hv
  simp at hv
  obtain ⟨rfl, rfl, rfl⟩ := hv
  have m1 := kind_ne o1 h0 (by decide)
  have m2 := kind_ne o2 h0 (by decide)
  have m3 := kind_ne o3 h0 (by decide)
  have m4 := kind_ne h4 h0 (by decide)
  have st : ∀ {e : TypeId} {size : Nat} {v : Value} {n : Nat} {xs : List Value} (y0 y1 y2 y3 : Value), w.ownsRow base e size v n xs → v.ownBlock ≠ some P → ((((w.setCell ⟨P, 1, none⟩ y0).setCell ⟨P, 2, none⟩ y1).setCell ⟨P, 3, none⟩ y2).setCell ⟨P, 4, none⟩ y3).ownsRow base e size v n xs := fun y0 y1 y2 y3 ho hn =>
    ownsRow_setCell_other (ownsRow_setCell_other (ownsRow_setCell_other (ownsRow_setCell_other ho hn _) hn _) hn _) hn _
  refine ⟨⟨wk_set (wk_set (wk_set (wk_set h0 1 _) 2 _) 3 _) 4 _, hB, st _ _ _ _ h4 m4, _, _, _, rfl, st _ _ _ _ (owns_mono o1 hn) m1, st _ _ _ _ (owns_mono o2 hn) m2, st _ _ _ _ (owns_mono o3 hn) m3, hh⟩,
    ((((Below.refl _ _).setCell hB _).setCell hB _).setCell hB _).setCell hB _, ((((Fr.of_below (Below.refl _ _)).set (.inl rfl) _ _).set (.inl rfl) _ _).set (.inl rfl) _ _).set (.inl rfl) _ _⟩
/-- Work that begins. -/
theorem pwork_new (hf : FtlOwn w base (.agg #[.slice a ps.length c, .slice b ws.length d, .slice e ms.length f, .int .i64 q]) ps ws ms q) (hb : base ≤ w.heap.size) :
    PWAt (w.alloc (Obj.cells #[.slice none 0 0, .slice a ps.length c, .slice b ws.length d, .slice e ms.length f, .int .i64 q] 65)) w.heap.size base none 0 a c b d e f ps ws ms q [] :=
  ⟨heap_alloc_new _ _, hb, World.ownsRow_nil _ _ _ _, hf.below ((Below.refl _ _).alloc (Nat.le_refl _) _)⟩
end

/-- 'append(acts, act)', acts being the call's own, as a step of a region that draws its order. -/
theorem step_append_act {P : Program} {w w0 : World} {ops : Array Oper} {o : Oper} {a : Act} {K : Act → World → Prop} {Q : Exit → Act → World → Prop} {E : Prop} (hgd : o.guard = none) (s x : Operand) (t : TypeId)
    (ho : o.op = .call { callee := .builtin .append, args := #[s, x], argTypes := #[t, t] })
    (base : Nat) (e : TypeId) (i : TypeInfo) (z : Value) (bytes : Nat) (ht : P.underlying t = some (.slice e)) (hi : P.info? e = some i) (hz : i.zero = some z)
    (hsize : i.size = 3) (hby : i.bytes = bytes) (hzs : z.cells.size = 3)
    (v : Value) (n : Nat) (xs : List Value) (u0 u1 u2 : Value) (hs : a.eval s = v) (hown : w0.ownsRow base e 3 v n xs) (h1 : u0.oneCell' = true ∧ u1.oneCell' = true ∧ u2.oneCell' = true)
    (hx : a.eval x = .slice (some ⟨w0.heap.size, 0, none⟩) 1 1)
    (hbytes : (n + 1) * bytes ≤ 140737488355328) (hn : n ≤ 140737488355327) (hbase : base ≤ w0.heap.size)
    (hw : w = w0.alloc (.cells #[u0, u1, u2] e)) (h : ∀ v' w', w'.ownsRow base e 3 v' (n + 1) (xs ++ [u0, u1, u2]) → w0.grownBy w' v.ownBlock → K (a.put o.dst v') w') :
    if Region.wanted o (yielded ops a.tmps) = true then Oper.wp P o a w K Q else E := by
  have hwt : Region.wanted o (yielded ops a.tmps) = true := by simp [Region.wanted, hgd]
  rw [if_pos hwt]
  subst hw
  refine wp_append_own _ s x t ho base e i z 3 bytes ht hi hz hsize hby hzs (by decide) v n xs hs (hown.alloc _) ⟨w0.heap.size, 0, none⟩ 1 1 [u0, u1, u2] hx rfl ?_ ?_ (by unfold maxLen; omega) hbytes (by simp; omega) ?_
  · intro j y hj
    match j, hj with
    | 0, hj => simp at hj; subst hj; simp [Addr.add]
    | 1, hj => simp at hj; subst hj; simp [Addr.add]
    | 2, hj => simp at hj; subst hj; simp [Addr.add]
  · intro y hy
    simp at hy
    rcases hy with rfl | rfl | rfl
    · exact h1.1
    · exact h1.2.1
    · exact h1.2.2
  · intro v' w' k1 k2 _
    exact h v' w' k1 (grown_trans (World.grownBy_alloc w0 _ _) k2)
end Go.Proofs.YtdicjbabnknjhaaGreat

namespace Go.Proofs.YtdicjbabnknjhaaGreat
open Go.RowKit

set_option maxHeartbeats 1600000 in
theorem act_bad0 (f : Nat) (a b : Option Addr) (ps : List ByteArray) (ws : List Int) (c d : Nat) (w : World) (hp : Rd w a (vsString ps)) (hw : Rd w b (vsInt ws)) (hl : ps.length ≤ 1048576) (hm : ws.length ≤ 1048576) (hs : ∀ s ∈ ps, s.size ≤ 1048576) (hok : ¬ chipOkP ps ws) :
    Calls Tryz.prog 139 #[.agg #[.slice a ps.length c, .slice b ws.length d], .func (.func f) #[] #[]] w fun e w' => ∃ v, e = .returned (.tuple #[v, .bool false]) ∧ ChipOwn w' w.heap.size v [] [] ∧ Below w.heap.size w w' := by
  obtain ⟨W, hW⟩ : ∃ W, W = (w.alloc (Obj.cells #[.slice a ps.length c, .slice b ws.length d] 32)).alloc (Obj.cells #[.slice none 0 0, .slice none 0 0] 32) := ⟨_, rfl⟩
  have hbW : Below w.heap.size w W := by subst hW; exact ((Below.refl _ _).alloc (Nat.le_refl _) _).alloc (by simp) _
  have cW : W.cell? ⟨w.heap.size + 1, 0, none⟩ = some (.slice none 0 0) ∧ W.cell? ⟨w.heap.size + 1, 1, none⟩ = some (.slice none 0 0) ∧ W.frozen? ⟨w.heap.size + 1, 0, none⟩ = false ∧ W.frozen? ⟨w.heap.size + 1, 1, none⟩ = false ∧ w.heap.size + 1 < W.heap.size := by
    subst hW; refine ⟨?_, ?_, ?_, ?_, ?_⟩ <;> simp [go_sem]
  have hB := chipOkB_false hok
  go_enter Tryz.func139, Tryz.ntmps139
  go_wp2_with fail
  rw [← hW]
  clear hW
  refine (implChipOk_any a b ps ws c d _ (hp.below hbW) (hw.below hbW) hl hm hs).mono ?_
  rw [hB]
  rintro e w1 ⟨rfl, hb1⟩
  have k1 := (hb1.cell (p := ⟨w.heap.size + 1, 0, none⟩) (by show _ < _; exact cW.2.2.2.2)).trans cW.1
  have k2 := (hb1.cell (p := ⟨w.heap.size + 1, 1, none⟩) (by show _ < _; exact cW.2.2.2.2)).trans cW.2.1
  have f1 := (hb1.frozen (p := ⟨w.heap.size + 1, 0, none⟩) (by show _ < _; exact cW.2.2.2.2)).trans cW.2.2.1
  have f2 := (hb1.frozen (p := ⟨w.heap.size + 1, 1, none⟩) (by show _ < _; exact cW.2.2.2.2)).trans cW.2.2.2.1
  have hbw1 := after hbW hb1
  clear hb1 hbW cW hp hw hs hok hB
  go_wp2
  exact bodyPost_ret (v := .tuple #[.agg #[.slice none 0 0, .slice none 0 0], .bool false]) (by simp [results, Tryz.results139, go_sem, k1, k2]) rfl ⟨_, rfl, own_zero _ _, (hbw1.setCell (by show _ ≤ _; simp) _).setCell (by show _ ≤ _; simp) _⟩

/-- What an act with nothing of its own does to a board. -/
def Acts0 (f : Nat) (ps qs : List ByteArray) (ws us : List Int) : Prop :=
  ∀ (w : World) (g : Nat), Board w g ps ws → Calls Tryz.prog f #[.pointer (some ⟨g, 0, none⟩)] w fun e w' => (∃ v, e = .returned v) ∧ Board w' g qs us ∧ OnlyIn w w' [some g]

set_option maxHeartbeats 3200000 in
theorem act_ok0 (a b : Option Addr) (ps qs : List ByteArray) (ws us : List Int) (c d : Nat) (w : World) (hp : Rd w a (vsString ps)) (hw : Rd w b (vsInt ws)) (hok : chipOkP ps ws) (hact : Acts0 140 ps qs ws us) (hql : qs.length = 60) (hul : us.length = 10) :
    Calls Tryz.prog 139 #[.agg #[.slice a ps.length c, .slice b ws.length d], .func (.func 140) #[] #[]] w fun e w' => ∃ v, e = .returned (.tuple #[v, .bool (decide (qs ≠ ps ∨ us ≠ ws))]) ∧ ChipOwn w' w.heap.size v qs us ∧ Below w.heap.size w w' := by
  obtain ⟨hz, _⟩ := zero_of_info infoBoard
  obtain ⟨W, hW⟩ : ∃ W, W = (w.alloc (Obj.cells #[.slice a ps.length c, .slice b ws.length d] 32)).alloc (Obj.cells #[.slice none 0 0, .slice none 0 0] 32) := ⟨_, rfl⟩
  have hbW : Below w.heap.size w W := by subst hW; exact ((Below.refl _ _).alloc (Nat.le_refl _) _).alloc (by simp) _
  have cW : W.cell? ⟨w.heap.size, 0, none⟩ = some (.slice a ps.length c) ∧ W.cell? ⟨w.heap.size, 1, none⟩ = some (.slice b ws.length d) := by
    subst hW; refine ⟨?_, ?_⟩ <;> simp [go_sem]
  have hR : W.heap[w.heap.size + 1]? = some (.cells #[.slice none 0 0, .slice none 0 0] 32 (0, 0)) := by subst hW; exact heap_alloc2_new _ _ _
  have hsW : w.heap.size + 1 < W.heap.size := by subst hW; simp
  have hB := chipOkB_true hok
  obtain ⟨hl, hm, hs8, hx⟩ := hok
  have HL : Hid (ps.length = 60 ∧ ws.length = 10 ∧ qs.length = 60 ∧ us.length = 10) := ⟨hl, hm, hql, hul⟩
  have hl1 : ps.length ≤ 60 := by omega
  have hm1 : ws.length ≤ 10 := by omega
  have HI : Hid ((Tryz.prog.info? 165).map (·.size) = some (bd ps ws).size) := by show _ = _; rw [szBoard, bd_size, hl, hm]
  have HO : Hid ((bd ps0 ws0).size = (bd ps ws).size) := by show _ = _; rw [bd_size, bd_size, hl, hm, ps0_len, ws0_len]
  have HA := hide hact
  have HR := hide hR
  clear hl hm hql hul hact hR
  go_enter Tryz.func139, Tryz.ntmps139
  go_wp2_with fail
  rw [← hW]
  clear hW
  refine (implChipOk_any a b ps ws c d _ (hp.below hbW) (hw.below hbW) (by omega) (by omega) (fun s h => by have := hs8 s h; omega)).mono ?_
  rw [hB]
  rintro e w1 ⟨rfl, hb1⟩
  have k1 := (hb1.cell (p := ⟨w.heap.size, 0, none⟩) (by show _ < _; simp; omega)).trans cW.1
  have k2 := (hb1.cell (p := ⟨w.heap.size, 1, none⟩) (by show _ < _; simp; omega)).trans cW.2
  have hbw1 := after hbW hb1
  have hs1 := hb1.size
  go_wp2_with fail
  refine (boardOf_any a b ps ws c d _ (hp.below hbw1) (hw.below hbw1) HL.out.1 HL.out.2.1).mono ?_
  rintro e w2 ⟨rfl, hb2⟩
  have hb12 := after hb1 hb2
  have hbw2 := after hbw1 hb2
  have HR2 : Hid (w2.heap[w.heap.size + 1]? = some (.cells #[.slice none 0 0, .slice none 0 0] 32 (0, 0))) := (hb12.block _ hsW).trans HR.out
  clear hbW cW hb1 hb2 k1 k2 hp hw hs8 hx hB HR
  obtain ⟨X, hX⟩ : ∃ X, X = bd ps ws := ⟨_, rfl⟩
  have HX := hide hX
  rw [← hX] at HI HO ⊢
  clear hX
  have HZ : Hid (X.all (·.oneCell') = true) := by show _ = _; rw [HX.out]; exact one_bd ps ws
  go_wp2_with (first
    | (refine wpList_store_row rfl 165 (.tmp 6) (.tmp 13) rfl w2.heap.size X rfl rfl 165 (bd ps0 ws0) (heap_alloc_last _ _) HI.out HO.out HZ.out ?_; rw [setRow_alloc_at rfl])
    | (refine wpList_load_row rfl 165 (.tmp 6) rfl w2.heap.size rfl 165 X (0, 0) _ (heap_alloc_last _ _) Tryz.underlying165 rfl HI.out ?_)
    | (refine wpList_store_row rfl 165 (.tmp 7) (.tmp 14) rfl (w2.heap.size + 1) X rfl rfl 165 (bd ps0 ws0) (heap_alloc2_new _ _ _) HI.out HO.out HZ.out ?_; rw [setRow_alloc_at (by simp)]))
  obtain ⟨V, hV⟩ : ∃ V, V = (w2.alloc (Obj.cells X 165)).alloc (Obj.cells X 165) := ⟨_, rfl⟩
  have hbV : Below w2.heap.size w2 V := by subst hV; exact ((Below.refl _ _).alloc (Nat.le_refl _) _).alloc (by simp) _
  have B1 : Board V w2.heap.size ps ws := by subst hV; rw [HX.out]; exact heap_alloc2_old _ _ _
  have B2 : Board V (w2.heap.size + 1) ps ws := by subst hV; rw [HX.out]; exact heap_alloc2_new _ _ _
  have HRV : Hid (V.heap[w.heap.size + 1]? = some (.cells #[.slice none 0 0, .slice none 0 0] 32 (0, 0))) := (hbV.block _ (Nat.lt_of_lt_of_le hsW hb12.size)).trans HR2.out
  have hsV : w2.heap.size + 1 < V.heap.size := by subst hV; simp
  have hsb := hb12.size
  rw [← hV]
  clear hV hz HI HO HZ HX HR2 hb12
  refine (HA.out V _ B2).mono ?_
  rintro e w4 ⟨⟨v, rfl⟩, B24, hO4⟩
  have B14 : Board w4 w2.heap.size ps ws := B1.other hO4 (by simp)
  have hbw4 : Below w.heap.size w w4 := (after hbw2 hbV).trans (hO4.below (Nat.le_of_lt (Nat.lt_of_le_of_lt (Nat.le_trans hbw2.size (Nat.le_add_right _ 1)) hsV)) (by intro k hk; simp at hk; have := hbw2.size; omega))
  have HR4 : Hid (w4.heap[w.heap.size + 1]? = some (.cells #[.slice none 0 0, .slice none 0 0] 32 (0, 0))) := (hO4.block _ (by omega) (by simp; omega)).trans HRV.out
  have hs4 : V.heap.size ≤ w4.heap.size := hO4.size
  obtain ⟨QP, hQP⟩ : ∃ L, L = vsString qs := ⟨_, rfl⟩
  obtain ⟨PP, hPP⟩ : ∃ L, L = vsString ps := ⟨_, rfl⟩
  obtain ⟨QU, hQU⟩ : ∃ L, L = vsInt us := ⟨_, rfl⟩
  obtain ⟨PU, hPU⟩ : ∃ L, L = vsInt ws := ⟨_, rfl⟩
  have i1 : (Tryz.prog.info? 163).map (·.size) = some QP.length := by rw [hQP, List.length_map, HL.out.2.2.1]; kernel_rfl
  have i2 : (Tryz.prog.info? 163).map (·.size) = some PP.length := by rw [hPP, List.length_map, HL.out.1]; kernel_rfl
  have i3 : (Tryz.prog.info? 133).map (·.size) = some QU.length := by rw [hQU, List.length_map, HL.out.2.2.2]; kernel_rfl
  have i4 : (Tryz.prog.info? 133).map (·.size) = some PU.length := by rw [hPU, List.length_map, HL.out.2.1]; kernel_rfl
  have u1 := Tryz.underlying163
  have u2 := Tryz.underlying133
  have HS : Hid (∀ u, Below w4.heap.size w4 u → u.rangeAt (w2.heap.size + 1) 0 QP ∧ u.rangeAt w2.heap.size 0 PP ∧ u.rangeAt (w2.heap.size + 1) 60 QU ∧ u.rangeAt w2.heap.size 60 PU) := by
    intro u hu
    have b1 := B14.below hu
    have b2 := B24.below hu
    rw [hQP, hPP, hQU, hPU]
    exact ⟨range_pages b2, range_pages b1, range_wear b2 HL.out.2.2.1, range_wear b1 HL.out.1⟩
  have hE : ∀ w, (Op.equalIn 10000 163 (.agg QP.toArray) (.agg PP.toArray)).run Tryz.prog w = .ok (decide (qs = ps)) w := by intro w; rw [hQP, hPP]; exact equal_pages w HL.out.2.2.1 HL.out.1
  have hF : ∀ w, (Op.equalIn 10000 133 (.agg QU.toArray) (.agg PU.toArray)).run Tryz.prog w = .ok (decide (us = ws)) w := by intro w; rw [hQU, hPU]; exact equal_wear w HL.out.2.2.2 HL.out.2.1
  clear hQP hPP hQU hPU B1 B2 hbV hO4 HRV hbw2
  have HB24 := hide B24
  have HBW4 := hide hbw4
  clear B24 B14 hbw4
  obtain ⟨D, hD⟩ : ∃ D, D = decide (us = ws) := ⟨_, rfl⟩
  rw [← hD] at hF
  have HD := hide hD
  clear hD
  by_cases hq : qs = ps
  · have hq' : decide (qs = ps) = true := by simp [hq]
    rw [hq'] at hE
    have HQ := hide hq
    clear hq hq'
    go_wp2_with fail
    refine wp_region_held_drew (S := fun w' => w'.rangeAt (w2.heap.size + 1) 0 QP ∧ w'.rangeAt w2.heap.size 0 PP ∧ w'.rangeAt (w2.heap.size + 1) 60 QU ∧ w'.rangeAt w2.heap.size 60 PU) (by kernel_rfl) (HS.out _ (after_drew (Below.refl _ _) 1)) (fun hHeld => ?_)
    refine take_at (i := 1) (some 18) (v := .pointer (some ⟨w2.heap.size + 1, 0, none⟩)) rfl rfl (by kernel_rfl) (by kernel_rfl) (by kernel_rfl) (fun _ _ _ h => h) (Or.inl ⟨by rfl, fun w _ => by go_simp⟩) (by assumption) ?_
    simp only [Act.put, List.setIfInBounds_toArray, List.set_cons_zero, List.set_cons_succ]
    refine take_at (i := 2) (some 19) (v := .agg QP.toArray) rfl rfl (by kernel_rfl) (by kernel_rfl) (by kernel_rfl) (fun _ _ _ h => h) (yieldsIf_load_mid (by rfl) _ _ rfl (w2.heap.size + 1) 0 rfl QP _ (fun w h => h.1) u1 rfl i1) (by assumption) ?_
    simp only [Act.put, List.setIfInBounds_toArray, List.set_cons_zero, List.set_cons_succ]
    refine take_at (i := 3) (some 20) (v := .pointer (some ⟨w2.heap.size, 0, none⟩)) rfl rfl (by kernel_rfl) (by kernel_rfl) (by kernel_rfl) (fun _ _ _ h => h) (Or.inl ⟨by rfl, fun w _ => by go_simp⟩) (by assumption) ?_
    simp only [Act.put, List.setIfInBounds_toArray, List.set_cons_zero, List.set_cons_succ]
    refine take_at (i := 4) (some 21) (v := .agg PP.toArray) rfl rfl (by kernel_rfl) (by kernel_rfl) (by kernel_rfl) (fun _ _ _ h => h) (yieldsIf_load_mid (by rfl) _ _ rfl (w2.heap.size) 0 rfl PP _ (fun w h => h.2.1) u1 rfl i2) (by assumption) ?_
    simp only [Act.put, List.setIfInBounds_toArray, List.set_cons_zero, List.set_cons_succ]
    refine take_at (i := 5) (some 22) (v := .bool false) rfl rfl (by kernel_rfl) (by kernel_rfl) (by kernel_rfl) (fun _ _ _ h => h) (Or.inl ⟨by rfl, fun w _ => by go_simp⟩) (by assumption) ?_
    simp only [Act.put, List.setIfInBounds_toArray, List.set_cons_zero, List.set_cons_succ]
    refine wpAnyH_ready (rs := [0]) (by kernel_rfl) (by simp) ?_
    refine AllReadyH.cons rfl (fun K hK => ?_) AllReadyH.nil
    go_simp
    refine (chip_any (w2.heap.size + 1) qs us w4.drew HB24.out HL.out.2.2.1 HL.out.2.2.2).mono ?_
    rintro e w5 ⟨vv, rfl, hown, hb5⟩
    obtain ⟨g, kg, g', kg', rfl, ho1, ho2, hne, hg1, hg2, hg3, hg4⟩ := own_form hown (by rw [HL.out.2.2.1]; decide) (by rw [HL.out.2.2.2]; decide)
    have hdr : Below w4.heap.size w4 w4.drew := after_drew (Below.refl _ _) 1
    have hb45 : Below w4.heap.size w4 w5 := after hdr hb5
    have HOWN := hide hown
    have HB5 := hide hb45
    clear hown hb5 hb45 ho1 ho2 hdr
    refine hK.out _ _ (HS.out _ HB5.out) (fun hHeld => ?_)
    clear hK K
    refine take_at (i := 6) (some 23) (v := .bool false) rfl rfl (by kernel_rfl) (by kernel_rfl) (by kernel_rfl) (fun _ _ _ h => h) (Or.inl ⟨by rfl, fun w _ => by go_simp⟩) (by assumption) ?_
    simp only [Act.put, List.setIfInBounds_toArray, List.set_cons_zero, List.set_cons_succ]
    refine take_at (i := 7) (some 24) (v := .pointer (some ⟨w2.heap.size + 1, 60, none⟩)) rfl rfl (by kernel_rfl) (by kernel_rfl) (by kernel_rfl) (fun _ _ _ h => h) (Or.inl ⟨by rfl, fun w _ => by go_simp⟩) (by assumption) ?_
    simp only [Act.put, List.setIfInBounds_toArray, List.set_cons_zero, List.set_cons_succ]
    refine take_at (i := 8) (some 25) (v := .agg QU.toArray) rfl rfl (by kernel_rfl) (by kernel_rfl) (by kernel_rfl) (fun _ _ _ h => h) (yieldsIf_load_mid (by rfl) _ _ rfl (w2.heap.size + 1) 60 rfl QU _ (fun w h => h.2.2.1) u2 rfl i3) (by assumption) ?_
    simp only [Act.put, List.setIfInBounds_toArray, List.set_cons_zero, List.set_cons_succ]
    refine take_at (i := 9) (some 26) (v := .pointer (some ⟨w2.heap.size, 60, none⟩)) rfl rfl (by kernel_rfl) (by kernel_rfl) (by kernel_rfl) (fun _ _ _ h => h) (Or.inl ⟨by rfl, fun w _ => by go_simp⟩) (by assumption) ?_
    simp only [Act.put, List.setIfInBounds_toArray, List.set_cons_zero, List.set_cons_succ]
    refine take_at (i := 10) (some 27) (v := .agg PU.toArray) rfl rfl (by kernel_rfl) (by kernel_rfl) (by kernel_rfl) (fun _ _ _ h => h) (yieldsIf_load_mid (by rfl) _ _ rfl (w2.heap.size) 60 rfl PU _ (fun w h => h.2.2.2) u2 rfl i4) (by assumption) ?_
    simp only [Act.put, List.setIfInBounds_toArray, List.set_cons_zero, List.set_cons_succ]
    refine take_at (i := 11) (some 28) (v := .bool (!D)) rfl rfl (by kernel_rfl) (by kernel_rfl) (by kernel_rfl) (fun _ _ _ h => h) (Or.inl ⟨by rfl, fun w _ => by go_simp⟩) (by assumption) ?_
    simp only [Act.put, List.setIfInBounds_toArray, List.set_cons_zero, List.set_cons_succ]
    refine take_at (i := 12) (some 29) (v := .bool (!D)) rfl rfl (by kernel_rfl) (by kernel_rfl) (by kernel_rfl) (fun _ _ _ h => h) (Or.inl ⟨by rfl, fun w _ => by go_simp⟩) (by assumption) ?_
    simp only [Act.put, List.setIfInBounds_toArray, List.set_cons_zero, List.set_cons_succ]
    have HR5 : w5.heap[w.heap.size + 1]? = some (.cells #[.slice none 0 0, .slice none 0 0] 32 (0, 0)) := (HB5.out.block _ (by omega)).trans HR4.out
    have z0 : w5.cell? ⟨w.heap.size + 1, 0, none⟩ = some (.slice none 0 0) := by rw [cell_of_row w5 _ _ _ _ _ HR5]; rfl
    have z1 : w5.cell? ⟨w.heap.size + 1, 1, none⟩ = some (.slice none 0 0) := by rw [cell_of_row w5 _ _ _ _ _ HR5]; rfl
    have y0 : w5.frozen? ⟨w.heap.size + 1, 0, none⟩ = false := frozen_of_row w5 _ _ _ _ HR5
    have y1 : w5.frozen? ⟨w.heap.size + 1, 1, none⟩ = false := frozen_of_row w5 _ _ _ _ HR5
    clear HR5
    refine wpAnyH_ready (rs := [13]) (by kernel_rfl) (by simp) ?_
    refine AllReadyH.cons rfl (fun K hK => ?_) AllReadyH.nil
    go_simp
    refine hK.out _ _ ⟨range_set (range_set hHeld.1 (by omega) _) (by omega) _, range_set (range_set hHeld.2.1 (by omega) _) (by omega) _, range_set (range_set hHeld.2.2.1 (by omega) _) (by omega) _, range_set (range_set hHeld.2.2.2 (by omega) _) (by omega) _⟩ (fun hHeld => ?_)
    clear hK K
    refine take_at (i := 14) (some 5) (v := .bool (!D)) rfl rfl (by kernel_rfl) (by kernel_rfl) (by kernel_rfl) (fun _ _ _ h => h) (Or.inl ⟨by rfl, fun w _ => by go_simp⟩) (by assumption) ?_
    simp only [Act.put, List.setIfInBounds_toArray, List.set_cons_zero, List.set_cons_succ]
    refine wpAnyH_done (by kernel_rfl) ?_ _
    clear hHeld
    go_wp2
    refine bodyPost_ret (v := .tuple #[.agg #[.slice (some ⟨g, 0, none⟩) qs.length kg, .slice (some ⟨g', 0, none⟩) us.length kg'], .bool (!D)]) (by simp [results, Tryz.results139, go_sem, z0, z1]) rfl ⟨.agg #[.slice (some ⟨g, 0, none⟩) qs.length kg, .slice (some ⟨g', 0, none⟩) us.length kg'], ?_, ?_, ?_⟩
    · have hb : (!D) = decide (qs ≠ ps ∨ us ≠ ws) := by rw [HD.out]; simp [HQ.out]
      rw [hb]
    · exact own_mono (own_set (own_set HOWN.out (show w.heap.size + 1 < w4.heap.size by omega) _) (show w.heap.size + 1 < w4.heap.size by omega) _) (show w.heap.size ≤ w4.heap.size by omega)
    · exact ((HBW4.out.trans (HB5.out.mono HBW4.out.size)).setCell (by show _ ≤ _; simp) _).setCell (by show _ ≤ _; simp) _
  · have hq' : decide (qs = ps) = false := by simp [hq]
    rw [hq'] at hE
    have HQ := hide hq
    clear hq hq'
    go_wp2_with fail
    refine wp_region_held_drew (S := fun w' => w'.rangeAt (w2.heap.size + 1) 0 QP ∧ w'.rangeAt w2.heap.size 0 PP ∧ w'.rangeAt (w2.heap.size + 1) 60 QU ∧ w'.rangeAt w2.heap.size 60 PU) (by kernel_rfl) (HS.out _ (after_drew (Below.refl _ _) 1)) (fun hHeld => ?_)
    refine take_at (i := 1) (some 18) (v := .pointer (some ⟨w2.heap.size + 1, 0, none⟩)) rfl rfl (by kernel_rfl) (by kernel_rfl) (by kernel_rfl) (fun _ _ _ h => h) (Or.inl ⟨by rfl, fun w _ => by go_simp⟩) (by assumption) ?_
    simp only [Act.put, List.setIfInBounds_toArray, List.set_cons_zero, List.set_cons_succ]
    refine take_at (i := 2) (some 19) (v := .agg QP.toArray) rfl rfl (by kernel_rfl) (by kernel_rfl) (by kernel_rfl) (fun _ _ _ h => h) (yieldsIf_load_mid (by rfl) _ _ rfl (w2.heap.size + 1) 0 rfl QP _ (fun w h => h.1) u1 rfl i1) (by assumption) ?_
    simp only [Act.put, List.setIfInBounds_toArray, List.set_cons_zero, List.set_cons_succ]
    refine take_at (i := 3) (some 20) (v := .pointer (some ⟨w2.heap.size, 0, none⟩)) rfl rfl (by kernel_rfl) (by kernel_rfl) (by kernel_rfl) (fun _ _ _ h => h) (Or.inl ⟨by rfl, fun w _ => by go_simp⟩) (by assumption) ?_
    simp only [Act.put, List.setIfInBounds_toArray, List.set_cons_zero, List.set_cons_succ]
    refine take_at (i := 4) (some 21) (v := .agg PP.toArray) rfl rfl (by kernel_rfl) (by kernel_rfl) (by kernel_rfl) (fun _ _ _ h => h) (yieldsIf_load_mid (by rfl) _ _ rfl (w2.heap.size) 0 rfl PP _ (fun w h => h.2.1) u1 rfl i2) (by assumption) ?_
    simp only [Act.put, List.setIfInBounds_toArray, List.set_cons_zero, List.set_cons_succ]
    refine take_at (i := 5) (some 22) (v := .bool true) rfl rfl (by kernel_rfl) (by kernel_rfl) (by kernel_rfl) (fun _ _ _ h => h) (Or.inl ⟨by rfl, fun w _ => by go_simp⟩) (by assumption) ?_
    simp only [Act.put, List.setIfInBounds_toArray, List.set_cons_zero, List.set_cons_succ]
    refine wpAnyH_ready (rs := [0]) (by kernel_rfl) (by simp) ?_
    refine AllReadyH.cons rfl (fun K hK => ?_) AllReadyH.nil
    go_simp
    refine (chip_any (w2.heap.size + 1) qs us w4.drew HB24.out HL.out.2.2.1 HL.out.2.2.2).mono ?_
    rintro e w5 ⟨vv, rfl, hown, hb5⟩
    obtain ⟨g, kg, g', kg', rfl, ho1, ho2, hne, hg1, hg2, hg3, hg4⟩ := own_form hown (by rw [HL.out.2.2.1]; decide) (by rw [HL.out.2.2.2]; decide)
    have hdr : Below w4.heap.size w4 w4.drew := after_drew (Below.refl _ _) 1
    have hb45 : Below w4.heap.size w4 w5 := after hdr hb5
    have HOWN := hide hown
    have HB5 := hide hb45
    clear hown hb5 hb45 ho1 ho2 hdr
    refine hK.out _ _ (HS.out _ HB5.out) (fun hHeld => ?_)
    clear hK K
    refine take_at (i := 6) (some 23) (v := .bool true) rfl rfl (by kernel_rfl) (by kernel_rfl) (by kernel_rfl) (fun _ _ _ h => h) (Or.inl ⟨by rfl, fun w _ => by go_simp⟩) (by assumption) ?_
    simp only [Act.put, List.setIfInBounds_toArray, List.set_cons_zero, List.set_cons_succ]
    refine take_at (i := 7) (some 24) (v := undef) rfl rfl (by kernel_rfl) (by kernel_rfl) (by kernel_rfl) (fun _ _ _ h => h) (Or.inr ⟨by rfl, rfl⟩) (by assumption) ?_
    simp only [Act.put, List.setIfInBounds_toArray, List.set_cons_zero, List.set_cons_succ]
    refine take_at (i := 8) (some 25) (v := undef) rfl rfl (by kernel_rfl) (by kernel_rfl) (by kernel_rfl) (fun _ _ _ h => h) (Or.inr ⟨by rfl, rfl⟩) (by assumption) ?_
    simp only [Act.put, List.setIfInBounds_toArray, List.set_cons_zero, List.set_cons_succ]
    refine take_at (i := 9) (some 26) (v := undef) rfl rfl (by kernel_rfl) (by kernel_rfl) (by kernel_rfl) (fun _ _ _ h => h) (Or.inr ⟨by rfl, rfl⟩) (by assumption) ?_
    simp only [Act.put, List.setIfInBounds_toArray, List.set_cons_zero, List.set_cons_succ]
    refine take_at (i := 10) (some 27) (v := undef) rfl rfl (by kernel_rfl) (by kernel_rfl) (by kernel_rfl) (fun _ _ _ h => h) (Or.inr ⟨by rfl, rfl⟩) (by assumption) ?_
    simp only [Act.put, List.setIfInBounds_toArray, List.set_cons_zero, List.set_cons_succ]
    refine take_at (i := 11) (some 28) (v := undef) rfl rfl (by kernel_rfl) (by kernel_rfl) (by kernel_rfl) (fun _ _ _ h => h) (Or.inr ⟨by rfl, rfl⟩) (by assumption) ?_
    simp only [Act.put, List.setIfInBounds_toArray, List.set_cons_zero, List.set_cons_succ]
    refine take_at (i := 12) (some 29) (v := .bool true) rfl rfl (by kernel_rfl) (by kernel_rfl) (by kernel_rfl) (fun _ _ _ h => h) (Or.inl ⟨by rfl, fun w _ => by go_simp⟩) (by assumption) ?_
    simp only [Act.put, List.setIfInBounds_toArray, List.set_cons_zero, List.set_cons_succ]
    have HR5 : w5.heap[w.heap.size + 1]? = some (.cells #[.slice none 0 0, .slice none 0 0] 32 (0, 0)) := (HB5.out.block _ (by omega)).trans HR4.out
    have z0 : w5.cell? ⟨w.heap.size + 1, 0, none⟩ = some (.slice none 0 0) := by rw [cell_of_row w5 _ _ _ _ _ HR5]; rfl
    have z1 : w5.cell? ⟨w.heap.size + 1, 1, none⟩ = some (.slice none 0 0) := by rw [cell_of_row w5 _ _ _ _ _ HR5]; rfl
    have y0 : w5.frozen? ⟨w.heap.size + 1, 0, none⟩ = false := frozen_of_row w5 _ _ _ _ HR5
    have y1 : w5.frozen? ⟨w.heap.size + 1, 1, none⟩ = false := frozen_of_row w5 _ _ _ _ HR5
    clear HR5
    refine wpAnyH_ready (rs := [13]) (by kernel_rfl) (by simp) ?_
    refine AllReadyH.cons rfl (fun K hK => ?_) AllReadyH.nil
    go_simp
    refine hK.out _ _ ⟨range_set (range_set hHeld.1 (by omega) _) (by omega) _, range_set (range_set hHeld.2.1 (by omega) _) (by omega) _, range_set (range_set hHeld.2.2.1 (by omega) _) (by omega) _, range_set (range_set hHeld.2.2.2 (by omega) _) (by omega) _⟩ (fun hHeld => ?_)
    clear hK K
    refine take_at (i := 14) (some 5) (v := .bool true) rfl rfl (by kernel_rfl) (by kernel_rfl) (by kernel_rfl) (fun _ _ _ h => h) (Or.inl ⟨by rfl, fun w _ => by go_simp⟩) (by assumption) ?_
    simp only [Act.put, List.setIfInBounds_toArray, List.set_cons_zero, List.set_cons_succ]
    refine wpAnyH_done (by kernel_rfl) ?_ _
    clear hHeld
    go_wp2
    refine bodyPost_ret (v := .tuple #[.agg #[.slice (some ⟨g, 0, none⟩) qs.length kg, .slice (some ⟨g', 0, none⟩) us.length kg'], .bool true]) (by simp [results, Tryz.results139, go_sem, z0, z1]) rfl ⟨.agg #[.slice (some ⟨g, 0, none⟩) qs.length kg, .slice (some ⟨g', 0, none⟩) us.length kg'], ?_, ?_, ?_⟩
    · have hb : true = decide (qs ≠ ps ∨ us ≠ ws) := by simp [HQ.out]
      rw [hb]
    · exact own_mono (own_set (own_set HOWN.out (show w.heap.size + 1 < w4.heap.size by omega) _) (show w.heap.size + 1 < w4.heap.size by omega) _) (show w.heap.size ≤ w4.heap.size by omega)
    · exact ((HBW4.out.trans (HB5.out.mono HBW4.out.size)).setCell (by show _ ≤ _; simp) _).setCell (by show _ ≤ _; simp) _



set_option maxHeartbeats 400000 in
theorem onNone_any (g : Nat) (ps : List ByteArray) (ws : List Int) (w : World) (h : Board w g ps ws) : Calls Tryz.prog 140 #[.pointer (some ⟨g, 0, none⟩)] w fun e w' => (∃ v, e = .returned v) ∧ Board w' g ps ws ∧ OnlyIn w w' [some g] := by
  have HB := hide h
  clear h
  go_enter Tryz.func140, Tryz.ntmps140
  go_wp2
  exact bodyPost_end (by simp [results, Tryz.results140]; rfl) rfl ⟨⟨_, rfl⟩, HB.out, OnlyIn.of_below (Below.refl _ _) _⟩

/-- act, at what does nothing. -/
theorem actNone_fn (a b : Option Addr) (ps : List ByteArray) (ws : List Int) (c d : Nat) (w : World) (hp : Rd w a (vsString ps)) (hw : Rd w b (vsInt ws)) (hl : ps.length ≤ 1048576) (hm : ws.length ≤ 1048576) (hs : ∀ s ∈ ps, s.size ≤ 1048576) :
    Calls Tryz.prog 139 #[.agg #[.slice a ps.length c, .slice b ws.length d], .func (.func 140) #[] #[]] w fun e w' => ∃ v, e = .returned (.tuple #[v, .bool false]) ∧ ChipOwn w' w.heap.size v (if chipOkB ps ws = true then ps else []) (if chipOkB ps ws = true then ws else []) ∧ Below w.heap.size w w' := by
  by_cases hok : chipOkP ps ws
  · have hB := chipOkB_true hok
    rw [if_pos hB, if_pos hB]
    refine (act_ok0 a b ps ps ws ws c d w hp hw hok (fun w g h => onNone_any g ps ws w h) hok.1 hok.2.1).mono ?_
    rintro e w' ⟨v, rfl, ho, hb⟩
    exact ⟨v, by simp, ho, hb⟩
  · have hB := chipOkB_false hok
    rw [if_neg (by simp [hB]), if_neg (by simp [hB])]
    exact act_bad0 140 a b ps ws c d w hp hw hl hm hs hok

set_option maxHeartbeats 1600000 in
theorem doer1_any (a b : Option Addr) (ps : List ByteArray) (ws : List Int) (c d : Nat) (kind at_ : Int) (text : ByteArray) (w : World) (hp : Rd w a (vsString ps)) (hw : Rd w b (vsInt ws)) (hl : ps.length ≤ 1048576) (hm : ws.length ≤ 1048576) (hs : ∀ s ∈ ps, s.size ≤ 1048576) :
    Calls Tryz.prog 138 #[.agg #[.slice a ps.length c, .slice b ws.length d], .agg #[.int .i64 kind, .int .i64 at_, .string text]] w fun e w' => ∃ v, e = .returned (.tuple #[v, .bool (false)]) ∧ ChipOwn w' w.heap.size v (if chipOkB ps ws = true then ps else []) (if chipOkB ps ws = true then ws else []) ∧ Below w.heap.size w w' := by
  obtain ⟨F, hF⟩ : ∃ F, F = false := ⟨_, rfl⟩
  obtain ⟨PS, hPS⟩ : ∃ PS, PS = if chipOkB ps ws = true then ps else [] := ⟨_, rfl⟩
  obtain ⟨WS, hWS⟩ : ∃ WS, WS = if chipOkB ps ws = true then ws else [] := ⟨_, rfl⟩
  obtain ⟨W, hW⟩ : ∃ W, W = ((w.alloc (Obj.cells #[.slice a ps.length c, .slice b ws.length d] 32)).alloc (Obj.cells #[.int .i64 kind, .int .i64 at_, .string text] 71)).alloc (Obj.cells #[.slice none 0 0, .slice none 0 0] 32) := ⟨_, rfl⟩
  have hbW : Below w.heap.size w W := by subst hW; exact (((Below.refl _ _).alloc (Nat.le_refl _) _).alloc (by simp) _).alloc (by simp; omega) _
  have cW : W.cell? ⟨w.heap.size + 1 + 1, 0, none⟩ = some (.slice none 0 0) ∧ W.cell? ⟨w.heap.size + 1 + 1, 1, none⟩ = some (.slice none 0 0) ∧ W.frozen? ⟨w.heap.size + 1 + 1, 0, none⟩ = false ∧ W.frozen? ⟨w.heap.size + 1 + 1, 1, none⟩ = false ∧ w.heap.size + 1 + 1 < W.heap.size := by
    subst hW; refine ⟨?_, ?_, ?_, ?_, ?_⟩ <;> simp [go_sem]
  have HC := hide (actNone_fn a b ps ws c d W (hp.below hbW) (hw.below hbW) hl hm hs)
  rw [← hF, ← hPS, ← hWS] at HC
  rw [← hF, ← hPS, ← hWS]
  clear hF hPS hWS
  go_enter Tryz.func138, Tryz.ntmps138
  go_wp2_with fail
  rw [← hW]
  clear hW
  refine HC.out.mono ?_
  rintro e w1 ⟨v, rfl, hown, hb1⟩
  obtain ⟨a1, k1, b1, l1, rfl, -⟩ := own_open hown
  have j1 := (hb1.cell (p := ⟨w.heap.size + 1 + 1, 0, none⟩) (by show _ < _; exact cW.2.2.2.2)).trans cW.1
  have j2 := (hb1.cell (p := ⟨w.heap.size + 1 + 1, 1, none⟩) (by show _ < _; exact cW.2.2.2.2)).trans cW.2.1
  have f1 := (hb1.frozen (p := ⟨w.heap.size + 1 + 1, 0, none⟩) (by show _ < _; exact cW.2.2.2.2)).trans cW.2.2.1
  have f2 := (hb1.frozen (p := ⟨w.heap.size + 1 + 1, 1, none⟩) (by show _ < _; exact cW.2.2.2.2)).trans cW.2.2.2.1
  have hbw1 := after hbW hb1
  have hlt := cW.2.2.2.2
  have HOWN := hide hown
  clear hb1 hbW cW hp hw hs hown HC
  go_wp2
  refine bodyPost_ret (v := .tuple #[.agg #[.slice a1 PS.length k1, .slice b1 WS.length l1], .bool F]) (by simp [results, Tryz.results138, go_sem, j1, j2]) rfl ⟨.agg #[.slice a1 PS.length k1, .slice b1 WS.length l1], rfl, ?_, (hbw1.setCell (by show _ ≤ _; simp; omega) _).setCell (by show _ ≤ _; simp; omega) _⟩
  exact own_mono (own_set (own_set HOWN.out (show w.heap.size + 1 + 1 < W.heap.size by omega) _) (show w.heap.size + 1 + 1 < W.heap.size by omega) _) (show w.heap.size ≤ W.heap.size by omega)

set_option maxHeartbeats 1600000 in
theorem doer2_any (a b : Option Addr) (ps : List ByteArray) (ws : List Int) (c d : Nat) (kind at_ : Int) (text : ByteArray) (w : World) (hp : Rd w a (vsString ps)) (hw : Rd w b (vsInt ws)) (hl : ps.length ≤ 1048576) (hm : ws.length ≤ 1048576) (hs : ∀ s ∈ ps, s.size ≤ 1048576) (ht : text.size ≤ 1048576) :
    Calls Tryz.prog 141 #[.agg #[.slice a ps.length c, .slice b ws.length d], .agg #[.int .i64 kind, .int .i64 at_, .string text]] w fun e w' => ∃ v, e = .returned (.tuple #[v, .bool (burnF ps ws at_ text)]) ∧ ChipOwn w' w.heap.size v (burnP ps ws at_ text) (burnW ps ws) ∧ Below w.heap.size w w' := by
  obtain ⟨F, hF⟩ : ∃ F, F = burnF ps ws at_ text := ⟨_, rfl⟩
  obtain ⟨PS, hPS⟩ : ∃ PS, PS = burnP ps ws at_ text := ⟨_, rfl⟩
  obtain ⟨WS, hWS⟩ : ∃ WS, WS = burnW ps ws := ⟨_, rfl⟩
  obtain ⟨W, hW⟩ : ∃ W, W = ((w.alloc (Obj.cells #[.slice a ps.length c, .slice b ws.length d] 32)).alloc (Obj.cells #[.int .i64 kind, .int .i64 at_, .string text] 71)).alloc (Obj.cells #[.slice none 0 0, .slice none 0 0] 32) := ⟨_, rfl⟩
  have hbW : Below w.heap.size w W := by subst hW; exact (((Below.refl _ _).alloc (Nat.le_refl _) _).alloc (by simp) _).alloc (by simp; omega) _
  have cW : W.cell? ⟨w.heap.size + 1 + 1, 0, none⟩ = some (.slice none 0 0) ∧ W.cell? ⟨w.heap.size + 1 + 1, 1, none⟩ = some (.slice none 0 0) ∧ W.frozen? ⟨w.heap.size + 1 + 1, 0, none⟩ = false ∧ W.frozen? ⟨w.heap.size + 1 + 1, 1, none⟩ = false ∧ w.heap.size + 1 + 1 < W.heap.size := by
    subst hW; refine ⟨?_, ?_, ?_, ?_, ?_⟩ <;> simp [go_sem]
  have HC := hide (implBurn_fn a b ps ws c d at_ text W (hp.below hbW) (hw.below hbW) hl hm hs ht)
  rw [← hF, ← hPS, ← hWS] at HC
  rw [← hF, ← hPS, ← hWS]
  clear hF hPS hWS
  go_enter Tryz.func141, Tryz.ntmps141
  go_wp2_with fail
  rw [← hW]
  clear hW
  refine HC.out.mono ?_
  rintro e w1 ⟨v, rfl, hown, hb1⟩
  obtain ⟨a1, k1, b1, l1, rfl, -⟩ := own_open hown
  have j1 := (hb1.cell (p := ⟨w.heap.size + 1 + 1, 0, none⟩) (by show _ < _; exact cW.2.2.2.2)).trans cW.1
  have j2 := (hb1.cell (p := ⟨w.heap.size + 1 + 1, 1, none⟩) (by show _ < _; exact cW.2.2.2.2)).trans cW.2.1
  have f1 := (hb1.frozen (p := ⟨w.heap.size + 1 + 1, 0, none⟩) (by show _ < _; exact cW.2.2.2.2)).trans cW.2.2.1
  have f2 := (hb1.frozen (p := ⟨w.heap.size + 1 + 1, 1, none⟩) (by show _ < _; exact cW.2.2.2.2)).trans cW.2.2.2.1
  have hbw1 := after hbW hb1
  have hlt := cW.2.2.2.2
  have HOWN := hide hown
  clear hb1 hbW cW hp hw hs hown HC
  go_wp2
  refine bodyPost_ret (v := .tuple #[.agg #[.slice a1 PS.length k1, .slice b1 WS.length l1], .bool F]) (by simp [results, Tryz.results141, go_sem, j1, j2]) rfl ⟨.agg #[.slice a1 PS.length k1, .slice b1 WS.length l1], rfl, ?_, (hbw1.setCell (by show _ ≤ _; simp; omega) _).setCell (by show _ ≤ _; simp; omega) _⟩
  exact own_mono (own_set (own_set HOWN.out (show w.heap.size + 1 + 1 < W.heap.size by omega) _) (show w.heap.size + 1 + 1 < W.heap.size by omega) _) (show w.heap.size ≤ W.heap.size by omega)

set_option maxHeartbeats 1600000 in
theorem doer3_any (a b : Option Addr) (ps : List ByteArray) (ws : List Int) (c d : Nat) (kind at_ : Int) (text : ByteArray) (w : World) (hp : Rd w a (vsString ps)) (hw : Rd w b (vsInt ws)) (hl : ps.length ≤ 1048576) (hm : ws.length ≤ 1048576) (hs : ∀ s ∈ ps, s.size ≤ 1048576) :
    Calls Tryz.prog 143 #[.agg #[.slice a ps.length c, .slice b ws.length d], .agg #[.int .i64 kind, .int .i64 at_, .string text]] w fun e w' => ∃ v, e = .returned (.tuple #[v, .bool (clearF ps ws at_)]) ∧ ChipOwn w' w.heap.size v (clearP ps ws at_) (clearW ps ws at_) ∧ Below w.heap.size w w' := by
  obtain ⟨F, hF⟩ : ∃ F, F = clearF ps ws at_ := ⟨_, rfl⟩
  obtain ⟨PS, hPS⟩ : ∃ PS, PS = clearP ps ws at_ := ⟨_, rfl⟩
  obtain ⟨WS, hWS⟩ : ∃ WS, WS = clearW ps ws at_ := ⟨_, rfl⟩
  obtain ⟨W, hW⟩ : ∃ W, W = ((w.alloc (Obj.cells #[.slice a ps.length c, .slice b ws.length d] 32)).alloc (Obj.cells #[.int .i64 kind, .int .i64 at_, .string text] 71)).alloc (Obj.cells #[.slice none 0 0, .slice none 0 0] 32) := ⟨_, rfl⟩
  have hbW : Below w.heap.size w W := by subst hW; exact (((Below.refl _ _).alloc (Nat.le_refl _) _).alloc (by simp) _).alloc (by simp; omega) _
  have cW : W.cell? ⟨w.heap.size + 1 + 1, 0, none⟩ = some (.slice none 0 0) ∧ W.cell? ⟨w.heap.size + 1 + 1, 1, none⟩ = some (.slice none 0 0) ∧ W.frozen? ⟨w.heap.size + 1 + 1, 0, none⟩ = false ∧ W.frozen? ⟨w.heap.size + 1 + 1, 1, none⟩ = false ∧ w.heap.size + 1 + 1 < W.heap.size := by
    subst hW; refine ⟨?_, ?_, ?_, ?_, ?_⟩ <;> simp [go_sem]
  have HC := hide (implClear_fn a b ps ws c d at_ W (hp.below hbW) (hw.below hbW) hl hm hs)
  rw [← hF, ← hPS, ← hWS] at HC
  rw [← hF, ← hPS, ← hWS]
  clear hF hPS hWS
  go_enter Tryz.func143, Tryz.ntmps143
  go_wp2_with fail
  rw [← hW]
  clear hW
  refine HC.out.mono ?_
  rintro e w1 ⟨v, rfl, hown, hb1⟩
  obtain ⟨a1, k1, b1, l1, rfl, -⟩ := own_open hown
  have j1 := (hb1.cell (p := ⟨w.heap.size + 1 + 1, 0, none⟩) (by show _ < _; exact cW.2.2.2.2)).trans cW.1
  have j2 := (hb1.cell (p := ⟨w.heap.size + 1 + 1, 1, none⟩) (by show _ < _; exact cW.2.2.2.2)).trans cW.2.1
  have f1 := (hb1.frozen (p := ⟨w.heap.size + 1 + 1, 0, none⟩) (by show _ < _; exact cW.2.2.2.2)).trans cW.2.2.1
  have f2 := (hb1.frozen (p := ⟨w.heap.size + 1 + 1, 1, none⟩) (by show _ < _; exact cW.2.2.2.2)).trans cW.2.2.2.1
  have hbw1 := after hbW hb1
  have hlt := cW.2.2.2.2
  have HOWN := hide hown
  clear hb1 hbW cW hp hw hs hown HC
  go_wp2
  refine bodyPost_ret (v := .tuple #[.agg #[.slice a1 PS.length k1, .slice b1 WS.length l1], .bool F]) (by simp [results, Tryz.results143, go_sem, j1, j2]) rfl ⟨.agg #[.slice a1 PS.length k1, .slice b1 WS.length l1], rfl, ?_, (hbw1.setCell (by show _ ≤ _; simp; omega) _).setCell (by show _ ≤ _; simp; omega) _⟩
  exact own_mono (own_set (own_set HOWN.out (show w.heap.size + 1 + 1 < W.heap.size by omega) _) (show w.heap.size + 1 + 1 < W.heap.size by omega) _) (show w.heap.size ≤ W.heap.size by omega)

set_option maxHeartbeats 800000 in
theorem doerOf_one (w : World) : Calls Tryz.prog 137 #[.int .i64 1] w fun e w' => e = .returned (.func (.func 141) #[] #[]) ∧ Below w.heap.size w w' := by
  go_enter Tryz.func137, Tryz.ntmps137
  go_wp2
  go_ret
  exact ⟨rfl, (Below.refl _ _).alloc (Nat.le_refl _) _⟩
set_option maxHeartbeats 800000 in
theorem doerOf_two (w : World) : Calls Tryz.prog 137 #[.int .i64 2] w fun e w' => e = .returned (.func (.func 143) #[] #[]) ∧ Below w.heap.size w w' := by
  go_enter Tryz.func137, Tryz.ntmps137
  go_wp2
  go_ret
  exact ⟨rfl, (Below.refl _ _).alloc (Nat.le_refl _) _⟩
set_option maxHeartbeats 800000 in
theorem doerOf_other (kind : Int) (w : World) (h1 : kind ≠ 1) (h2 : kind ≠ 2) : Calls Tryz.prog 137 #[.int .i64 kind] w fun e w' => e = .returned (.func (.func 138) #[] #[]) ∧ Below w.heap.size w w' := by
  by_cases h0 : kind < 0
  · clear h1 h2
    go_enter Tryz.func137, Tryz.ntmps137
    go_wp2
    go_ret
    exact ⟨rfl, (Below.refl _ _).alloc (Nat.le_refl _) _⟩
  · by_cases h3 : 3 ≤ kind
    · clear h1 h2
      go_enter Tryz.func137, Tryz.ntmps137
      go_wp2
      go_ret
      exact ⟨rfl, (Below.refl _ _).alloc (Nat.le_refl _) _⟩
    · obtain rfl : kind = 0 := by omega
      clear h1 h2 h0 h3
      go_enter Tryz.func137, Tryz.ntmps137
      go_wp2
      go_ret
      exact ⟨rfl, (Below.refl _ _).alloc (Nat.le_refl _) _⟩

set_option maxHeartbeats 3200000 in
theorem applyAt1 (F : Bool) (PS : List ByteArray) (WS : List Int) (a b : Option Addr) (ps : List ByteArray) (ws : List Int) (c d : Nat) (kind at_ : Int) (text : ByteArray) (w : World) (hp : Rd w a (vsString ps)) (hw : Rd w b (vsInt ws))
    (hdo : ∀ u, Calls Tryz.prog 137 #[.int .i64 kind] u fun e w' => e = .returned (.func (.func 138) #[] #[]) ∧ Below u.heap.size u w')
    (hact : ∀ u, Rd u a (vsString ps) → Rd u b (vsInt ws) → Calls Tryz.prog 138 #[.agg #[.slice a ps.length c, .slice b ws.length d], .agg #[.int .i64 kind, .int .i64 at_, .string text]] u fun e w' => ∃ v, e = .returned (.tuple #[v, .bool F]) ∧ ChipOwn w' u.heap.size v PS WS ∧ Below u.heap.size u w') :
    Calls Tryz.prog 134 #[.agg #[.slice a ps.length c, .slice b ws.length d], .agg #[.int .i64 kind, .int .i64 at_, .string text]] w fun e w' => ∃ v, e = .returned (.tuple #[v, .bool F]) ∧ ChipOwn w' w.heap.size v PS WS ∧ Below w.heap.size w w' := by
  obtain ⟨W, hW⟩ : ∃ W, W = ((w.alloc (Obj.cells #[.slice a ps.length c, .slice b ws.length d] 32)).alloc (Obj.cells #[.int .i64 kind, .int .i64 at_, .string text] 71)).alloc (Obj.cells #[.slice none 0 0, .slice none 0 0] 32) := ⟨_, rfl⟩
  have hbW : Below w.heap.size w W := by subst hW; exact (((Below.refl _ _).alloc (Nat.le_refl _) _).alloc (by simp) _).alloc (by simp; omega) _
  have hsW : W.heap.size = w.heap.size + 1 + 1 + 1 := by subst hW; simp
  have x0 : W.cell? ⟨w.heap.size, 0, none⟩ = some (.slice a ps.length c) := by subst hW; simp [go_sem]
  have x1 : W.cell? ⟨w.heap.size, 1, none⟩ = some (.slice b ws.length d) := by subst hW; simp [go_sem]
  have x2 : W.cell? ⟨w.heap.size + 1, 0, none⟩ = some (.int .i64 kind) := by subst hW; simp [go_sem]
  have x3 : W.cell? ⟨w.heap.size + 1, 1, none⟩ = some (.int .i64 at_) := by subst hW; simp [go_sem]
  have x4 : W.cell? ⟨w.heap.size + 1, 2, none⟩ = some (.string text) := by subst hW; simp [go_sem]
  have x5 : W.cell? ⟨w.heap.size + 1 + 1, 0, none⟩ = some (.slice none 0 0) := by subst hW; simp [go_sem]
  have x6 : W.cell? ⟨w.heap.size + 1 + 1, 1, none⟩ = some (.slice none 0 0) := by subst hW; simp [go_sem]
  have y5 : W.frozen? ⟨w.heap.size + 1 + 1, 0, none⟩ = false := by subst hW; simp [go_sem]
  have y6 : W.frozen? ⟨w.heap.size + 1 + 1, 1, none⟩ = false := by subst hW; simp [go_sem]
  have HK : Hid (∀ u, Below W.heap.size W.drew u → (u.cell? ⟨w.heap.size, 0, none⟩ = some (.slice a ps.length c) ∧ u.cell? ⟨w.heap.size, 1, none⟩ = some (.slice b ws.length d) ∧ u.cell? ⟨w.heap.size + 1, 0, none⟩ = some (.int .i64 kind) ∧ u.cell? ⟨w.heap.size + 1, 1, none⟩ = some (.int .i64 at_) ∧ u.cell? ⟨w.heap.size + 1, 2, none⟩ = some (.string text)) ∧ u.cell? ⟨w.heap.size + 1 + 1, 0, none⟩ = some (.slice none 0 0) ∧ u.cell? ⟨w.heap.size + 1 + 1, 1, none⟩ = some (.slice none 0 0) ∧ u.frozen? ⟨w.heap.size + 1 + 1, 0, none⟩ = false ∧ u.frozen? ⟨w.heap.size + 1 + 1, 1, none⟩ = false) := fun u hu =>
    ⟨⟨(hu.cell (p := ⟨w.heap.size, 0, none⟩) (by show w.heap.size < _; omega)).trans (by simpa using x0), (hu.cell (p := ⟨w.heap.size, 1, none⟩) (by show w.heap.size < _; omega)).trans (by simpa using x1), (hu.cell (p := ⟨w.heap.size + 1, 0, none⟩) (by show w.heap.size + 1 < _; omega)).trans (by simpa using x2), (hu.cell (p := ⟨w.heap.size + 1, 1, none⟩) (by show w.heap.size + 1 < _; omega)).trans (by simpa using x3), (hu.cell (p := ⟨w.heap.size + 1, 2, none⟩) (by show w.heap.size + 1 < _; omega)).trans (by simpa using x4)⟩,
      (hu.cell (p := ⟨w.heap.size + 1 + 1, 0, none⟩) (by show w.heap.size + 1 + 1 < _; omega)).trans (by simpa using x5), (hu.cell (p := ⟨w.heap.size + 1 + 1, 1, none⟩) (by show w.heap.size + 1 + 1 < _; omega)).trans (by simpa using x6), (hu.frozen (p := ⟨w.heap.size + 1 + 1, 0, none⟩) (by show w.heap.size + 1 + 1 < _; omega)).trans (by simpa using y5), (hu.frozen (p := ⟨w.heap.size + 1 + 1, 1, none⟩) (by show w.heap.size + 1 + 1 < _; omega)).trans (by simpa using y6)⟩
  have HDO := hide hdo
  have HACT : Hid (∀ u, Below W.heap.size W.drew u → Calls Tryz.prog 138 #[.agg #[.slice a ps.length c, .slice b ws.length d], .agg #[.int .i64 kind, .int .i64 at_, .string text]] u fun e w' => ∃ v, e = .returned (.tuple #[v, .bool F]) ∧ ChipOwn w' u.heap.size v PS WS ∧ Below u.heap.size u w') := fun u hu =>
    hact u (hp.below ((after_drew hbW 1).trans (hu.mono hbW.size))) (hw.below ((after_drew hbW 1).trans (hu.mono hbW.size)))
  have HB := hide hbW
  have m1 : w.heap.size + 1 + 1 ≠ w.heap.size := by omega
  have m2 : w.heap.size + 1 + 1 ≠ w.heap.size + 1 := by omega
  clear hp hw hdo hact hbW
  go_enter Tryz.func134, Tryz.ntmps134
  go_wp2_with (rw [← hW]; clear hW)
  go_region_held (fun w' => w'.cell? ⟨w.heap.size, 0, none⟩ = some (.slice a ps.length c) ∧ w'.cell? ⟨w.heap.size, 1, none⟩ = some (.slice b ws.length d) ∧ w'.cell? ⟨w.heap.size + 1, 0, none⟩ = some (.int .i64 kind) ∧ w'.cell? ⟨w.heap.size + 1, 1, none⟩ = some (.int .i64 at_) ∧ w'.cell? ⟨w.heap.size + 1, 2, none⟩ = some (.string text)) (first | assumption | go_keep | exact ⟨cell_other (cell_other hK2.1 m1) m1, cell_other (cell_other hK2.2.1 m1) m1, cell_other (cell_other hK2.2.2.1 m2) m2, cell_other (cell_other hK2.2.2.2.1 m2) m2, cell_other (cell_other hK2.2.2.2.2 m2) m2⟩)
    ((first
      | (go_at_call 137; refine (HDO.out W.drew).mono ?_; rintro e w1 ⟨rfl, hb1⟩; have hK1 := (HK.out w1 hb1).1; have HB1 : Hid (Below W.heap.size W.drew w1) := hb1; clear hb1)
      | (refine (HACT.out w1 HB1.out).mono ?_; rintro e w2 ⟨v, rfl, hown, hb2⟩; obtain ⟨a1, q1, b1, l1, rfl, -⟩ := own_open hown; have HB2 : Hid (Below W.heap.size W.drew w2) := HB1.out.trans (hb2.mono HB1.out.size); obtain ⟨hK2, k5, k6, g5, g6⟩ := HK.out w2 HB2.out; have HOWN : Hid (ChipOwn w2 w1.heap.size (.agg #[.slice a1 PS.length q1, .slice b1 WS.length l1]) PS WS) := hown; clear hb2 hown)))
  have HSZ : Hid (w.heap.size ≤ W.heap.size ∧ W.heap.size ≤ w1.heap.size) := ⟨HB.out.size, HB1.out.size⟩
  have HBW : Hid (Below w.heap.size w w2) := (after_drew HB.out 1).trans (HB2.out.mono HB.out.size)
  clear hK1 hK2 HK HDO HACT HB HB1 HB2 x0 x1 x2 x3 x4 x5 x6 y5 y6
  go_wp2
  have hz := HSZ.out
  refine bodyPost_ret (v := .tuple #[.agg #[.slice a1 PS.length q1, .slice b1 WS.length l1], .bool F]) (by simp [results, Tryz.results134, go_sem, k5, k6]) rfl ⟨.agg #[.slice a1 PS.length q1, .slice b1 WS.length l1], rfl, ?_, (HBW.out.setCell (by show _ ≤ _; simp; omega) _).setCell (by show _ ≤ _; simp; omega) _⟩
  exact own_mono (own_set (own_set HOWN.out (show w.heap.size + 1 + 1 < w1.heap.size by omega) _) (show w.heap.size + 1 + 1 < w1.heap.size by omega) _) (show w.heap.size ≤ w1.heap.size by omega)

set_option maxHeartbeats 3200000 in
theorem applyAt2 (F : Bool) (PS : List ByteArray) (WS : List Int) (a b : Option Addr) (ps : List ByteArray) (ws : List Int) (c d : Nat) (kind at_ : Int) (text : ByteArray) (w : World) (hp : Rd w a (vsString ps)) (hw : Rd w b (vsInt ws))
    (hdo : ∀ u, Calls Tryz.prog 137 #[.int .i64 kind] u fun e w' => e = .returned (.func (.func 141) #[] #[]) ∧ Below u.heap.size u w')
    (hact : ∀ u, Rd u a (vsString ps) → Rd u b (vsInt ws) → Calls Tryz.prog 141 #[.agg #[.slice a ps.length c, .slice b ws.length d], .agg #[.int .i64 kind, .int .i64 at_, .string text]] u fun e w' => ∃ v, e = .returned (.tuple #[v, .bool F]) ∧ ChipOwn w' u.heap.size v PS WS ∧ Below u.heap.size u w') :
    Calls Tryz.prog 134 #[.agg #[.slice a ps.length c, .slice b ws.length d], .agg #[.int .i64 kind, .int .i64 at_, .string text]] w fun e w' => ∃ v, e = .returned (.tuple #[v, .bool F]) ∧ ChipOwn w' w.heap.size v PS WS ∧ Below w.heap.size w w' := by
  obtain ⟨W, hW⟩ : ∃ W, W = ((w.alloc (Obj.cells #[.slice a ps.length c, .slice b ws.length d] 32)).alloc (Obj.cells #[.int .i64 kind, .int .i64 at_, .string text] 71)).alloc (Obj.cells #[.slice none 0 0, .slice none 0 0] 32) := ⟨_, rfl⟩
  have hbW : Below w.heap.size w W := by subst hW; exact (((Below.refl _ _).alloc (Nat.le_refl _) _).alloc (by simp) _).alloc (by simp; omega) _
  have hsW : W.heap.size = w.heap.size + 1 + 1 + 1 := by subst hW; simp
  have x0 : W.cell? ⟨w.heap.size, 0, none⟩ = some (.slice a ps.length c) := by subst hW; simp [go_sem]
  have x1 : W.cell? ⟨w.heap.size, 1, none⟩ = some (.slice b ws.length d) := by subst hW; simp [go_sem]
  have x2 : W.cell? ⟨w.heap.size + 1, 0, none⟩ = some (.int .i64 kind) := by subst hW; simp [go_sem]
  have x3 : W.cell? ⟨w.heap.size + 1, 1, none⟩ = some (.int .i64 at_) := by subst hW; simp [go_sem]
  have x4 : W.cell? ⟨w.heap.size + 1, 2, none⟩ = some (.string text) := by subst hW; simp [go_sem]
  have x5 : W.cell? ⟨w.heap.size + 1 + 1, 0, none⟩ = some (.slice none 0 0) := by subst hW; simp [go_sem]
  have x6 : W.cell? ⟨w.heap.size + 1 + 1, 1, none⟩ = some (.slice none 0 0) := by subst hW; simp [go_sem]
  have y5 : W.frozen? ⟨w.heap.size + 1 + 1, 0, none⟩ = false := by subst hW; simp [go_sem]
  have y6 : W.frozen? ⟨w.heap.size + 1 + 1, 1, none⟩ = false := by subst hW; simp [go_sem]
  have HK : Hid (∀ u, Below W.heap.size W.drew u → (u.cell? ⟨w.heap.size, 0, none⟩ = some (.slice a ps.length c) ∧ u.cell? ⟨w.heap.size, 1, none⟩ = some (.slice b ws.length d) ∧ u.cell? ⟨w.heap.size + 1, 0, none⟩ = some (.int .i64 kind) ∧ u.cell? ⟨w.heap.size + 1, 1, none⟩ = some (.int .i64 at_) ∧ u.cell? ⟨w.heap.size + 1, 2, none⟩ = some (.string text)) ∧ u.cell? ⟨w.heap.size + 1 + 1, 0, none⟩ = some (.slice none 0 0) ∧ u.cell? ⟨w.heap.size + 1 + 1, 1, none⟩ = some (.slice none 0 0) ∧ u.frozen? ⟨w.heap.size + 1 + 1, 0, none⟩ = false ∧ u.frozen? ⟨w.heap.size + 1 + 1, 1, none⟩ = false) := fun u hu =>
    ⟨⟨(hu.cell (p := ⟨w.heap.size, 0, none⟩) (by show w.heap.size < _; omega)).trans (by simpa using x0), (hu.cell (p := ⟨w.heap.size, 1, none⟩) (by show w.heap.size < _; omega)).trans (by simpa using x1), (hu.cell (p := ⟨w.heap.size + 1, 0, none⟩) (by show w.heap.size + 1 < _; omega)).trans (by simpa using x2), (hu.cell (p := ⟨w.heap.size + 1, 1, none⟩) (by show w.heap.size + 1 < _; omega)).trans (by simpa using x3), (hu.cell (p := ⟨w.heap.size + 1, 2, none⟩) (by show w.heap.size + 1 < _; omega)).trans (by simpa using x4)⟩,
      (hu.cell (p := ⟨w.heap.size + 1 + 1, 0, none⟩) (by show w.heap.size + 1 + 1 < _; omega)).trans (by simpa using x5), (hu.cell (p := ⟨w.heap.size + 1 + 1, 1, none⟩) (by show w.heap.size + 1 + 1 < _; omega)).trans (by simpa using x6), (hu.frozen (p := ⟨w.heap.size + 1 + 1, 0, none⟩) (by show w.heap.size + 1 + 1 < _; omega)).trans (by simpa using y5), (hu.frozen (p := ⟨w.heap.size + 1 + 1, 1, none⟩) (by show w.heap.size + 1 + 1 < _; omega)).trans (by simpa using y6)⟩
  have HDO := hide hdo
  have HACT : Hid (∀ u, Below W.heap.size W.drew u → Calls Tryz.prog 141 #[.agg #[.slice a ps.length c, .slice b ws.length d], .agg #[.int .i64 kind, .int .i64 at_, .string text]] u fun e w' => ∃ v, e = .returned (.tuple #[v, .bool F]) ∧ ChipOwn w' u.heap.size v PS WS ∧ Below u.heap.size u w') := fun u hu =>
    hact u (hp.below ((after_drew hbW 1).trans (hu.mono hbW.size))) (hw.below ((after_drew hbW 1).trans (hu.mono hbW.size)))
  have HB := hide hbW
  have m1 : w.heap.size + 1 + 1 ≠ w.heap.size := by omega
  have m2 : w.heap.size + 1 + 1 ≠ w.heap.size + 1 := by omega
  clear hp hw hdo hact hbW
  go_enter Tryz.func134, Tryz.ntmps134
  go_wp2_with (rw [← hW]; clear hW)
  go_region_held (fun w' => w'.cell? ⟨w.heap.size, 0, none⟩ = some (.slice a ps.length c) ∧ w'.cell? ⟨w.heap.size, 1, none⟩ = some (.slice b ws.length d) ∧ w'.cell? ⟨w.heap.size + 1, 0, none⟩ = some (.int .i64 kind) ∧ w'.cell? ⟨w.heap.size + 1, 1, none⟩ = some (.int .i64 at_) ∧ w'.cell? ⟨w.heap.size + 1, 2, none⟩ = some (.string text)) (first | assumption | go_keep | exact ⟨cell_other (cell_other hK2.1 m1) m1, cell_other (cell_other hK2.2.1 m1) m1, cell_other (cell_other hK2.2.2.1 m2) m2, cell_other (cell_other hK2.2.2.2.1 m2) m2, cell_other (cell_other hK2.2.2.2.2 m2) m2⟩)
    ((first
      | (go_at_call 137; refine (HDO.out W.drew).mono ?_; rintro e w1 ⟨rfl, hb1⟩; have hK1 := (HK.out w1 hb1).1; have HB1 : Hid (Below W.heap.size W.drew w1) := hb1; clear hb1)
      | (refine (HACT.out w1 HB1.out).mono ?_; rintro e w2 ⟨v, rfl, hown, hb2⟩; obtain ⟨a1, q1, b1, l1, rfl, -⟩ := own_open hown; have HB2 : Hid (Below W.heap.size W.drew w2) := HB1.out.trans (hb2.mono HB1.out.size); obtain ⟨hK2, k5, k6, g5, g6⟩ := HK.out w2 HB2.out; have HOWN : Hid (ChipOwn w2 w1.heap.size (.agg #[.slice a1 PS.length q1, .slice b1 WS.length l1]) PS WS) := hown; clear hb2 hown)))
  have HSZ : Hid (w.heap.size ≤ W.heap.size ∧ W.heap.size ≤ w1.heap.size) := ⟨HB.out.size, HB1.out.size⟩
  have HBW : Hid (Below w.heap.size w w2) := (after_drew HB.out 1).trans (HB2.out.mono HB.out.size)
  clear hK1 hK2 HK HDO HACT HB HB1 HB2 x0 x1 x2 x3 x4 x5 x6 y5 y6
  go_wp2
  have hz := HSZ.out
  refine bodyPost_ret (v := .tuple #[.agg #[.slice a1 PS.length q1, .slice b1 WS.length l1], .bool F]) (by simp [results, Tryz.results134, go_sem, k5, k6]) rfl ⟨.agg #[.slice a1 PS.length q1, .slice b1 WS.length l1], rfl, ?_, (HBW.out.setCell (by show _ ≤ _; simp; omega) _).setCell (by show _ ≤ _; simp; omega) _⟩
  exact own_mono (own_set (own_set HOWN.out (show w.heap.size + 1 + 1 < w1.heap.size by omega) _) (show w.heap.size + 1 + 1 < w1.heap.size by omega) _) (show w.heap.size ≤ w1.heap.size by omega)

set_option maxHeartbeats 3200000 in
theorem applyAt3 (F : Bool) (PS : List ByteArray) (WS : List Int) (a b : Option Addr) (ps : List ByteArray) (ws : List Int) (c d : Nat) (kind at_ : Int) (text : ByteArray) (w : World) (hp : Rd w a (vsString ps)) (hw : Rd w b (vsInt ws))
    (hdo : ∀ u, Calls Tryz.prog 137 #[.int .i64 kind] u fun e w' => e = .returned (.func (.func 143) #[] #[]) ∧ Below u.heap.size u w')
    (hact : ∀ u, Rd u a (vsString ps) → Rd u b (vsInt ws) → Calls Tryz.prog 143 #[.agg #[.slice a ps.length c, .slice b ws.length d], .agg #[.int .i64 kind, .int .i64 at_, .string text]] u fun e w' => ∃ v, e = .returned (.tuple #[v, .bool F]) ∧ ChipOwn w' u.heap.size v PS WS ∧ Below u.heap.size u w') :
    Calls Tryz.prog 134 #[.agg #[.slice a ps.length c, .slice b ws.length d], .agg #[.int .i64 kind, .int .i64 at_, .string text]] w fun e w' => ∃ v, e = .returned (.tuple #[v, .bool F]) ∧ ChipOwn w' w.heap.size v PS WS ∧ Below w.heap.size w w' := by
  obtain ⟨W, hW⟩ : ∃ W, W = ((w.alloc (Obj.cells #[.slice a ps.length c, .slice b ws.length d] 32)).alloc (Obj.cells #[.int .i64 kind, .int .i64 at_, .string text] 71)).alloc (Obj.cells #[.slice none 0 0, .slice none 0 0] 32) := ⟨_, rfl⟩
  have hbW : Below w.heap.size w W := by subst hW; exact (((Below.refl _ _).alloc (Nat.le_refl _) _).alloc (by simp) _).alloc (by simp; omega) _
  have hsW : W.heap.size = w.heap.size + 1 + 1 + 1 := by subst hW; simp
  have x0 : W.cell? ⟨w.heap.size, 0, none⟩ = some (.slice a ps.length c) := by subst hW; simp [go_sem]
  have x1 : W.cell? ⟨w.heap.size, 1, none⟩ = some (.slice b ws.length d) := by subst hW; simp [go_sem]
  have x2 : W.cell? ⟨w.heap.size + 1, 0, none⟩ = some (.int .i64 kind) := by subst hW; simp [go_sem]
  have x3 : W.cell? ⟨w.heap.size + 1, 1, none⟩ = some (.int .i64 at_) := by subst hW; simp [go_sem]
  have x4 : W.cell? ⟨w.heap.size + 1, 2, none⟩ = some (.string text) := by subst hW; simp [go_sem]
  have x5 : W.cell? ⟨w.heap.size + 1 + 1, 0, none⟩ = some (.slice none 0 0) := by subst hW; simp [go_sem]
  have x6 : W.cell? ⟨w.heap.size + 1 + 1, 1, none⟩ = some (.slice none 0 0) := by subst hW; simp [go_sem]
  have y5 : W.frozen? ⟨w.heap.size + 1 + 1, 0, none⟩ = false := by subst hW; simp [go_sem]
  have y6 : W.frozen? ⟨w.heap.size + 1 + 1, 1, none⟩ = false := by subst hW; simp [go_sem]
  have HK : Hid (∀ u, Below W.heap.size W.drew u → (u.cell? ⟨w.heap.size, 0, none⟩ = some (.slice a ps.length c) ∧ u.cell? ⟨w.heap.size, 1, none⟩ = some (.slice b ws.length d) ∧ u.cell? ⟨w.heap.size + 1, 0, none⟩ = some (.int .i64 kind) ∧ u.cell? ⟨w.heap.size + 1, 1, none⟩ = some (.int .i64 at_) ∧ u.cell? ⟨w.heap.size + 1, 2, none⟩ = some (.string text)) ∧ u.cell? ⟨w.heap.size + 1 + 1, 0, none⟩ = some (.slice none 0 0) ∧ u.cell? ⟨w.heap.size + 1 + 1, 1, none⟩ = some (.slice none 0 0) ∧ u.frozen? ⟨w.heap.size + 1 + 1, 0, none⟩ = false ∧ u.frozen? ⟨w.heap.size + 1 + 1, 1, none⟩ = false) := fun u hu =>
    ⟨⟨(hu.cell (p := ⟨w.heap.size, 0, none⟩) (by show w.heap.size < _; omega)).trans (by simpa using x0), (hu.cell (p := ⟨w.heap.size, 1, none⟩) (by show w.heap.size < _; omega)).trans (by simpa using x1), (hu.cell (p := ⟨w.heap.size + 1, 0, none⟩) (by show w.heap.size + 1 < _; omega)).trans (by simpa using x2), (hu.cell (p := ⟨w.heap.size + 1, 1, none⟩) (by show w.heap.size + 1 < _; omega)).trans (by simpa using x3), (hu.cell (p := ⟨w.heap.size + 1, 2, none⟩) (by show w.heap.size + 1 < _; omega)).trans (by simpa using x4)⟩,
      (hu.cell (p := ⟨w.heap.size + 1 + 1, 0, none⟩) (by show w.heap.size + 1 + 1 < _; omega)).trans (by simpa using x5), (hu.cell (p := ⟨w.heap.size + 1 + 1, 1, none⟩) (by show w.heap.size + 1 + 1 < _; omega)).trans (by simpa using x6), (hu.frozen (p := ⟨w.heap.size + 1 + 1, 0, none⟩) (by show w.heap.size + 1 + 1 < _; omega)).trans (by simpa using y5), (hu.frozen (p := ⟨w.heap.size + 1 + 1, 1, none⟩) (by show w.heap.size + 1 + 1 < _; omega)).trans (by simpa using y6)⟩
  have HDO := hide hdo
  have HACT : Hid (∀ u, Below W.heap.size W.drew u → Calls Tryz.prog 143 #[.agg #[.slice a ps.length c, .slice b ws.length d], .agg #[.int .i64 kind, .int .i64 at_, .string text]] u fun e w' => ∃ v, e = .returned (.tuple #[v, .bool F]) ∧ ChipOwn w' u.heap.size v PS WS ∧ Below u.heap.size u w') := fun u hu =>
    hact u (hp.below ((after_drew hbW 1).trans (hu.mono hbW.size))) (hw.below ((after_drew hbW 1).trans (hu.mono hbW.size)))
  have HB := hide hbW
  have m1 : w.heap.size + 1 + 1 ≠ w.heap.size := by omega
  have m2 : w.heap.size + 1 + 1 ≠ w.heap.size + 1 := by omega
  clear hp hw hdo hact hbW
  go_enter Tryz.func134, Tryz.ntmps134
  go_wp2_with (rw [← hW]; clear hW)
  go_region_held (fun w' => w'.cell? ⟨w.heap.size, 0, none⟩ = some (.slice a ps.length c) ∧ w'.cell? ⟨w.heap.size, 1, none⟩ = some (.slice b ws.length d) ∧ w'.cell? ⟨w.heap.size + 1, 0, none⟩ = some (.int .i64 kind) ∧ w'.cell? ⟨w.heap.size + 1, 1, none⟩ = some (.int .i64 at_) ∧ w'.cell? ⟨w.heap.size + 1, 2, none⟩ = some (.string text)) (first | assumption | go_keep | exact ⟨cell_other (cell_other hK2.1 m1) m1, cell_other (cell_other hK2.2.1 m1) m1, cell_other (cell_other hK2.2.2.1 m2) m2, cell_other (cell_other hK2.2.2.2.1 m2) m2, cell_other (cell_other hK2.2.2.2.2 m2) m2⟩)
    ((first
      | (go_at_call 137; refine (HDO.out W.drew).mono ?_; rintro e w1 ⟨rfl, hb1⟩; have hK1 := (HK.out w1 hb1).1; have HB1 : Hid (Below W.heap.size W.drew w1) := hb1; clear hb1)
      | (refine (HACT.out w1 HB1.out).mono ?_; rintro e w2 ⟨v, rfl, hown, hb2⟩; obtain ⟨a1, q1, b1, l1, rfl, -⟩ := own_open hown; have HB2 : Hid (Below W.heap.size W.drew w2) := HB1.out.trans (hb2.mono HB1.out.size); obtain ⟨hK2, k5, k6, g5, g6⟩ := HK.out w2 HB2.out; have HOWN : Hid (ChipOwn w2 w1.heap.size (.agg #[.slice a1 PS.length q1, .slice b1 WS.length l1]) PS WS) := hown; clear hb2 hown)))
  have HSZ : Hid (w.heap.size ≤ W.heap.size ∧ W.heap.size ≤ w1.heap.size) := ⟨HB.out.size, HB1.out.size⟩
  have HBW : Hid (Below w.heap.size w w2) := (after_drew HB.out 1).trans (HB2.out.mono HB.out.size)
  clear hK1 hK2 HK HDO HACT HB HB1 HB2 x0 x1 x2 x3 x4 x5 x6 y5 y6
  go_wp2
  have hz := HSZ.out
  refine bodyPost_ret (v := .tuple #[.agg #[.slice a1 PS.length q1, .slice b1 WS.length l1], .bool F]) (by simp [results, Tryz.results134, go_sem, k5, k6]) rfl ⟨.agg #[.slice a1 PS.length q1, .slice b1 WS.length l1], rfl, ?_, (HBW.out.setCell (by show _ ≤ _; simp; omega) _).setCell (by show _ ≤ _; simp; omega) _⟩
  exact own_mono (own_set (own_set HOWN.out (show w.heap.size + 1 + 1 < w1.heap.size by omega) _) (show w.heap.size + 1 + 1 < w1.heap.size by omega) _) (show w.heap.size ≤ w1.heap.size by omega)

theorem implApply_fn (a b : Option Addr) (ps : List ByteArray) (ws : List Int) (c d : Nat) (kind at_ : Int) (text : ByteArray) (w : World) (hp : Rd w a (vsString ps)) (hw : Rd w b (vsInt ws)) (hl : ps.length ≤ 1048576) (hm : ws.length ≤ 1048576) (hs : ∀ s ∈ ps, s.size ≤ 1048576) (ht : text.size ≤ 1048576) :
    Calls Tryz.prog 134 #[.agg #[.slice a ps.length c, .slice b ws.length d], .agg #[.int .i64 kind, .int .i64 at_, .string text]] w fun e w' => ∃ v, e = .returned (.tuple #[v, .bool (applyF ps ws kind at_ text)]) ∧ ChipOwn w' w.heap.size v (applyP ps ws kind at_ text) (applyW ps ws kind at_) ∧ Below w.heap.size w w' := by
  unfold applyF applyP applyW
  by_cases k1 : kind = 1
  · subst k1
    rw [if_pos rfl, if_pos rfl, if_pos rfl]
    exact applyAt2 _ _ _ a b ps ws c d 1 at_ text w hp hw (fun u => doerOf_one u) (fun u h1 h2 => doer2_any a b ps ws c d 1 at_ text u h1 h2 hl hm hs ht)
  · by_cases k2 : kind = 2
    · subst k2
      rw [if_neg k1, if_neg k1, if_neg k1, if_pos rfl, if_pos rfl, if_pos rfl]
      exact applyAt3 _ _ _ a b ps ws c d 2 at_ text w hp hw (fun u => doerOf_two u) (fun u h1 h2 => doer3_any a b ps ws c d 2 at_ text u h1 h2 hl hm hs)
    · rw [if_neg k1, if_neg k1, if_neg k1, if_neg k2, if_neg k2, if_neg k2]
      exact applyAt1 _ _ _ a b ps ws c d kind at_ text w hp hw (fun u => doerOf_other kind u k1 k2) (fun u h1 h2 => doer1_any a b ps ws c d kind at_ text u h1 h2 hl hm hs)

end Go.Proofs.YtdicjbabnknjhaaGreat
