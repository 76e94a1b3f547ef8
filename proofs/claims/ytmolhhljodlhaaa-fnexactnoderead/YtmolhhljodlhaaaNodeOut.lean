/-
  A node that is built in a variable: its names and numbers grow one by one.
-/
import Derived.Test.YtmolhhljodlhaaaKidKit
import Derived.Lib.OwnKind
namespace Go.Proofs.Ytmolhhljodlhaaa
open Go.RowKit Go.Deep
set_option maxRecDepth 100000
set_option linter.unusedVariables false

theorem kinds_apart {w : World} {base base' : Nat} {e e' : TypeId} {size size' : Nat} {v v' : Value} {n n' : Nat} {xs xs' : List Value} (h : w.ownsRow base e size v n xs) (h' : w.ownsRow base' e' size' v' n' xs') (hne : e ≠ e') (k : Nat) (hk : v.ownBlock = some k) : v'.ownBlock ≠ some k := by
  intro hb
  obtain ⟨c, fz, h1⟩ := Lib.ownsRow_kind h k hk
  obtain ⟨c', fz', h2⟩ := Lib.ownsRow_kind h' k hb
  rw [h1] at h2
  injection h2 with h2
  injection h2 with _ h2 _
  exact hne h2
/-- One value appended to a row of the call's own: what has grown is that row's block alone. -/
theorem wpList_append_one_g {P : Program} {w w0 : World} {ops : Array Oper} {rest : List Oper} {o : Oper} {a : Act} {Q : Exit → Act → World → Prop} (hgd : o.guard = none) (s x : Operand) (t : TypeId)
    (ho : o.op = .call { callee := .builtin .append, args := #[s, x], argTypes := #[t, t] })
    (base : Nat) (e : TypeId) (i : TypeInfo) (z : Value) (bytes : Nat) (ht : P.underlying t = some (.slice e)) (hi : P.info? e = some i) (hz : i.zero = some z)
    (hsize : i.size = 1) (hby : i.bytes = bytes) (hzs : z.cells.size = 1)
    (v : Value) (n : Nat) (xs : List Value) (u : Value) (hs : a.eval s = v) (hown : w0.ownsRow base e 1 v n xs) (h1 : u.oneCell' = true)
    (hx : a.eval x = .slice (some ⟨w0.heap.size, 0, none⟩) 1 1)
    (hbytes : (n + 1) * bytes ≤ 140737488355328) (hn : n ≤ 140737488355327) (hbase : base ≤ w0.heap.size)
    (hw : w = w0.alloc (.cells #[u] e)) (h : ∀ v' w', w'.ownsRow base e 1 v' (n + 1) (xs ++ [u]) → (w0.alloc (.cells #[u] e)).grownBy w' v.ownBlock → wpList P ops Q rest (a.put o.dst v') w') : wpList P ops Q (o :: rest) a w := by
  subst hw
  refine wpList_append_own _ hgd s x t ho base e i z 1 bytes ht hi hz hsize hby hzs (by decide) v n xs hs (hown.alloc _) ⟨w0.heap.size, 0, none⟩ 1 1 [u] hx rfl ?_ ?_ (by unfold maxLen; omega) hbytes (by simp; omega) ?_
  · intro j y hj
    match j, hj with
    | 0, hj => simp at hj; subst hj; simp [Addr.add]
  · intro y hy; simp at hy; subst hy; exact h1
  · intro v' w' h1 h2 _
    exact h v' w' h1 h2

/-- The same as one step of a region that draws its order. -/
theorem step_append_one_g {P : Program} {w w0 : World} {ops : Array Oper} {o : Oper} {a : Act} {K : Act → World → Prop} {Q : Exit → Act → World → Prop} {E : Prop} (hgd : o.guard = none) (s x : Operand) (t : TypeId)
    (ho : o.op = .call { callee := .builtin .append, args := #[s, x], argTypes := #[t, t] })
    (base : Nat) (e : TypeId) (i : TypeInfo) (z : Value) (bytes : Nat) (ht : P.underlying t = some (.slice e)) (hi : P.info? e = some i) (hz : i.zero = some z)
    (hsize : i.size = 1) (hby : i.bytes = bytes) (hzs : z.cells.size = 1)
    (v : Value) (n : Nat) (xs : List Value) (u : Value) (hs : a.eval s = v) (hown : w0.ownsRow base e 1 v n xs) (h1 : u.oneCell' = true)
    (hx : a.eval x = .slice (some ⟨w0.heap.size, 0, none⟩) 1 1)
    (hbytes : (n + 1) * bytes ≤ 140737488355328) (hn : n ≤ 140737488355327) (hbase : base ≤ w0.heap.size)
    (hw : w = w0.alloc (.cells #[u] e)) (h : ∀ v' w', w'.ownsRow base e 1 v' (n + 1) (xs ++ [u]) → (w0.alloc (.cells #[u] e)).grownBy w' v.ownBlock → K (a.put o.dst v') w') :
    if Region.wanted o (yielded ops a.tmps) = true then Oper.wp P o a w K Q else E := by
  have hwt : Region.wanted o (yielded ops a.tmps) = true := by simp [Region.wanted, hgd]
  rw [if_pos hwt]
  subst hw
  refine wp_append_own _ s x t ho base e i z 1 bytes ht hi hz hsize hby hzs (by decide) v n xs hs (hown.alloc _) ⟨w0.heap.size, 0, none⟩ 1 1 [u] hx rfl ?_ ?_ (by unfold maxLen; omega) hbytes (by simp; omega) ?_
  · intro j y hj
    match j, hj with
    | 0, hj => simp at hj; subst hj; simp [Addr.add]
  · intro y hy; simp at hy; subst hy; exact h1
  · intro v' w' k1 k2 _
    exact h v' w' k1 k2

theorem vsString_snoc (ns : List ByteArray) (s : ByteArray) : vsString ns ++ [.string s] = vsString (ns ++ [s]) := by simp [vsString]
theorem vsInt_snoc (ks : List Int) (z : Int) : vsInt ks ++ [.int .i64 z] = vsInt (ks ++ [z]) := by simp [vsInt]

/-- The variable at block p is a node whose rows lie behind it. -/
def OutN (u : World) (base p : Nat) (dir : Bool) (v1 : Value) (ns : List ByteArray) (v2 : Value) (ks : List Int) (dat : ByteArray) : Prop :=
  p < base ∧ base ≤ u.heap.size ∧ C4 u p (.bool dir) v1 v2 (.string dat) ∧ u.ownsRow base 9 1 v1 ns.length (vsString ns) ∧ u.ownsRow base 3 1 v2 ks.length (vsInt ks)
theorem OutN.below {u u' : World} {base p : Nat} {dir : Bool} {v1 v2 : Value} {ns : List ByteArray} {ks : List Int} {dat : ByteArray} (h : OutN u base p dir v1 ns v2 ks dat) (hb : Below u.heap.size u u') : OutN u' base p dir v1 ns v2 ks dat :=
  ⟨h.1, Nat.le_trans h.2.1 hb.size, h.2.2.1.below hb, owns_below h.2.2.2.1 hb, owns_below h.2.2.2.2 hb⟩
theorem OutN.own {u : World} {base p : Nat} {dir : Bool} {v1 v2 : Value} {ns : List ByteArray} {ks : List Int} {dat : ByteArray} (h : OutN u base p dir v1 ns v2 ks dat) {b : Nat} (hb : b ≤ base) : NodeOwn u b (.agg #[.bool dir, v1, v2, .string dat]) dir ns ks dat :=
  ⟨v1, v2, rfl, owns_mono h.2.2.2.1 hb, owns_mono h.2.2.2.2 hb, fun k hk => kinds_apart h.2.2.2.1 h.2.2.2.2 (by decide) k hk⟩
theorem c4_grown {w w' : World} {row : Option Nat} (hg : w.grownBy w' row) {p : Nat} {x0 x1 x2 x3 : Value} (h : C4 w p x0 x1 x2 x3) (hne : row ≠ some p) : C4 w' p x0 x1 x2 x3 := by
  have hlt := h.lt
  have hb := hg.block p hlt (fun e => hne e.symm)
  refine ⟨⟨?_, ?_, ?_, ?_⟩, fun j => ?_⟩
  · have := h.1.1; simp only [World.cell?, hb] at this ⊢; exact this
  · have := h.1.2.1; simp only [World.cell?, hb] at this ⊢; exact this
  · have := h.1.2.2.1; simp only [World.cell?, hb] at this ⊢; exact this
  · have := h.1.2.2.2; simp only [World.cell?, hb] at this ⊢; exact this
  · have := h.2 j; simp only [World.frozen?, hb] at this ⊢; exact this
theorem set_below {w w' : World} {p k : Nat} {v : Value} {B : Nat} (h : Below B w w') (hB : B ≤ p) : Below B w (w'.setCell ⟨p, k, none⟩ v) := h.setCell (by show _ ≤ _; simpa using hB) v

/-- Behind an append of one name (not yet stored), and behind the store. -/
theorem OutN.app1 {u u2 : World} {base p : Nat} {dir : Bool} {v1 v2 v' : Value} {ns : List ByteArray} {ks : List Int} {dat s : ByteArray} (h : OutN u base p dir v1 ns v2 ks dat)
    (hg : (u.alloc (.cells #[.string s] 9)).grownBy u2 v1.ownBlock) (ho : u2.ownsRow base 9 1 v' (ns.length + 1) (vsString ns ++ [.string s])) :
    C4 u2 p (.bool dir) v1 v2 (.string dat) ∧ OutN (u2.setCell ⟨p, 1, none⟩ v') base p dir v' (ns ++ [s]) v2 ks dat ∧ Below p u (u2.setCell ⟨p, 1, none⟩ v') ∧ u2.heap.size = (u2.setCell ⟨p, 1, none⟩ v').heap.size ∧ u.heap.size < u2.heap.size := by
  obtain ⟨h1, h2, h3, h4, h5⟩ := h
  have hA : Below u.heap.size u (u.alloc (.cells #[.string s] 9)) := (Below.refl _ _).alloc (Nat.le_refl _) _
  have hne : v1.ownBlock ≠ some p := fun e => by have := (h4.lt p e).1; omega
  have hc := c4_grown hg (h3.below hA) hne
  have ho2 : u2.ownsRow base 3 1 v2 ks.length (vsInt ks) := (owns_below h5 hA).kept hg (by
    cases hv : v2.ownBlock with
    | none => exact .inl rfl
    | some k => exact .inr (fun e => kinds_apart h4 h5 (by decide) k e.symm hv))
  have hsz := hg.size
  have hsz2 : u.heap.size < u2.heap.size := by simp at hsz; omega
  have hss : u2.heap.size = (u2.setCell ⟨p, 1, none⟩ v').heap.size := by simp [World.setCell]
  have hb : Below p u u2 := (hA.mono (by omega)).trans (by
    have : Below base (u.alloc (.cells #[.string s] 9)) u2 := (Below.refl _ _).grown hg (by simp; omega) (fun k hk => (h4.lt k hk).1)
    exact this.mono (by omega))
  refine ⟨hc, ⟨h1, by omega, hc.set1 v', ?_, ownsRow_setCell_below ho2 h1 _⟩, set_below hb (Nat.le_refl _), hss, hsz2⟩
  rw [List.length_append, List.length_singleton, ← vsString_snoc]
  exact ownsRow_setCell_below ho h1 _
theorem OutN.app2 {u u2 : World} {base p : Nat} {dir : Bool} {v1 v2 v' : Value} {ns : List ByteArray} {ks : List Int} {dat : ByteArray} {z : Int} (h : OutN u base p dir v1 ns v2 ks dat)
    (hg : (u.alloc (.cells #[.int .i64 z] 3)).grownBy u2 v2.ownBlock) (ho : u2.ownsRow base 3 1 v' (ks.length + 1) (vsInt ks ++ [.int .i64 z])) :
    C4 u2 p (.bool dir) v1 v2 (.string dat) ∧ OutN (u2.setCell ⟨p, 2, none⟩ v') base p dir v1 ns v' (ks ++ [z]) dat ∧ Below p u (u2.setCell ⟨p, 2, none⟩ v') ∧ u2.heap.size = (u2.setCell ⟨p, 2, none⟩ v').heap.size ∧ u.heap.size < u2.heap.size := by
  obtain ⟨h1, h2, h3, h4, h5⟩ := h
  have hA : Below u.heap.size u (u.alloc (.cells #[.int .i64 z] 3)) := (Below.refl _ _).alloc (Nat.le_refl _) _
  have hne : v2.ownBlock ≠ some p := fun e => by have := (h5.lt p e).1; omega
  have hc := c4_grown hg (h3.below hA) hne
  have ho2 : u2.ownsRow base 9 1 v1 ns.length (vsString ns) := (owns_below h4 hA).kept hg (by
    cases hv : v1.ownBlock with
    | none => exact .inl rfl
    | some k => exact .inr (fun e => kinds_apart h4 h5 (by decide) k hv e.symm))
  have hsz := hg.size
  have hsz2 : u.heap.size < u2.heap.size := by simp at hsz; omega
  have hss : u2.heap.size = (u2.setCell ⟨p, 2, none⟩ v').heap.size := by simp [World.setCell]
  have hb : Below p u u2 := (hA.mono (by omega)).trans (by
    have : Below base (u.alloc (.cells #[.int .i64 z] 3)) u2 := (Below.refl _ _).grown hg (by simp; omega) (fun k hk => (h5.lt k hk).1)
    exact this.mono (by omega))
  refine ⟨hc, ⟨h1, by omega, hc.set2 v', ownsRow_setCell_below ho2 h1 _, ?_⟩, set_below hb (Nat.le_refl _), hss, hsz2⟩
  rw [List.length_append, List.length_singleton, ← vsInt_snoc]
  exact ownsRow_setCell_below ho h1 _
end Go.Proofs.Ytmolhhljodlhaaa
