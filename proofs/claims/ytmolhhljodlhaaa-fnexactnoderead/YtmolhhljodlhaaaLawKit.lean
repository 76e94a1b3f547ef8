/-
  What the laws' walks carry along: a variable's cells; chips, what is mounted, rows of numbers: read, owned, marked; the laws' helpers over them.
-/
import Derived.Test.YtmolhhljodlhaaaLawChip
import Derived.Test.YtmolhhljodlhaaaHelpFtl
namespace Go.Proofs.Ytmolhhljodlhaaa
open Go.RowKit

/-- The variable at block p holds the cells xs. -/
def At (u : World) (p : Nat) (xs : List Value) : Prop := p < u.heap.size ∧ ∀ i, i < xs.length → u.cell? ⟨p, i, none⟩ = xs[i]?
theorem At.below {u u' : World} {p : Nat} {xs : List Value} (h : At u p xs) (hb : Below u.heap.size u u') : At u' p xs :=
  ⟨Nat.lt_of_lt_of_le h.1 hb.size, fun i hi => (hb.cell (p := ⟨p, i, none⟩) h.1).trans (h.2 i hi)⟩
theorem At.only {u u' : World} {p : Nat} {xs : List Value} {L : List (Option Nat)} (h : At u p xs) (hO : OnlyIn u u' L) (hn : some p ∉ L) : At u' p xs := by
  have hb := hO.block p h.1 hn
  refine ⟨Nat.lt_of_lt_of_le h.1 hO.size, fun i hi => ?_⟩
  have := h.2 i hi
  simp only [World.cell?] at this ⊢
  rw [hb]; exact this
theorem at_new (u : World) (xs : List Value) (t : TypeId) : At (u.alloc (.cells xs.toArray t)) u.heap.size xs :=
  ⟨by simp, fun i _ => by simp⟩

/-- The blocks of a value. -/
def bk : Value → List (Option Nat)
  | .agg xs => xs.toList.map Value.ownBlock
  | v => [v.ownBlock]

theorem owns_shape {w : World} {base : Nat} {e : TypeId} {v : Value} {n : Nat} {xs : List Value} (h : w.ownsRow base e 1 v n xs) : ∃ a c, v = .slice a n c := by
  rcases h with ⟨_, ⟨rfl, rfl⟩ | ⟨g, cap, cur, rfl, -⟩⟩
  · exact ⟨_, _, rfl⟩
  · exact ⟨_, _, rfl⟩

/-- Each slice of it has room for its length. -/
def CapOk (v : Value) : Prop := ∀ (x : Value) (a : Option Addr) (n c : Nat), x ∈ v.cells.toList → x = .slice a n c → n ≤ c
theorem owns_cap {w : World} {base : Nat} {e : TypeId} {a : Option Addr} {n c m : Nat} {xs : List Value} (h : w.ownsRow base e 1 (.slice a n c) m xs) : n ≤ c := by
  rcases h with ⟨_, ⟨h, rfl⟩ | ⟨g, cap, cur, h, _, _, h', _⟩⟩
  · simp at h; omega
  · simp at h; omega

/-! Chips. -/
theorem ChipOwn.shape {u : World} {base : Nat} {v : Value} {ps : List ByteArray} {ws : List Int} (h : ChipOwn u base v ps ws) : ∃ a c b d, v = .agg #[.slice a ps.length c, .slice b ws.length d] := by
  obtain ⟨a, c, b, d, rfl, -⟩ := own_open h
  exact ⟨a, c, b, d, rfl⟩
theorem ChipOwn.rd {u : World} {base : Nat} {v : Value} {ps : List ByteArray} {ws : List Int} (h : ChipOwn u base v ps ws) : ChipRd u v ps ws := by
  obtain ⟨a, c, b, d, rfl, h1, h2, -⟩ := own_open h
  exact ⟨a, c, b, d, rfl, rd_of_own h1, rd_of_own h2⟩
theorem ChipRd.below {u u' : World} {v : Value} {ps : List ByteArray} {ws : List Int} (h : ChipRd u v ps ws) (hb : Below u.heap.size u u') : ChipRd u' v ps ws := by
  obtain ⟨a, c, b, d, rfl, h1, h2⟩ := h
  exact ⟨a, c, b, d, rfl, h1.below hb, h2.below hb⟩
theorem ChipOwn.below {u u' : World} {base : Nat} {v : Value} {ps : List ByteArray} {ws : List Int} (h : ChipOwn u base v ps ws) (hb : Below u.heap.size u u') : ChipOwn u' base v ps ws := by
  obtain ⟨v1, v2, rfl, h1, h2, h3⟩ := h
  exact ⟨v1, v2, rfl, owns_below h1 hb, owns_below h2 hb, h3⟩
theorem ChipOwn.only {u u' : World} {base : Nat} {v : Value} {ps : List ByteArray} {ws : List Int} {L : List (Option Nat)} (h : ChipOwn u base v ps ws) (hO : OnlyIn u u' L) (hn : ∀ k, some k ∈ bk v → some k ∉ L) : ChipOwn u' base v ps ws := by
  obtain ⟨v1, v2, rfl, h1, h2, h3⟩ := h
  exact ⟨v1, v2, rfl, hO.owns h1 (fun k hk => hn k (by simp [bk, hk])), hO.owns h2 (fun k hk => hn k (by simp [bk, hk])), h3⟩
theorem ChipOwn.blk {u : World} {base : Nat} {v : Value} {ps : List ByteArray} {ws : List Int} (h : ChipOwn u base v ps ws) {k : Nat} (hk : some k ∈ bk v) : base ≤ k ∧ k < u.heap.size := by
  obtain ⟨v1, v2, rfl, h1, h2, h3⟩ := h
  simp only [bk, List.map_cons, List.map_nil, List.mem_cons, List.not_mem_nil, or_false] at hk
  rcases hk with hk | hk
  · exact h1.lt k hk.symm
  · exact h2.lt k hk.symm
theorem ChipOwn.cap {u : World} {base : Nat} {v : Value} {ps : List ByteArray} {ws : List Int} (h : ChipOwn u base v ps ws) : CapOk v := by
  obtain ⟨v1, v2, rfl, h1, h2, -⟩ := h
  intro x a n c hx hs
  subst hs
  simp only [Value.cells, List.mem_cons, List.not_mem_nil, or_false] at hx
  rcases hx with rfl | rfl
  · exact owns_cap h1
  · exact owns_cap h2
theorem chip_caps {a b : Option Addr} {n m c d : Nat} (h : CapOk (.agg #[.slice a n c, .slice b m d])) : n ≤ c ∧ m ≤ d :=
  ⟨h _ a n c (by simp [Value.cells]) rfl, h _ b m d (by simp [Value.cells]) rfl⟩
/-- A chip with marks from q on. -/
def ChipMk (u : World) (base : Nat) (v : Value) (n m q : Nat) : Prop :=
  ∃ a c b d, v = .agg #[.slice a n c, .slice b m d] ∧ u.ownsRow base 9 1 (.slice a n c) n (marksT q n) ∧ u.ownsRow base 3 1 (.slice b m d) m (marksI (q + n) m)
theorem ChipMk.below {u u' : World} {base : Nat} {v : Value} {n m q : Nat} (h : ChipMk u base v n m q) (hb : Below u.heap.size u u') : ChipMk u' base v n m q := by
  obtain ⟨a, c, b, d, rfl, h1, h2⟩ := h
  exact ⟨a, c, b, d, rfl, owns_below h1 hb, owns_below h2 hb⟩
def FtlRd (w : World) (v : Value) (ps : List ByteArray) (ws ms : List Int) (q : Int) : Prop :=
  ∃ a c b d e f, v = .agg #[.slice a ps.length c, .slice b ws.length d, .slice e ms.length f, .int .i64 q] ∧ Rd w a (vsString ps) ∧ Rd w b (vsInt ws) ∧ Rd w e (vsInt ms)
theorem FtlOwn.shape {u : World} {base : Nat} {v : Value} {ps : List ByteArray} {ws ms : List Int} {q : Int} (h : FtlOwn u base v ps ws ms q) : ∃ a c b d e f, v = .agg #[.slice a ps.length c, .slice b ws.length d, .slice e ms.length f, .int .i64 q] := by
  obtain ⟨a, c, b, d, e, f, rfl, -⟩ := ftl_open h
  exact ⟨a, c, b, d, e, f, rfl⟩
theorem FtlOwn.rd {u : World} {base : Nat} {v : Value} {ps : List ByteArray} {ws ms : List Int} {q : Int} (h : FtlOwn u base v ps ws ms q) : FtlRd u v ps ws ms q := by
  obtain ⟨a, c, b, d, e, f, rfl, h1, h2, h3⟩ := ftl_open h
  exact ⟨a, c, b, d, e, f, rfl, rd_of_own h1, rd_of_own h2, rd_of_own h3⟩
theorem FtlRd.below {u u' : World} {v : Value} {ps : List ByteArray} {ws ms : List Int} {q : Int} (h : FtlRd u v ps ws ms q) (hb : Below u.heap.size u u') : FtlRd u' v ps ws ms q := by
  obtain ⟨a, c, b, d, e, f, rfl, h1, h2, h3⟩ := h
  exact ⟨a, c, b, d, e, f, rfl, h1.below hb, h2.below hb, h3.below hb⟩
theorem FtlOwn.below {u u' : World} {base : Nat} {v : Value} {ps : List ByteArray} {ws ms : List Int} {q : Int} (h : FtlOwn u base v ps ws ms q) (hb : Below u.heap.size u u') : FtlOwn u' base v ps ws ms q := by
  obtain ⟨v1, v2, v3, rfl, h1, h2, h3, h4⟩ := h
  exact ⟨v1, v2, v3, rfl, owns_below h1 hb, owns_below h2 hb, owns_below h3 hb, h4⟩
theorem FtlOwn.only {u u' : World} {base : Nat} {v : Value} {ps : List ByteArray} {ws ms : List Int} {q : Int} {L : List (Option Nat)} (h : FtlOwn u base v ps ws ms q) (hO : OnlyIn u u' L) (hn : ∀ k, some k ∈ bk v → some k ∉ L) : FtlOwn u' base v ps ws ms q := by
  obtain ⟨v1, v2, v3, rfl, h1, h2, h3, h4⟩ := h
  exact ⟨v1, v2, v3, rfl, hO.owns h1 (fun k hk => hn k (by simp [bk, hk])), hO.owns h2 (fun k hk => hn k (by simp [bk, hk])), hO.owns h3 (fun k hk => hn k (by simp [bk, hk])), h4⟩
theorem FtlOwn.blk {u : World} {base : Nat} {v : Value} {ps : List ByteArray} {ws ms : List Int} {q : Int} (h : FtlOwn u base v ps ws ms q) {k : Nat} (hk : some k ∈ bk v) : base ≤ k ∧ k < u.heap.size := by
  obtain ⟨v1, v2, v3, rfl, h1, h2, h3, h4⟩ := h
  simp only [bk, List.map_cons, List.map_nil, List.mem_cons, List.not_mem_nil, or_false, Value.ownBlock] at hk
  rcases hk with hk | hk | hk | hk
  · exact h1.lt k hk.symm
  · exact h2.lt k hk.symm
  · exact h3.lt k hk.symm
  · cases hk
def FtlMk (u : World) (base : Nat) (v : Value) (n m l q : Nat) : Prop :=
  ∃ a c b d e f z, v = .agg #[.slice a n c, .slice b m d, .slice e l f, .int .i64 z] ∧ u.ownsRow base 9 1 (.slice a n c) n (marksT q n) ∧ u.ownsRow base 3 1 (.slice b m d) m (marksI (q + n) m) ∧ u.ownsRow base 3 1 (.slice e l f) l (marksI (q + n + m) l)
theorem FtlMk.below {u u' : World} {base : Nat} {v : Value} {n m l q : Nat} (h : FtlMk u base v n m l q) (hb : Below u.heap.size u u') : FtlMk u' base v n m l q := by
  obtain ⟨a, c, b, d, e, f, z, rfl, h1, h2, h3⟩ := h
  exact ⟨a, c, b, d, e, f, z, rfl, owns_below h1 hb, owns_below h2 hb, owns_below h3 hb⟩
def IntsRd (w : World) (v : Value) (xs : List Int) : Prop := ∃ a c, v = .slice a xs.length c ∧ Rd w a (vsInt xs)
def IntsOwn (w : World) (base : Nat) (v : Value) (xs : List Int) : Prop := w.ownsRow base 3 1 v xs.length (vsInt xs)
def IntsMk (w : World) (base : Nat) (v : Value) (n q : Nat) : Prop := w.ownsRow base 3 1 v n (marksI q n)
theorem IntsOwn.shape {u : World} {base : Nat} {v : Value} {xs : List Int} (h : IntsOwn u base v xs) : ∃ a c, v = .slice a xs.length c := owns_shape h
theorem IntsOwn.rd {u : World} {base : Nat} {v : Value} {xs : List Int} (h : IntsOwn u base v xs) : IntsRd u v xs := by
  obtain ⟨a, c, rfl⟩ := h.shape
  exact ⟨a, c, rfl, rd_of_own h⟩
theorem IntsRd.below {u u' : World} {v : Value} {xs : List Int} (h : IntsRd u v xs) (hb : Below u.heap.size u u') : IntsRd u' v xs := by
  obtain ⟨a, c, rfl, h1⟩ := h
  exact ⟨a, c, rfl, h1.below hb⟩
theorem IntsOwn.below {u u' : World} {base : Nat} {v : Value} {xs : List Int} (h : IntsOwn u base v xs) (hb : Below u.heap.size u u') : IntsOwn u' base v xs := owns_below h hb
theorem IntsMk.below {u u' : World} {base : Nat} {v : Value} {n q : Nat} (h : IntsMk u base v n q) (hb : Below u.heap.size u u') : IntsMk u' base v n q := owns_below h hb
theorem bk_slice (a : Option Addr) (n c : Nat) : bk (.slice a n c) = [(Value.slice a n c).ownBlock] := rfl
theorem IntsOwn.only {u u' : World} {base : Nat} {v : Value} {xs : List Int} {L : List (Option Nat)} (h : IntsOwn u base v xs) (hO : OnlyIn u u' L) (hn : ∀ k, some k ∈ bk v → some k ∉ L) : IntsOwn u' base v xs := by
  obtain ⟨a, c, rfl⟩ := h.shape
  exact hO.owns h (fun k hk => hn k (by rw [bk_slice, hk]; simp))
theorem IntsOwn.blk {u : World} {base : Nat} {v : Value} {xs : List Int} (h : IntsOwn u base v xs) {k : Nat} (hk : some k ∈ bk v) : base ≤ k ∧ k < u.heap.size := by
  obtain ⟨a, c, rfl⟩ := h.shape
  rw [bk_slice] at hk
  simp only [List.mem_cons, List.not_mem_nil, or_false] at hk
  exact World.ownsRow.lt h k hk.symm
theorem ints_eq {u : World} {v v' : Value} {xs : List Int} (h : IntsRd u v xs) (h' : IntsRd u v' xs) (hl : xs.length ≤ 1048576) :
    Calls Try.prog 33 #[v, v'] u fun e w' => e = .returned (.bool true) ∧ Below u.heap.size u w' := by
  obtain ⟨a, c, rfl, h1⟩ := h
  obtain ⟨a', c', rfl, h1'⟩ := h'
  refine (eqIntS_any a a' xs xs c c' u h1 h1' (by omega) (by omega)).mono ?_
  rintro e w' ⟨rfl, n, rfl⟩
  exact ⟨ret_bool (by simp), after_drew (Below.refl _ _) n⟩
theorem ints_mark {u : World} {base : Nat} {v : Value} {xs : List Int} {q : Nat} (h : IntsOwn u base v xs) (hl : xs.length ≤ 1048576) (_hq0 : 0 < q) (hq : q ≤ 1000000) :
    Calls Try.prog 37 #[v, .int .i64 q] u fun e w' => e = .returned (.int .i64 ((q + xs.length : Nat) : Int)) ∧ IntsMk w' base v xs.length q ∧ OnlyIn u w' (bk v) := by
  obtain ⟨a, c, rfl⟩ := h.shape
  refine (markIntS_any (.slice a xs.length c) xs.length _ base q u h hl (by omega)).mono ?_
  rintro e w' ⟨rfl, k1, hg⟩
  exact ⟨rfl, k1, OnlyIn.of_grown hg⟩
theorem ints_held {u : World} {base : Nat} {v : Value} {n q : Nat} (h : IntsMk u base v n q) (hl : n ≤ 1048576) (_hq0 : 0 < q) (hq : q ≤ 1000000) :
    Calls Try.prog 39 #[v, .int .i64 q] u fun e w' => e = .returned (.int .i64 ((q + n : Nat) : Int)) ∧ Below u.heap.size u w' := by
  refine (heldIntS_any v n base q u h hl (by omega)).mono ?_
  rintro e w' ⟨rfl, rfl⟩
  exact ⟨rfl, Below.refl _ _⟩

/-- Where only blocks from B on were written, below B nothing has turned. -/
theorem OnlyIn.from {u u' : World} {L : List (Option Nat)} {B : Nat} (h : OnlyIn u u' L) (hB : B ≤ u.heap.size) (hL : ∀ k, some k ∈ L → B ≤ k) : Below B u u' := h.below hB hL

end Go.Proofs.Ytmolhhljodlhaaa
