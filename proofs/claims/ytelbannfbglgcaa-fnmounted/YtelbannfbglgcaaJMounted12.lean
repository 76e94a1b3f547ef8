/-
  Contracts of the laws' helpers over what is mounted: toFtl, szFtl, eqFtl.
  What the laws' walks carry along: a variable's cells; chips, what is mounted, rows of numbers: read, owned, marked; the laws' helpers over them.
  Contracts of the specification's l4Sector and Sector.
-/
import Derived.Test.YtelbannfbglgcaaJMounted10
import Derived.Test.YtelbannfbglgcaaJMounted11
import Derived.Test.YtelbannfbglgcaaJMounted4
import Derived.Deep.RegionHeld
namespace Go.Proofs.Ytelbannfbglgcaa
open Go.RowKit

/-- Four cells of a variable. -/
def C4 (u : World) (p : Nat) (x0 x1 x2 x3 : Value) : Prop :=
  (u.cell? ⟨p, 0, none⟩ = some x0 ∧ u.cell? ⟨p, 1, none⟩ = some x1 ∧ u.cell? ⟨p, 2, none⟩ = some x2 ∧ u.cell? ⟨p, 3, none⟩ = some x3) ∧ ∀ j, u.frozen? ⟨p, j, none⟩ = false
theorem C4.lt {u : World} {p : Nat} {x0 x1 x2 x3 : Value} (h : C4 u p x0 x1 x2 x3) : p < u.heap.size := lt_of_cell h.1.1
theorem C4.below {u u' : World} {p : Nat} {x0 x1 x2 x3 : Value} (h : C4 u p x0 x1 x2 x3) (hb : Below u.heap.size u u') : C4 u' p x0 x1 x2 x3 :=
  ⟨⟨(hb.cell (p := ⟨p, 0, none⟩) h.lt).trans h.1.1, (hb.cell (p := ⟨p, 1, none⟩) h.lt).trans h.1.2.1, (hb.cell (p := ⟨p, 2, none⟩) h.lt).trans h.1.2.2.1, (hb.cell (p := ⟨p, 3, none⟩) h.lt).trans h.1.2.2.2⟩, fun j => (hb.frozen (p := ⟨p, j, none⟩) h.lt).trans (h.2 j)⟩
theorem C4.other {u : World} {p q k : Nat} {x0 x1 x2 x3 : Value} (h : C4 u p x0 x1 x2 x3) (hne : q ≠ p) (v : Value) : C4 (u.setCell ⟨q, k, none⟩ v) p x0 x1 x2 x3 :=
  ⟨⟨cell_other h.1.1 hne, cell_other h.1.2.1 hne, cell_other h.1.2.2.1 hne, cell_other h.1.2.2.2 hne⟩, fun j => by simpa using h.2 j⟩
theorem C4.set0 {u : World} {p : Nat} {x0 x1 x2 x3 : Value} (h : C4 u p x0 x1 x2 x3) (v : Value) : C4 (u.setCell ⟨p, 0, none⟩ v) p v x1 x2 x3 :=
  ⟨⟨World.cell?_setCell_same _ _ _ h.1.1, by simpa [go_sem] using h.1.2.1, by simpa [go_sem] using h.1.2.2.1, by simpa [go_sem] using h.1.2.2.2⟩, fun j => by simpa using h.2 j⟩
theorem C4.set1 {u : World} {p : Nat} {x0 x1 x2 x3 : Value} (h : C4 u p x0 x1 x2 x3) (v : Value) : C4 (u.setCell ⟨p, 1, none⟩ v) p x0 v x2 x3 :=
  ⟨⟨by simpa [go_sem] using h.1.1, World.cell?_setCell_same _ _ _ h.1.2.1, by simpa [go_sem] using h.1.2.2.1, by simpa [go_sem] using h.1.2.2.2⟩, fun j => by simpa using h.2 j⟩
theorem C4.set2 {u : World} {p : Nat} {x0 x1 x2 x3 : Value} (h : C4 u p x0 x1 x2 x3) (v : Value) : C4 (u.setCell ⟨p, 2, none⟩ v) p x0 x1 v x3 :=
  ⟨⟨by simpa [go_sem] using h.1.1, by simpa [go_sem] using h.1.2.1, World.cell?_setCell_same _ _ _ h.1.2.2.1, by simpa [go_sem] using h.1.2.2.2⟩, fun j => by simpa using h.2 j⟩
theorem C4.set3 {u : World} {p : Nat} {x0 x1 x2 x3 : Value} (h : C4 u p x0 x1 x2 x3) (v : Value) : C4 (u.setCell ⟨p, 3, none⟩ v) p x0 x1 x2 v :=
  ⟨⟨by simpa [go_sem] using h.1.1, by simpa [go_sem] using h.1.2.1, by simpa [go_sem] using h.1.2.2.1, World.cell?_setCell_same _ _ _ h.1.2.2.2⟩, fun j => by simpa using h.2 j⟩
theorem c4_new (u : World) (x0 x1 x2 x3 : Value) (t : TypeId) : C4 (u.alloc (.cells #[x0, x1, x2, x3] t)) u.heap.size x0 x1 x2 x3 := ⟨⟨by simp, by simp, by simp, by simp⟩, fun j => by simp⟩

/-- What came in may be read. -/
theorem ftlRows_set {w : World} {base p k : Nat} {v : Value} {e : TypeId} {n : Nat} {xs : List Value} (h : w.ownsRow base e 1 v n xs) (hp : p < base) (u : Value) : (w.setCell ⟨p, k, none⟩ u).ownsRow base e 1 v n xs := ownsRow_setCell_below h hp u

/-- Two values that lie in no one block. -/
abbrev Apart (v u : Value) : Prop := ∀ k, v.ownBlock = some k → u.ownBlock ≠ some k

end Go.Proofs.Ytelbannfbglgcaa

namespace Go.Proofs.Ytelbannfbglgcaa
open Go.RowKit

/-- The variable at block p holds the cells xs. -/
def At (u : World) (p : Nat) (xs : List Value) : Prop := p < u.heap.size ∧ ∀ i, i < xs.length → u.cell? ⟨p, i, none⟩ = xs[i]?
theorem At.below {u u' : World} {p : Nat} {xs : List Value} (h : At u p xs) (hb : Below u.heap.size u u') : At u' p xs :=
  ⟨Nat.lt_of_lt_of_le h.1 hb.size, fun i hi => (hb.cell (p := ⟨p, i, none⟩) h.1).trans (h.2 i hi)⟩
theorem At.only {u u' : World} {p : Nat} {xs : List Value} {L : List (Option Nat)} (h : At u p xs) (hO : OnlyIn u u' L) (hn : some p ∉ L) : At u' p xs := by
  have hb := hO.block p h.1 hn
  refine ⟨Nat.lt_of_lt_of_le h.1 hO.size, fun i hi => ?_⟩
  have := h.2 i hi
  simp only [World.cell?] at this ⊢
  rw [hb]; exact this
theorem at_new (u : World) (xs : List Value) (t : TypeId) : At (u.alloc (.cells xs.toArray t)) u.heap.size xs :=
  ⟨by simp, fun i _ => by simp⟩

/-- The blocks of a value. -/
def bk : Value → List (Option Nat)
  | .agg xs => xs.toList.map Value.ownBlock
  | v => [v.ownBlock]

theorem owns_shape {w : World} {base : Nat} {e : TypeId} {v : Value} {n : Nat} {xs : List Value} (h : w.ownsRow base e 1 v n xs) : ∃ a c, v = .slice a n c := by
  rcases h with ⟨_, ⟨rfl, rfl⟩ | ⟨g, cap, cur, rfl, -⟩⟩
  · exact ⟨_, _, rfl⟩
  · exact ⟨_, _, rfl⟩

/-- Each slice of it has room for its length. -/
def CapOk (v : Value) : Prop := ∀ (x : Value) (a : Option Addr) (n c : Nat), x ∈ v.cells.toList → x = .slice a n c → n ≤ c
theorem owns_cap {w : World} {base : Nat} {e : TypeId} {a : Option Addr} {n c m : Nat} {xs : List Value} (h : w.ownsRow base e 1 (.slice a n c) m xs) : n ≤ c := by
  rcases h with ⟨_, ⟨h, rfl⟩ | ⟨g, cap, cur, h, _, _, h', _⟩⟩
  · simp at h; omega
  · simp at h; omega

/-! Chips. -/
theorem ChipOwn.shape {u : World} {base : Nat} {v : Value} {ps : List ByteArray} {ws : List Int} (h : ChipOwn u base v ps ws) : ∃ a c b d, v = .agg #[.slice a ps.length c, .slice b ws.length d] := by
  obtain ⟨a, c, b, d, rfl, -⟩ := own_open h
  exact ⟨a, c, b, d, rfl⟩
theorem ChipOwn.rd {u : World} {base : Nat} {v : Value} {ps : List ByteArray} {ws : List Int} (h : ChipOwn u base v ps ws) : ChipRd u v ps ws := by
  obtain ⟨a, c, b, d, rfl, h1, h2, -⟩ := own_open h
  exact ⟨a, c, b, d, rfl, rd_of_own h1, rd_of_own h2⟩
theorem ChipRd.below {u u' : World} {v : Value} {ps : List ByteArray} {ws : List Int} (h : ChipRd u v ps ws) (hb : Below u.heap.size u u') : ChipRd u' v ps ws := by
  obtain ⟨a, c, b, d, rfl, h1, h2⟩ := h
  exact ⟨a, c, b, d, rfl, h1.below hb, h2.below hb⟩
theorem ChipOwn.below {u u' : World} {base : Nat} {v : Value} {ps : List ByteArray} {ws : List Int} (h : ChipOwn u base v ps ws) (hb : Below u.heap.size u u') : ChipOwn u' base v ps ws := by
  obtain ⟨v1, v2, rfl, h1, h2, h3⟩ := h
  exact ⟨v1, v2, rfl, owns_below h1 hb, owns_below h2 hb, h3⟩
theorem ChipOwn.only {u u' : World} {base : Nat} {v : Value} {ps : List ByteArray} {ws : List Int} {L : List (Option Nat)} (h : ChipOwn u base v ps ws) (hO : OnlyIn u u' L) (hn : ∀ k, some k ∈ bk v → some k ∉ L) : ChipOwn u' base v ps ws := by
  obtain ⟨v1, v2, rfl, h1, h2, h3⟩ := h
  exact ⟨v1, v2, rfl, hO.owns h1 (fun k hk => hn k (by simp [bk, hk])), hO.owns h2 (fun k hk => hn k (by simp [bk, hk])), h3⟩
theorem ChipOwn.blk {u : World} {base : Nat} {v : Value} {ps : List ByteArray} {ws : List Int} (h : ChipOwn u base v ps ws) {k : Nat} (hk : some k ∈ bk v) : base ≤ k ∧ k < u.heap.size := by
  obtain ⟨v1, v2, rfl, h1, h2, h3⟩ := h
  simp only [bk, List.map_cons, List.map_nil, List.mem_cons, List.not_mem_nil, or_false] at hk
  rcases hk with hk | hk
  · exact h1.lt k hk.symm
  · exact h2.lt k hk.symm
theorem ChipOwn.cap {u : World} {base : Nat} {v : Value} {ps : List ByteArray} {ws : List Int} (h : ChipOwn u base v ps ws) : CapOk v := by
  obtain ⟨v1, v2, rfl, h1, h2, -⟩ := h
  intro x a n c hx hs
  subst hs
  simp only [Value.cells, List.mem_cons, List.not_mem_nil, or_false] at hx
  rcases hx with rfl | rfl
  · exact owns_cap h1
  · exact owns_cap h2
theorem chip_caps {a b : Option Addr} {n m c d : Nat} (h : CapOk (.agg #[.slice a n c, .slice b m d])) : n ≤ c ∧ m ≤ d :=
  ⟨h _ a n c (by simp [Value.cells]) rfl, h _ b m d (by simp [Value.cells]) rfl⟩
/-- A chip with marks from q on. -/
def ChipMk (u : World) (base : Nat) (v : Value) (n m q : Nat) : Prop :=
  ∃ a c b d, v = .agg #[.slice a n c, .slice b m d] ∧ u.ownsRow base 9 1 (.slice a n c) n (marksT q n) ∧ u.ownsRow base 3 1 (.slice b m d) m (marksI (q + n) m)
theorem ChipMk.below {u u' : World} {base : Nat} {v : Value} {n m q : Nat} (h : ChipMk u base v n m q) (hb : Below u.heap.size u u') : ChipMk u' base v n m q := by
  obtain ⟨a, c, b, d, rfl, h1, h2⟩ := h
  exact ⟨a, c, b, d, rfl, owns_below h1 hb, owns_below h2 hb⟩
def FtlRd (w : World) (v : Value) (ps : List ByteArray) (ws ms : List Int) (q : Int) : Prop :=
  ∃ a c b d e f, v = .agg #[.slice a ps.length c, .slice b ws.length d, .slice e ms.length f, .int .i64 q] ∧ Rd w a (vsString ps) ∧ Rd w b (vsInt ws) ∧ Rd w e (vsInt ms)
theorem FtlOwn.shape {u : World} {base : Nat} {v : Value} {ps : List ByteArray} {ws ms : List Int} {q : Int} (h : FtlOwn u base v ps ws ms q) : ∃ a c b d e f, v = .agg #[.slice a ps.length c, .slice b ws.length d, .slice e ms.length f, .int .i64 q] := by
  obtain ⟨a, c, b, d, e, f, rfl, -⟩ := ftl_open h
  exact ⟨a, c, b, d, e, f, rfl⟩
theorem FtlOwn.rd {u : World} {base : Nat} {v : Value} {ps : List ByteArray} {ws ms : List Int} {q : Int} (h : FtlOwn u base v ps ws ms q) : FtlRd u v ps ws ms q := by
  obtain ⟨a, c, b, d, e, f, rfl, h1, h2, h3⟩ := ftl_open h
  exact ⟨a, c, b, d, e, f, rfl, rd_of_own h1, rd_of_own h2, rd_of_own h3⟩
theorem FtlRd.below {u u' : World} {v : Value} {ps : List ByteArray} {ws ms : List Int} {q : Int} (h : FtlRd u v ps ws ms q) (hb : Below u.heap.size u u') : FtlRd u' v ps ws ms q := by
  obtain ⟨a, c, b, d, e, f, rfl, h1, h2, h3⟩ := h
  exact ⟨a, c, b, d, e, f, rfl, h1.below hb, h2.below hb, h3.below hb⟩
theorem FtlOwn.below {u u' : World} {base : Nat} {v : Value} {ps : List ByteArray} {ws ms : List Int} {q : Int} (h : FtlOwn u base v ps ws ms q) (hb : Below u.heap.size u u') : FtlOwn u' base v ps ws ms q := by
  obtain ⟨v1, v2, v3, rfl, h1, h2, h3, h4⟩ := h
  exact ⟨v1, v2, v3, rfl, owns_below h1 hb, owns_below h2 hb, owns_below h3 hb, h4⟩
theorem FtlOwn.only {u u' : World} {base : Nat} {v : Value} {ps : List ByteArray} {ws ms : List Int} {q : Int} {L : List (Option Nat)} (h : FtlOwn u base v ps ws ms q) (hO : OnlyIn u u' L) (hn : ∀ k, some k ∈ bk v → some k ∉ L) : FtlOwn u' base v ps ws ms q := by
  obtain ⟨v1, v2, v3, rfl, h1, h2, h3, h4⟩ := h
  exact ⟨v1, v2, v3, rfl, hO.owns h1 (fun k hk => hn k (by simp [bk, hk])), hO.owns h2 (fun k hk => hn k (by simp [bk, hk])), hO.owns h3 (fun k hk => hn k (by simp [bk, hk])), h4⟩
theorem FtlOwn.blk {u : World} {base : Nat} {v : Value} {ps : List ByteArray} {ws ms : List Int} {q : Int} (h : FtlOwn u base v ps ws ms q) {k : Nat} (hk : some k ∈ bk v) : base ≤ k ∧ k < u.heap.size := by
  obtain ⟨v1, v2, v3, rfl, h1, h2, h3, h4⟩ := h
  simp only [bk, List.map_cons, List.map_nil, List.mem_cons, List.not_mem_nil, or_false, Value.ownBlock] at hk
  rcases hk with hk | hk | hk | hk
  · exact h1.lt k hk.symm
  · exact h2.lt k hk.symm
  · exact h3.lt k hk.symm
  · cases hk
def FtlMk (u : World) (base : Nat) (v : Value) (n m l q : Nat) : Prop :=
  ∃ a c b d e f z, v = .agg #[.slice a n c, .slice b m d, .slice e l f, .int .i64 z] ∧ u.ownsRow base 9 1 (.slice a n c) n (marksT q n) ∧ u.ownsRow base 3 1 (.slice b m d) m (marksI (q + n) m) ∧ u.ownsRow base 3 1 (.slice e l f) l (marksI (q + n + m) l)
theorem FtlMk.below {u u' : World} {base : Nat} {v : Value} {n m l q : Nat} (h : FtlMk u base v n m l q) (hb : Below u.heap.size u u') : FtlMk u' base v n m l q := by
  obtain ⟨a, c, b, d, e, f, z, rfl, h1, h2, h3⟩ := h
  exact ⟨a, c, b, d, e, f, z, rfl, owns_below h1 hb, owns_below h2 hb, owns_below h3 hb⟩
def IntsRd (w : World) (v : Value) (xs : List Int) : Prop := ∃ a c, v = .slice a xs.length c ∧ Rd w a (vsInt xs)
def IntsOwn (w : World) (base : Nat) (v : Value) (xs : List Int) : Prop := w.ownsRow base 3 1 v xs.length (vsInt xs)
def IntsMk (w : World) (base : Nat) (v : Value) (n q : Nat) : Prop := w.ownsRow base 3 1 v n (marksI q n)
theorem IntsOwn.shape {u : World} {base : Nat} {v : Value} {xs : List Int} (h : IntsOwn u base v xs) : ∃ a c, v = .slice a xs.length c := owns_shape h
theorem IntsOwn.rd {u : World} {base : Nat} {v : Value} {xs : List Int} (h : IntsOwn u base v xs) : IntsRd u v xs := by
  obtain ⟨a, c, rfl⟩ := h.shape
  exact ⟨a, c, rfl, rd_of_own h⟩
theorem IntsRd.below {u u' : World} {v : Value} {xs : List Int} (h : IntsRd u v xs) (hb : Below u.heap.size u u') : IntsRd u' v xs := by
  obtain ⟨a, c, rfl, h1⟩ := h
  exact ⟨a, c, rfl, h1.below hb⟩
theorem IntsOwn.below {u u' : World} {base : Nat} {v : Value} {xs : List Int} (h : IntsOwn u base v xs) (hb : Below u.heap.size u u') : IntsOwn u' base v xs := owns_below h hb
theorem IntsMk.below {u u' : World} {base : Nat} {v : Value} {n q : Nat} (h : IntsMk u base v n q) (hb : Below u.heap.size u u') : IntsMk u' base v n q := owns_below h hb
theorem bk_slice (a : Option Addr) (n c : Nat) : bk (.slice a n c) = [(Value.slice a n c).ownBlock] := rfl
theorem IntsOwn.only {u u' : World} {base : Nat} {v : Value} {xs : List Int} {L : List (Option Nat)} (h : IntsOwn u base v xs) (hO : OnlyIn u u' L) (hn : ∀ k, some k ∈ bk v → some k ∉ L) : IntsOwn u' base v xs := by
  obtain ⟨a, c, rfl⟩ := h.shape
  exact hO.owns h (fun k hk => hn k (by rw [bk_slice, hk]; simp))
theorem IntsOwn.blk {u : World} {base : Nat} {v : Value} {xs : List Int} (h : IntsOwn u base v xs) {k : Nat} (hk : some k ∈ bk v) : base ≤ k ∧ k < u.heap.size := by
  obtain ⟨a, c, rfl⟩ := h.shape
  rw [bk_slice] at hk
  simp only [List.mem_cons, List.not_mem_nil, or_false] at hk
  exact World.ownsRow.lt h k hk.symm
/-- Where only blocks from B on were written, below B nothing has turned. -/
theorem OnlyIn.from {u u' : World} {L : List (Option Nat)} {B : Nat} (h : OnlyIn u u' L) (hB : B ≤ u.heap.size) (hL : ∀ k, some k ∈ L → B ≤ k) : Below B u u' := h.below hB hL

end Go.Proofs.Ytelbannfbglgcaa

namespace Go.Proofs.Ytelbannfbglgcaa
open Go.RowKit

/-- What stands at a page: its record's data. -/
def dataAt (ps : List ByteArray) (m : Int) : ByteArray := if m < 0 then ByteArray.empty else (recC ps m.toNat).2.2

set_option maxHeartbeats 1600000 in
theorem specSec_none (p0 p1 : Value) (e0 : Option Addr) (ms : List Int) (f S : Nat) (q m : Int) (w : World) (hms : Rd w e0 (vsInt ms)) (hS : ms[S]? = some m) (_hS6 : S < 26) (hm : m < 0) :
    Calls Try.prog 91 #[.agg #[p0, p1, .slice e0 ms.length f, .int .i64 q], .int .i64 S] w fun e w' => e = .returned (.string ⟨#[]⟩) ∧ Below w.heap.size w w' := by
  have hlt : S < ms.length := by
    rcases Nat.lt_or_ge S ms.length with h' | h'
    · exact h'
    · simp [h'] at hS
  obtain ⟨A, hA⟩ : ∃ A, A = w.alloc (Obj.cells #[p0, p1, .slice e0 ms.length f, .int .i64 q] 47) := ⟨_, rfl⟩
  have hbA : Below w.heap.size w A := by rw [hA]; exact (Below.refl _ _).alloc (Nat.le_refl _) _
  have x2 : A.cell? ⟨w.heap.size, 2, none⟩ = some (.slice e0 ms.length f) := by rw [hA]; simp
  obtain ⟨ba, oa, x, rfl, hcx, HX⟩ := rdInt_at (hms.below hbA) hlt
  obtain rfl : x = m := by have := HX.out; rw [hS] at this; simpa using this.symm
  clear hms hS
  go_enter Try.func91, Try.ntmps91
  go_wp2_with (rw [← hA]; clear hA)
  go_ret
  exact ⟨rfl, hbA⟩

theorem set3_keep {w1 : World} {B x j : Nat} {v a b c : Value} (h : w1.cell? ⟨x, j, none⟩ = some v) (hne : B ≠ x) : (((w1.setCell ⟨B, 0, none⟩ a).setCell ⟨B, 1, none⟩ b).setCell ⟨B, 2, none⟩ c).cell? ⟨x, j, none⟩ = some v :=
  cell_other (cell_other (cell_other h hne) hne) hne
theorem sec_aux {A w1 : World} (hb : Below (A.alloc (Obj.cells #[.int .i64 0, .int .i64 0, .string ⟨#[]⟩] 50)).drew.heap.size (A.alloc (Obj.cells #[.int .i64 0, .int .i64 0, .string ⟨#[]⟩] 50)).drew w1) :
    Hid (Below A.heap.size A.drew w1) ∧ (w1.cell? ⟨A.heap.size, 0, none⟩ = some (.int .i64 0) ∧ w1.cell? ⟨A.heap.size, 1, none⟩ = some (.int .i64 0) ∧ w1.cell? ⟨A.heap.size, 2, none⟩ = some (.string ⟨#[]⟩)) ∧ ∀ j, w1.frozen? ⟨A.heap.size, j, none⟩ = false := by
  have hsz : (A.alloc (Obj.cells #[.int .i64 0, .int .i64 0, .string ⟨#[]⟩] 50)).drew.heap.size = A.heap.size + 1 := by simp
  refine ⟨(show Below A.heap.size A.drew (A.alloc (Obj.cells #[.int .i64 0, .int .i64 0, .string ⟨#[]⟩] 50)).drew from ?_).trans (hb.mono (by omega)), ⟨?_, ?_, ?_⟩, fun j => ?_⟩
  · have : Below A.heap.size A (A.alloc (Obj.cells #[.int .i64 0, .int .i64 0, .string ⟨#[]⟩] 50)) := (Below.refl _ A).alloc (Nat.le_refl _) _
    exact ⟨this.os, this.tape, this.output, this.size, this.block⟩
  · exact (hb.cell (p := ⟨A.heap.size, 0, none⟩) (by show A.heap.size < _; omega)).trans (by simp)
  · exact (hb.cell (p := ⟨A.heap.size, 1, none⟩) (by show A.heap.size < _; omega)).trans (by simp)
  · exact (hb.cell (p := ⟨A.heap.size, 2, none⟩) (by show A.heap.size < _; omega)).trans (by simp)
  · exact (hb.frozen (p := ⟨A.heap.size, j, none⟩) (by show A.heap.size < _; omega)).trans (by simp)

set_option maxRecDepth 100000 in
set_option maxHeartbeats 3200000 in
theorem specSec_some (a : Option Addr) (p1 : Value) (e0 : Option Addr) (ps : List ByteArray) (ms : List Int) (c f S p : Nat) (q : Int) (w : World) (hp : Rd w a (vsString ps)) (hms : Rd w e0 (vsInt ms)) (hS : ms[S]? = some (p : Int)) (_hS6 : S < 26) (hpl : p < ps.length) (_hl : ps.length ≤ 1048576) (hs : ∀ s ∈ ps, s.size ≤ 1048576) :
    Calls Try.prog 91 #[.agg #[.slice a ps.length c, p1, .slice e0 ms.length f, .int .i64 q], .int .i64 S] w fun e w' => e = .returned (.string (recC ps p).2.2) ∧ Below w.heap.size w w' := by
  have hlt : S < ms.length := by
    rcases Nat.lt_or_ge S ms.length with h' | h'
    · exact h'
    · simp [h'] at hS
  obtain ⟨A, hA⟩ : ∃ A, A = w.alloc (Obj.cells #[.slice a ps.length c, p1, .slice e0 ms.length f, .int .i64 q] 47) := ⟨_, rfl⟩
  have hbA : Below w.heap.size w A := by rw [hA]; exact (Below.refl _ _).alloc (Nat.le_refl _) _
  have x0 : A.cell? ⟨w.heap.size, 0, none⟩ = some (.slice a ps.length c) := by rw [hA]; simp
  have x2 : A.cell? ⟨w.heap.size, 2, none⟩ = some (.slice e0 ms.length f) := by rw [hA]; simp
  obtain ⟨ba, oa, x, rfl, hcx, HX⟩ := rdInt_at (hms.below hbA) hlt
  obtain rfl : x = (p : Int) := by have := HX.out; rw [hS] at this; simpa using this.symm
  obtain ⟨bp, op, t, rfl, hct, HT⟩ := rdString_at (hp.below hbA) hpl
  have ht : Hid (t.size ≤ 1048576) := hs t (List.mem_of_getElem? HT.out)
  have he : ps[p]?.getD ByteArray.empty = t := by rw [HT.out]; rfl
  obtain ⟨s, q', d, B, he2, hcall⟩ : ∃ (s q : Int) (d : ByteArray) (B : Bool), Hid (recC ps p = (s, q, d)) ∧ Hid (∀ u, Calls Try.prog 75 #[.string t] u fun e w' => e = .returned (.tuple #[.agg #[.int .i64 s, .int .i64 q, .string d], .bool B]) ∧ Below u.heap.size u w') := by
    cases hr : recR t with
    | none => exact ⟨0, 0, ByteArray.empty, false, recC_none (by rw [he]; exact hr), fun u => (specRecRead_any t u ht.out).mono fun e w' h => ⟨h.2.1 hr, h.2.2⟩⟩
    | some r => obtain ⟨s, q, d⟩ := r; exact ⟨s, q, d, true, recC_some (by rw [he]; exact hr), fun u => (specRecRead_any t u ht.out).mono fun e w' h => ⟨h.1 s q d hr, h.2.2⟩⟩
  have hn0 : ¬ ((p : Int) < 0) := by omega
  have hltA := lt_of_cell x0
  have hltx := lt_of_cell hcx
  have hltt := lt_of_cell hct
  have HK : Hid (∀ u, Below A.heap.size A.drew u → u.cell? ⟨w.heap.size, 0, none⟩ = some (.slice (some ⟨bp, op, none⟩) ps.length c) ∧ u.cell? ⟨w.heap.size, 2, none⟩ = some (.slice (some ⟨ba, oa, none⟩) ms.length f) ∧ u.cell? ⟨ba, oa + S, none⟩ = some (.int .i64 p) ∧ u.cell? ⟨bp, op + p, none⟩ = some (.string t)) := fun u hu =>
    ⟨(hu.cell (p := ⟨w.heap.size, 0, none⟩) hltA).trans (by simpa using x0), (hu.cell (p := ⟨w.heap.size, 2, none⟩) hltA).trans (by simpa using x2), (hu.cell (p := ⟨ba, oa + S, none⟩) hltx).trans (by simpa using hcx), (hu.cell (p := ⟨bp, op + p, none⟩) hltt).trans (by simpa using hct)⟩
  have m1 : A.heap.size ≠ w.heap.size := by omega
  have m2 : A.heap.size ≠ ba := by omega
  have m3 : A.heap.size ≠ bp := by omega
  have HB := hide hbA
  clear hms hS hp hs he hbA
  go_enter Try.func91, Try.ntmps91
  go_wp2_with (rw [← hA]; clear hA)
  go_region_held (fun w' => w'.cell? ⟨w.heap.size, 0, none⟩ = some (.slice (some ⟨bp, op, none⟩) ps.length c) ∧ w'.cell? ⟨w.heap.size, 2, none⟩ = some (.slice (some ⟨ba, oa, none⟩) ms.length f) ∧ w'.cell? ⟨ba, oa + S, none⟩ = some (.int .i64 p) ∧ w'.cell? ⟨bp, op + p, none⟩ = some (.string t)) (first | assumption | go_keep | exact ⟨set3_keep hK1.1 m1, set3_keep hK1.2.1 m1, set3_keep hK1.2.2.1 m2, set3_keep hK1.2.2.2 m3⟩)
    ((first
      | (go_at_call 75; refine (hcall.out (A.alloc (Obj.cells #[.int .i64 0, .int .i64 0, .string ⟨#[]⟩] 50)).drew).mono ?_; rintro e w1 ⟨rfl, hb1⟩; obtain ⟨HBA, ⟨n0, n1, n2⟩, nf⟩ := sec_aux hb1; have hK1 := HK.out w1 HBA.out; clear hb1)
      | (go_at_call 75; refine (hcall.out A.drew).mono ?_; rintro e w1 ⟨rfl, hb1⟩; have hK1 := HK.out w1 hb1; have HBA : Hid (Below A.heap.size A.drew w1) := hb1; clear hb1)))
  all_goals
    have HBW : Hid (Below w.heap.size w w1) := (after_drew HB.out 1).trans (HBA.out.mono HB.out.size)
    have HSZ := hide HB.out.size
    clear HBA HK hcall hK1
  · go_wp2
    go_ret
    exact ⟨by rw [he2.out]; rfl, HBW.out.alloc HBW.out.size _⟩
  · go_wp2
    go_ret
    exact ⟨by rw [he2.out]; rfl, ((HBW.out.setCell HSZ.out _).setCell HSZ.out _).setCell HSZ.out _⟩

/-- What sector s has, of what is right. -/
def sectOf (ps : List ByteArray) (ws ms : List Int) (q s : Int) : ByteArray := if ftlOkB ps ws ms q = true ∧ 0 ≤ s ∧ s ≤ 25 then dataAt ps ((mMap ps)[s.toNat]?.getD (-1)) else ByteArray.empty

theorem ftlOk_parts {ps : List ByteArray} {ws ms : List Int} {q : Int} (h : ftlOkB ps ws ms q = true) : chipOkP ps ws ∧ mMap ps = ms ∧ mSeq ps = q := by
  simp only [ftlOkB, Bool.and_eq_true, decide_eq_true_eq] at h
  exact ⟨chipOkB_iff.1 h.1.1, h.1.2, h.2⟩

set_option maxHeartbeats 1600000 in
theorem specSector_any (a b e0 : Option Addr) (ps : List ByteArray) (ws ms : List Int) (c d f : Nat) (q s : Int) (w : World) (hp : Rd w a (vsString ps)) (hw : Rd w b (vsInt ws)) (hms : Rd w e0 (vsInt ms)) (hl : ps.length ≤ 1048576) (hm : ws.length ≤ 1048576) (hn : ms.length ≤ 1048576) (hs : ∀ s ∈ ps, s.size ≤ 1048576) :
    Calls Try.prog 46 #[.agg #[.slice a ps.length c, .slice b ws.length d, .slice e0 ms.length f, .int .i64 q], .int .i64 s] w fun e w' => e = .returned (.string (sectOf ps ws ms q s)) ∧ Below w.heap.size w w' := by
  obtain ⟨R, hR⟩ : ∃ R, R = sectOf ps ws ms q s := ⟨_, rfl⟩
  rw [← hR]
  obtain ⟨A, hA⟩ : ∃ A, A = w.alloc (Obj.cells #[.slice a ps.length c, .slice b ws.length d, .slice e0 ms.length f, .int .i64 q] 47) := ⟨_, rfl⟩
  have hbA : Below w.heap.size w A := by rw [hA]; exact (Below.refl _ _).alloc (Nat.le_refl _) _
  have xA : At A w.heap.size [.slice a ps.length c, .slice b ws.length d, .slice e0 ms.length f, .int .i64 q] := by rw [hA]; exact at_new w [.slice a ps.length c, .slice b ws.length d, .slice e0 ms.length f, .int .i64 q] _
  have x0 : A.cell? ⟨w.heap.size, 0, none⟩ = some (.slice a ps.length c) := xA.2 0 (by simp)
  have x1 : A.cell? ⟨w.heap.size, 1, none⟩ = some (.slice b ws.length d) := xA.2 1 (by simp)
  have x2 : A.cell? ⟨w.heap.size, 2, none⟩ = some (.slice e0 ms.length f) := xA.2 2 (by simp)
  have x3 : A.cell? ⟨w.heap.size, 3, none⟩ = some (.int .i64 q) := xA.2 3 (by simp)
  by_cases hin : 0 ≤ s ∧ s ≤ 25
  · have hd : decide (0 ≤ s ∧ s ≤ 25) = true := by simpa using hin
    have HF := hide (specFtlOk_any a b e0 ps ws ms c d f q A (hp.below hbA) (hw.below hbA) (hms.below hbA) hl hm hn hs)
    cases hok : ftlOkB ps ws ms q with
    | false =>
      have HR : Hid (R = ByteArray.empty) := by show _ = _; rw [hR, sectOf, if_neg (by simp [hok])]
      rw [hok] at HF
      clear hR hp hw hms hs hok
      go_enter Try.func46, Try.ntmps46
      go_wp2_with (first | (go_at_call 63; refine (in_any _ _ _ _).mono ?_; rw [hd]; rintro e u ⟨rfl, hu⟩; have hu' := hu.symm; subst hu') | (rw [← hA]; clear hA) | (go_at_call 33; refine HF.out.mono ?_; rintro e w1 ⟨rfl, hb1⟩; have HB1 := hide hb1; clear hb1))
      go_ret
      exact ⟨by rw [HR.out]; rfl, after hbA HB1.out⟩
    | true =>
      obtain ⟨hch, rfl, rfl⟩ := ftlOk_parts hok
      obtain ⟨S, rfl⟩ : ∃ S : Nat, s = S := ⟨s.toNat, by omega⟩
      obtain ⟨o, ho, ho1, ho2⟩ := map_old (ps := ps) (k := 60) (s := S) (by omega)
      have ho' : (mMap ps)[S]? = some o := ho
      have HR : Hid (R = dataAt ps o) := by show _ = _; rw [hR, sectOf, if_pos ⟨hok, hin⟩, Int.toNat_natCast, ho']; rfl
      have HSC : Hid (∀ u, Below A.heap.size A u → Calls Try.prog 91 #[.agg #[.slice a ps.length c, .slice b ws.length d, .slice e0 (mMap ps).length f, .int .i64 (mSeq ps)], .int .i64 S] u fun e w' => e = .returned (.string (dataAt ps o)) ∧ Below u.heap.size u w') := by
        intro u hu
        have hbu := after hbA hu
        by_cases hneg : o < 0
        · rw [dataAt, if_pos hneg]
          exact specSec_none _ _ e0 (mMap ps) f S _ o u (hms.below hbu) ho' (by omega) hneg
        · obtain ⟨p, rfl⟩ : ∃ p : Nat, o = p := ⟨o.toNat, by omega⟩
          rw [dataAt, if_neg hneg, Int.toNat_natCast]
          exact specSec_some a _ e0 ps (mMap ps) c f S p _ u (hp.below hbu) (hms.below hbu) ho' (by omega) (by have := hch.1; omega) hl hs
      rw [hok] at HF
      clear hR hp hw hms hs hok ho ho' hch ho1 ho2 hin
      go_enter Try.func46, Try.ntmps46
      go_wp2_with (first | (go_at_call 63; refine (in_any _ _ _ _).mono ?_; rw [hd]; rintro e u ⟨rfl, hu⟩; have hu' := hu.symm; subst hu') | (rw [← hA]; clear hA) | (go_at_call 33; refine HF.out.mono ?_; rintro e w1 ⟨rfl, hb1⟩; have HB1 := hide hb1; have x0 : w1.cell? ⟨w.heap.size, 0, none⟩ = some (.slice a ps.length c) := (xA.below hb1).2 0 (by simp); have x1 : w1.cell? ⟨w.heap.size, 1, none⟩ = some (.slice b ws.length d) := (xA.below hb1).2 1 (by simp); have x2 : w1.cell? ⟨w.heap.size, 2, none⟩ = some (.slice e0 (mMap ps).length f) := (xA.below hb1).2 2 (by simp); have x3 : w1.cell? ⟨w.heap.size, 3, none⟩ = some (.int .i64 (mSeq ps)) := (xA.below hb1).2 3 (by simp); clear hb1) | (go_at_call 91; refine (HSC.out _ HB1.out).mono ?_; rintro e w2 ⟨rfl, hb2⟩; have HB2 := hide hb2; clear hb2))
      go_ret
      exact ⟨by rw [HR.out]; rfl, after (after hbA HB1.out) HB2.out⟩
  · have hd : decide (0 ≤ s ∧ s ≤ 25) = false := by simpa using hin
    have HR : Hid (R = ByteArray.empty) := by show _ = _; rw [hR, sectOf, if_neg (fun h => hin h.2)]
    clear hR hp hw hms hs hin
    go_enter Try.func46, Try.ntmps46
    go_wp2_with (first | (go_at_call 63; refine (in_any _ _ _ _).mono ?_; rw [hd]; rintro e u ⟨rfl, hu⟩; have hu' := hu.symm; subst hu') | (rw [← hA]; clear hA))
    go_ret
    exact ⟨by rw [HR.out]; rfl, hbA⟩

end Go.Proofs.Ytelbannfbglgcaa
