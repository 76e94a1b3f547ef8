/-
  Contracts of both Views; the laws' helpers over rows of texts.
-/
import Derived.Test.YtdicjbabnknjhaaImplSector
namespace Go.Proofs.Ytdicjbabnknjhaa
open Go.RowKit

/-- What each sector of a chip that is right has. -/
def viewU (ps : List ByteArray) : List ByteArray := (List.range 26).map fun (s : Nat) => secD ps ((s : Nat) : Int)
theorem viewU_len (ps : List ByteArray) : (viewU ps).length = 26 := by simp [viewU]
theorem viewU_at (ps : List ByteArray) {k : Nat} (h : k < 26) : (viewU ps)[k]? = some (secD ps (k : Int)) := by simp [viewU, h]
/-- View of whatever came in. -/
def viewOf (ps : List ByteArray) (ws ms : List Int) (q : Int) : List ByteArray := if ftlOkB ps ws ms q = true then viewU ps else []
theorem viewOf_len (ps : List ByteArray) (ws ms : List Int) (q : Int) : (viewOf ps ws ms q).length ≤ 1000 := by
  unfold viewOf
  split
  · rw [viewU_len]; decide
  · simp

/-! Rows of texts. -/
def StrsRd (w : World) (v : Value) (xs : List ByteArray) : Prop := ∃ a c, v = .slice a xs.length c ∧ Rd w a (vsString xs)
def StrsOwn (w : World) (base : Nat) (v : Value) (xs : List ByteArray) : Prop := w.ownsRow base 9 1 v xs.length (vsString xs)
def StrsMk (w : World) (base : Nat) (v : Value) (n q : Nat) : Prop := w.ownsRow base 9 1 v n (marksT q n)
theorem StrsOwn.shape {u : World} {base : Nat} {v : Value} {xs : List ByteArray} (h : StrsOwn u base v xs) : ∃ a c, v = .slice a xs.length c := owns_shape h
theorem StrsOwn.rd {u : World} {base : Nat} {v : Value} {xs : List ByteArray} (h : StrsOwn u base v xs) : StrsRd u v xs := by
  obtain ⟨a, c, rfl⟩ := h.shape
  exact ⟨a, c, rfl, rd_of_own h⟩
theorem StrsRd.below {u u' : World} {v : Value} {xs : List ByteArray} (h : StrsRd u v xs) (hb : Below u.heap.size u u') : StrsRd u' v xs := by
  obtain ⟨a, c, rfl, h1⟩ := h
  exact ⟨a, c, rfl, h1.below hb⟩
theorem StrsOwn.below {u u' : World} {base : Nat} {v : Value} {xs : List ByteArray} (h : StrsOwn u base v xs) (hb : Below u.heap.size u u') : StrsOwn u' base v xs := owns_below h hb
theorem StrsMk.below {u u' : World} {base : Nat} {v : Value} {n q : Nat} (h : StrsMk u base v n q) (hb : Below u.heap.size u u') : StrsMk u' base v n q := owns_below h hb
theorem StrsOwn.only {u u' : World} {base : Nat} {v : Value} {xs : List ByteArray} {L : List (Option Nat)} (h : StrsOwn u base v xs) (hO : OnlyIn u u' L) (hn : ∀ k, some k ∈ bk v → some k ∉ L) : StrsOwn u' base v xs := by
  obtain ⟨a, c, rfl⟩ := h.shape
  exact hO.owns h (fun k hk => hn k (by rw [bk_slice, hk]; simp))
theorem StrsMk.only {u u' : World} {base : Nat} {v : Value} {n q : Nat} {L : List (Option Nat)} (h : StrsMk u base v n q) (hO : OnlyIn u u' L) (hn : ∀ k, some k ∈ bk v → some k ∉ L) : StrsMk u' base v n q := by
  obtain ⟨a, c, rfl⟩ := owns_shape h
  exact hO.owns h (fun k hk => hn k (by rw [bk_slice, hk]; simp))
theorem StrsOwn.blk {u : World} {base : Nat} {v : Value} {xs : List ByteArray} (h : StrsOwn u base v xs) {k : Nat} (hk : some k ∈ bk v) : base ≤ k ∧ k < u.heap.size := by
  obtain ⟨a, c, rfl⟩ := h.shape
  rw [bk_slice] at hk
  simp only [List.mem_cons, List.not_mem_nil, or_false] at hk
  exact World.ownsRow.lt h k hk.symm
theorem strs_eq {u : World} {v v' : Value} {xs : List ByteArray} (h : StrsRd u v xs) (h' : StrsRd u v' xs) (hl : xs.length ≤ 1048576) :
    Calls Try.prog 19 #[v, v'] u fun e w' => e = .returned (.bool true) ∧ Below u.heap.size u w' := by
  obtain ⟨a, c, rfl, h1⟩ := h
  obtain ⟨a', c', rfl, h1'⟩ := h'
  refine (eqStringS_any a a' xs xs c c' u h1 h1' (by omega) (by omega)).mono ?_
  rintro e w' ⟨rfl, n, rfl⟩
  exact ⟨ret_bool (by simp), after_drew (Below.refl _ _) n⟩
theorem strs_mark {u : World} {base : Nat} {v : Value} {xs : List ByteArray} {q : Nat} (h : StrsOwn u base v xs) (hl : xs.length ≤ 1048576) (hq0 : 0 < q) (hq : q ≤ 1000000) :
    Calls Try.prog 22 #[v, .int .i64 q] u fun e w' => e = .returned (.int .i64 ((q + xs.length : Nat) : Int)) ∧ StrsMk w' base v xs.length q ∧ OnlyIn u w' (bk v) := by
  obtain ⟨a, c, rfl⟩ := h.shape
  refine (markStringS_any (.slice a xs.length c) xs.length _ base q u h hl (by omega) hq0).mono ?_
  rintro e w' ⟨rfl, k1, hg⟩
  exact ⟨rfl, k1, OnlyIn.of_grown hg⟩
theorem strs_held {u : World} {base : Nat} {v : Value} {n q : Nat} (h : StrsMk u base v n q) (hl : n ≤ 1048576) (hq0 : 0 < q) (hq : q ≤ 1000000) :
    Calls Try.prog 23 #[v, .int .i64 q] u fun e w' => e = .returned (.int .i64 ((q + n : Nat) : Int)) ∧ Below u.heap.size u w' :=
  heldStringS_any v n base q u h hl (by omega) hq0

/-- What l4Sector answers of a chip that is right. -/
theorem specSec_any (a e0 : Option Addr) (p1 : Value) (ps : List ByteArray) (c f S : Nat) (q : Int) (w : World) (hp : Rd w a (vsString ps)) (hms : Rd w e0 (vsInt (mMap ps))) (hch : ps.length = 60) (hS : S < 26) (hs : ∀ s ∈ ps, s.size ≤ 1048576) :
    Calls Try.prog 43 #[.agg #[.slice a ps.length c, p1, .slice e0 (mMap ps).length f, .int .i64 q], .int .i64 S] w fun e w' => e = .returned (.string (secD ps S)) ∧ Below w.heap.size w w' := by
  obtain ⟨o, ho, ho1, ho2⟩ := map_old (ps := ps) (k := 60) (s := S) hS
  have ho' : (mMap ps)[S]? = some o := ho
  have e : secD ps S = dataAt ps o := by rw [secD, if_pos (by omega), Int.toNat_natCast, ho']; rfl
  rw [e]
  by_cases hneg : o < 0
  · rw [dataAt, if_pos hneg]
    exact specSec_none _ _ e0 (mMap ps) f S _ o w hms ho' hS hneg
  · obtain ⟨p, rfl⟩ : ∃ p : Nat, o = p := ⟨o.toNat, by omega⟩
    rw [dataAt, if_neg hneg, Int.toNat_natCast]
    exact specSec_some a _ e0 ps (mMap ps) c f S p _ w hp hms ho' hS (by omega) (by omega) hs

end Go.Proofs.Ytdicjbabnknjhaa
