/-
  Contracts of impl.PutText and spec.PutText: each hands back a new row of the text's bytes.
-/
import Derived.Test.YtdicjbabnknjhaaPut
import Derived.Lib.AppendStr
import Derived.Laws.IdiomStrings
namespace Go.Proofs.Ytdicjbabnknjhaa
open Go.RowKit

/-- A string's bytes. -/
def strB (s : ByteArray) : List Int := s.data.toList.map fun b => (b.toNat : Int)
theorem strB_cells (s : ByteArray) : u8s (strB s) = Lib.strCells s := by simp [u8s, strB, Lib.strCells]
theorem strB_len (s : ByteArray) : (strB s).length = s.size := by
  have := Lib.strCells_length s
  rw [← strB_cells] at this; simpa [u8s] using this
theorem strB_bytes (s : ByteArray) : IsBytes (strB s) := by
  intro z hz
  simp only [strB, List.mem_map] at hz
  obtain ⟨b, _, rfl⟩ := hz
  have := b.toNat_lt
  omega
/-- What PutText tells. -/
def textB (s : ByteArray) : List Int := if 400 < s.size then [] else putB s.size ++ strB s
theorem textB_bytes (s : ByteArray) : IsBytes (textB s) := by
  unfold textB
  split
  · intro z hz; simp at hz
  · intro z hz
    simp only [List.mem_append] at hz
    rcases hz with hz | hz
    · exact putB_bytes _ z hz
    · exact strB_bytes _ z hz
theorem textB_len (s : ByteArray) : (textB s).length ≤ 405 := by
  unfold textB
  split
  · simp
  · have := putB_len s.size; rw [List.length_append, strB_len]; omega

/-- The row that '[]byte(s)' has laid begins with the string's bytes. -/
theorem bytes_lie (s : ByteArray) (w : World) (c : Nat) : ∀ j u, (Lib.strCells s)[j]? = some u →
    (w.alloc (Obj.cells (bytesRow s c) 5 ((bytesRow s c).size, (bytesRow s c).size + 1))).drew.cell? ((⟨w.heap.size, 0, none⟩ : Addr).add j) = some u := by
  intro j u hu
  rw [add_at, Nat.zero_add]
  have hj : j < (Lib.strCells s).length := by
    rcases Nat.lt_or_ge j (Lib.strCells s).length with h | h
    · exact h
    · simp [h] at hu
  rw [Lib.strCells_length] at hj
  show (w.alloc _).cell? _ = _
  rw [World.cell?_alloc_mark]
  have hj' : j < s.data.size := hj
  simp [Lib.strCells] at hu
  obtain ⟨x, hx, hxu⟩ := hu
  rw [Array.getElem?_eq_getElem hj'] at hx
  simp only [Option.some.injEq] at hx
  subst hx
  simp [bytesRow, Array.getElem?_append, hj]
  exact hxu

/-- Behind an append onto a row of the call's own, one block having been laid ahead of it: below the row's base nothing has turned. -/
theorem below_new {w w' : World} {o : Obj} {base : Nat} {e : TypeId} {size : Nat} {v : Value} {n : Nat} {xs : List Value} (h : w.ownsRow base e size v n xs) (hg : (w.alloc o).drew.grownBy w' v.ownBlock) (hB : base ≤ w.heap.size) : Below base w w' := by
  have h1 : Below base w (w.alloc o).drew := ((Below.refl _ _).alloc hB o).drew
  exact h1.grown hg (by simp; omega) (fun k hk => (h.lt k hk).1)

set_option maxRecDepth 100000 in
set_option maxHeartbeats 800000 in
theorem implPutText_any (s : ByteArray) (w : World) (hs : s.size ≤ maxLen) :
    Calls Try.prog 32 #[.string s] w fun e w' => ∃ v, e = .returned v ∧ w'.ownsRow w.heap.size 5 1 v (textB s).length (u8s (textB s)) ∧ Below w.heap.size w w' := by
  obtain ⟨i0, hi, hz0, hz1, hz2⟩ := info_parts info5
  unfold maxLen at hs
  by_cases hbig : (400 : Int) < (s.size : Int)
  · have ht : Hid (textB s = []) := by show _ = _; unfold textB; rw [if_pos (by omega)]
    go_enter Try.func32, Try.ntmps32
    go_wp2
    go_ret
    exact ⟨_, rfl, by rw [ht.out]; exact World.ownsRow_nil _ _ _ _, Below.refl _ _⟩
  · have ht : Hid (textB s = putB s.size ++ strB s) := by show _ = _; unfold textB; rw [if_neg (by omega)]
    have hpl := putB_len s.size
    go_enter Try.func32, Try.ntmps32
    go_wp2_with fail
    refine (implPutNum_any (s.size : Int) _ (by omega) (by omega)).mono ?_
    rintro e w1 ⟨v, rfl, ho, hb⟩
    go_wp2_with (at_builtin; go_must (refine Lib.wpList_append_own_string _ rfl _ _ 54 9 rfl w.heap.size 5 i0 Try.underlying54 Try.underlying9 hi hz0 hz1 hz2 _ _ _ rfl ho s rfl (by unfold maxLen; omega) (by omega) hb.size ?_); intro v' w2 ho' hg' _)
    go_ret
    refine ⟨_, rfl, ?_, hb.trans (grown_below ho hg' hb.size)⟩
    rw [ht.out, List.length_append, strB_len]
    have e : u8s (putB s.size ++ strB s) = u8s (putB s.size) ++ Lib.strCells s := by rw [← strB_cells]; simp [u8s]
    rw [e]; exact ho'

set_option maxRecDepth 100000 in
set_option maxHeartbeats 800000 in
theorem specPutText_any (s : ByteArray) (w : World) (hs : s.size ≤ maxLen) :
    Calls Try.prog 27 #[.string s] w fun e w' => ∃ v, e = .returned v ∧ w'.ownsRow w.heap.size 5 1 v (textB s).length (u8s (textB s)) ∧ Below w.heap.size w w' := by
  obtain ⟨i0, hi, hz0, hz1, hz2⟩ := info_parts info5
  unfold maxLen at hs
  by_cases hbig : (400 : Int) < (s.size : Int)
  · have ht : Hid (textB s = []) := by show _ = _; unfold textB; rw [if_pos (by omega)]
    have hown0 : (w.alloc (Obj.cells #[] 5)).ownsRow w.heap.size 5 1 (.slice (some ⟨w.heap.size, 0, none⟩) 0 0) 0 [] := World.ownsRow_lit w #[] 0 (Nat.le_refl _) (by unfold maxLen; omega) rfl
    go_enter Try.func27, Try.ntmps27
    go_wp2
    go_ret
    exact ⟨_, rfl, by rw [ht.out]; exact hown0, (Below.refl _ _).alloc (Nat.le_refl _) _⟩
  · have ht : Hid (textB s = putB s.size ++ strB s) := by show _ = _; unfold textB; rw [if_neg (by omega)]
    have hpl := putB_len s.size
    have hcv := fun w => run_bytes_of_string (P := Try.prog) w 9 54 5 s Try.underlying9 Try.underlying54 Try.underlying5
    go_enter Try.func27, Try.ntmps27
    go_wp2_with fail
    refine (specPutNum_any (s.size : Int) _ (by omega) (by omega)).mono ?_
    rintro e w1 ⟨v, rfl, ho, hb⟩
    go_wp2_with (at_builtin; go_must (refine wpList_append_own _ rfl _ _ 54 rfl w.heap.size 5 i0 (.int .u8 0) 1 1 Try.underlying54 hi hz0 hz1 hz2 rfl (by decide) _ _ _ rfl (ho.alloc _).drew ⟨w1.heap.size, 0, none⟩ s.size _ (Lib.strCells s) rfl (by rw [Lib.strCells_length, Nat.mul_one]) (bytes_lie s w1 _) (Lib.strCells_oneCell s) (by unfold maxLen; omega) (by omega) (by have := hb.size; simp; omega) ?_); intro v' w2 ho' hg' _)
    go_ret
    refine ⟨_, rfl, ?_, hb.trans (below_new ho hg' hb.size)⟩
    rw [ht.out, List.length_append, strB_len]
    have e : u8s (putB s.size ++ strB s) = u8s (putB s.size) ++ Lib.strCells s := by rw [← strB_cells]; simp [u8s]
    rw [e]; exact ho'

end Go.Proofs.Ytdicjbabnknjhaa
