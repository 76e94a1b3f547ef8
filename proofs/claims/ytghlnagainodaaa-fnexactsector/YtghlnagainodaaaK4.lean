/-
  Contracts of impl.PutText and spec.PutText: each hands back a new row of the text's bytes.
  Contracts of impl.GetText and spec.GetText.
  Numbers and texts against their bytes: what is put is got, and what is got was put.
  Contracts of the two sums (impl.Sum, spec.Sum) and of the laws' helpers toByteS, eqByteS over byte slices.
-/
import Derived.Test.YtghlnagainodaaaK3
import Derived.Lib.AppendStr
import Derived.Laws.IdiomStrings
import Derived.Test.YtghlnagainodaaaChecked
import Derived.Test.YtghlnagainodaaaK0
import Derived.Deep.QuietTactic
import Derived.BigQuiet
namespace Go.Proofs.Ytghlnagainodaaa
open Go.RowKit

/-- A string's bytes. -/
def strB (s : ByteArray) : List Int := s.data.toList.map fun b => (b.toNat : Int)
theorem strB_cells (s : ByteArray) : u8s (strB s) = Lib.strCells s := by simp [u8s, strB, Lib.strCells]
theorem strB_len (s : ByteArray) : (strB s).length = s.size := by
  have := Lib.strCells_length s
  rw [← strB_cells] at this; simpa [u8s] using this
theorem strB_bytes (s : ByteArray) : IsBytes (strB s) := by
  intro z hz
  simp only [strB, List.mem_map] at hz
  obtain ⟨b, _, rfl⟩ := hz
  have := b.toNat_lt
  omega
/-- What PutText tells. -/
def textB (s : ByteArray) : List Int := if 400 < s.size then [] else putB s.size ++ strB s
theorem textB_bytes (s : ByteArray) : IsBytes (textB s) := by
  unfold textB
  split
  · intro z hz; simp at hz
  · intro z hz
    simp only [List.mem_append] at hz
    rcases hz with hz | hz
    · exact putB_bytes _ z hz
    · exact strB_bytes _ z hz
theorem textB_len (s : ByteArray) : (textB s).length ≤ 405 := by
  unfold textB
  split
  · simp
  · have := putB_len s.size; rw [List.length_append, strB_len]; omega

/-- The row that '[]byte(s)' has laid begins with the string's bytes. -/
theorem bytes_lie (s : ByteArray) (w : World) (c : Nat) : ∀ j u, (Lib.strCells s)[j]? = some u →
    (w.alloc (Obj.cells (bytesRow s c) 5 ((bytesRow s c).size, (bytesRow s c).size + 1))).drew.cell? ((⟨w.heap.size, 0, none⟩ : Addr).add j) = some u := by
  intro j u hu
  rw [add_at, Nat.zero_add]
  have hj : j < (Lib.strCells s).length := by
    rcases Nat.lt_or_ge j (Lib.strCells s).length with h | h
    · exact h
    · simp [h] at hu
  rw [Lib.strCells_length] at hj
  show (w.alloc _).cell? _ = _
  rw [World.cell?_alloc_mark]
  have hj' : j < s.data.size := hj
  simp [Lib.strCells] at hu
  obtain ⟨x, hx, hxu⟩ := hu
  rw [Array.getElem?_eq_getElem hj'] at hx
  simp only [Option.some.injEq] at hx
  subst hx
  simp [bytesRow, Array.getElem?_append, hj]
  exact hxu

/-- Behind an append onto a row of the call's own, one block having been laid ahead of it: below the row's base nothing has turned. -/
theorem below_new {w w' : World} {o : Obj} {base : Nat} {e : TypeId} {size : Nat} {v : Value} {n : Nat} {xs : List Value} (h : w.ownsRow base e size v n xs) (hg : (w.alloc o).drew.grownBy w' v.ownBlock) (hB : base ≤ w.heap.size) : Below base w w' := by
  have h1 : Below base w (w.alloc o).drew := ((Below.refl _ _).alloc hB o).drew
  exact h1.grown hg (by simp; omega) (fun k hk => (h.lt k hk).1)

set_option maxRecDepth 100000 in
set_option maxHeartbeats 800000 in
theorem specPutText_any (s : ByteArray) (w : World) (hs : s.size ≤ maxLen) :
    Calls Try.prog 59 #[.string s] w fun e w' => ∃ v, e = .returned v ∧ w'.ownsRow w.heap.size 5 1 v (textB s).length (u8s (textB s)) ∧ Below w.heap.size w w' := by
  obtain ⟨i0, hi, hz0, hz1, hz2⟩ := info_parts info5
  unfold maxLen at hs
  by_cases hbig : (400 : Int) < (s.size : Int)
  · have ht : Hid (textB s = []) := by show _ = _; unfold textB; rw [if_pos (by omega)]
    have hown0 : (w.alloc (Obj.cells #[] 5)).ownsRow w.heap.size 5 1 (.slice (some ⟨w.heap.size, 0, none⟩) 0 0) 0 [] := World.ownsRow_lit w #[] 0 (Nat.le_refl _) (by unfold maxLen; omega) rfl
    go_enter Try.func59, Try.ntmps59
    go_wp2
    go_ret
    exact ⟨_, rfl, by rw [ht.out]; exact hown0, (Below.refl _ _).alloc (Nat.le_refl _) _⟩
  · have ht : Hid (textB s = putB s.size ++ strB s) := by show _ = _; unfold textB; rw [if_neg (by omega)]
    have hpl := putB_len s.size
    have hcv := fun w => run_bytes_of_string (P := Try.prog) w 9 64 5 s Try.underlying9 Try.underlying64 Try.underlying5
    go_enter Try.func59, Try.ntmps59
    go_wp2_with fail
    refine (specPutNum_any (s.size : Int) _ (by omega) (by omega)).mono ?_
    rintro e w1 ⟨v, rfl, ho, hb⟩
    go_wp2_with (at_builtin; go_must (refine wpList_append_own _ rfl _ _ 64 rfl w.heap.size 5 i0 (.int .u8 0) 1 1 Try.underlying64 hi hz0 hz1 hz2 rfl (by decide) _ _ _ rfl (ho.alloc _).drew ⟨w1.heap.size, 0, none⟩ s.size _ (Lib.strCells s) rfl (by rw [Lib.strCells_length, Nat.mul_one]) (bytes_lie s w1 _) (Lib.strCells_oneCell s) (by unfold maxLen; omega) (by omega) (by have := hb.size; simp; omega) ?_); intro v' w2 ho' hg' _)
    go_ret
    refine ⟨_, rfl, ?_, hb.trans (below_new ho hg' hb.size)⟩
    rw [ht.out, List.length_append, strB_len]
    have e : u8s (putB s.size ++ strB s) = u8s (putB s.size) ++ Lib.strCells s := by rw [← strB_cells]; simp [u8s]
    rw [e]; exact ho'

end Go.Proofs.Ytghlnagainodaaa

namespace Go.Proofs.Ytghlnagainodaaa
open Go.RowKit

theorem getF_bd {zs : List Int} {f j : Nat} {u n m : Int} {q : Nat} (hb : IsBytes zs) (hu : 0 ≤ u) (hn : 0 ≤ n) (h : getF zs f j u n = some (m, q)) : 0 ≤ m ∧ m ≤ 1000000000 ∧ q ≤ zs.length ∧ 1 ≤ q := by
  induction f generalizing j u n with
  | zero => simp [getF] at h
  | succ f ih =>
    unfold getF at h
    have hz := hb.at j
    have hmul : 0 ≤ zs[j]?.getD 0 % 128 * u := Int.mul_nonneg (by omega) hu
    by_cases hj : j < zs.length
    · rw [if_pos hj] at h
      by_cases h1 : 128 ≤ zs[j]?.getD 0
      · rw [if_pos h1] at h
        exact ih (by omega) (by omega) h
      · rw [if_neg h1] at h
        by_cases h2 : 1000000000 < n + zs[j]?.getD 0 % 128 * u ∨ zs[j]?.getD 0 = 0 ∧ 1 < u
        · rw [if_pos h2] at h; simp at h
        · rw [if_neg h2] at h
          simp only [Option.some.injEq, Prod.mk.injEq] at h
          obtain ⟨rfl, rfl⟩ := h
          omega
    · rw [if_neg hj] at h; simp at h
theorem getN_bd {zs : List Int} {i m : Int} {q : Nat} (hb : IsBytes zs) (h : getN zs i = some (m, q)) : 0 ≤ m ∧ m ≤ 1000000000 ∧ q ≤ zs.length ∧ 1 ≤ q := by
  unfold getN at h
  by_cases h0 : 0 ≤ i
  · rw [if_pos h0] at h; exact getF_bd hb (by omega) (by omega) h
  · rw [if_neg h0] at h; simp at h

/-- What GetText tells: the text's bytes and the place behind it. -/
def getT (zs : List Int) (i : Int) : Option (List Int × Nat) :=
  match getN zs i with
  | none => none
  | some (n, j) => if 400 < n ∨ (zs.length : Int) - j < n then none else some ((zs.drop j).take n.toNat, j + n.toNat)
/-- The text that is cut out of bytes, wherever the cut lies. -/
theorem conv_cut {w : World} {b off j N c : Nat} {zs : List Int} (hb : IsBytes zs) (hc : ∀ i, i < zs.length → w.cell? ⟨b, off + i, none⟩ = some (.int .u8 (zs.getD i 0))) (h : j + N ≤ zs.length) :
    (convert 64 9 (.slice (some ⟨b, off + j, none⟩) N c)).run Try.prog w = .ok (.string (strOf ((zs.drop j).take N))) w := by
  have hl : ((zs.drop j).take N).length = N := by simp; omega
  have hb' : IsBytes ((zs.drop j).take N) := fun z hz => hb z (List.mem_of_mem_drop (List.mem_of_mem_take hz))
  have := conv_bytes (w := w) (b := b) (o := off + j) (c := c) hb' (by
    intro i hi
    rw [hl] at hi
    rw [Nat.add_assoc, hc (j + i) (by omega)]
    simp [hi, show j + i < zs.length by omega])
  rw [hl] at this
  exact this
theorem conv_none {w : World} {b o c : Nat} : (convert 64 9 (.slice (some ⟨b, o, none⟩) 0 c)).run Try.prog w = .ok (.string (strOf [])) w :=
  conv_bytes (ys := []) (fun z hz => by simp at hz) (fun i hi => by simp at hi)

set_option maxRecDepth 100000 in
set_option maxHeartbeats 1600000 in
theorem specGetText_any (a : Option Addr) (zs : List Int) (cap : Nat) (i : Int) (w : World) (hr : Rd w a (u8s zs)) (hb : IsBytes zs) (hm : zs.length ≤ 1048576) (hcap : zs.length ≤ cap) (hi : i ≤ 9223372036854775807) :
    Calls Try.prog 50 #[.slice a zs.length cap, .int .i64 i] w fun e w' => (getT zs i = none → e = .returned (.tuple #[.string ByteArray.empty, .int .i64 0, .bool false])) ∧ (∀ ys j, getT zs i = some (ys, j) → e = .returned (.tuple #[.string (strOf ys), .int .i64 (j : Nat), .bool true])) ∧ w' = w := by
  go_enter Try.func50, Try.ntmps50
  go_wp2_with fail
  refine (specGetNum_any a zs cap i _ hr hb hm hi).mono ?_
  rintro e w1 ⟨hno, hyes, rfl⟩
  cases hg : getN zs i with
  | none =>
    obtain rfl := hno hg
    have ht : Hid (getT zs i = none) := by show _ = _; unfold getT; rw [hg]
    clear hno hyes hg hr
    go_wp2
    go_ret3
    exact ⟨fun _ => rfl, fun ys j h => absurd h (by rw [ht.out]; simp), rfl⟩
  | some r =>
    obtain ⟨n, j⟩ := r
    obtain rfl := hyes n j hg
    have hbd := getN_bd hb hg
    obtain ⟨N, rfl⟩ : ∃ N : Nat, n = N := ⟨n.toNat, by omega⟩
    have hj1 : 1 ≤ j := hbd.2.2.2
    have hj2 : j ≤ zs.length := hbd.2.2.1
    clear hbd
    obtain ⟨b, off, rfl, hc⟩ := rd_u8 (k := 0) hr (by omega)
    clear hr
    by_cases h4 : (400 : Int) < (N : Int)
    · have ht : Hid (getT zs i = none) := by show _ = _; unfold getT; rw [hg]; simp only []; rw [if_pos (Or.inl h4)]
      clear hno hyes hg hc
      go_wp2
      go_ret3
      exact ⟨fun _ => rfl, fun ys j h => absurd h (by rw [ht.out]; simp), rfl⟩
    by_cases h5 : (zs.length : Int) - j < N
    · have ht : Hid (getT zs i = none) := by show _ = _; unfold getT; rw [hg]; simp only []; rw [if_pos (Or.inr h5)]
      clear hno hyes hg hc
      go_wp2
      go_ret3
      exact ⟨fun _ => rfl, fun ys j h => absurd h (by rw [ht.out]; simp), rfl⟩
    have ht : Hid (getT zs i = some ((zs.drop j).take N, j + N)) := by show _ = _; unfold getT; rw [hg]; simp only []; rw [if_neg (by omega)]; simp
    have fin : (getT zs i = none → Ending.returned (.tuple #[.string (strOf ((zs.drop j).take N)), .int .i64 ((j : Int) + N), .bool true]) = .returned (.tuple #[.string ByteArray.empty, .int .i64 0, .bool false])) ∧ (∀ ys (q : Nat), getT zs i = some (ys, q) → Ending.returned (.tuple #[.string (strOf ((zs.drop j).take N)), .int .i64 ((j : Int) + N), .bool true]) = .returned (.tuple #[.string (strOf ys), .int .i64 (q : Nat), .bool true])) := by
      refine ⟨fun h => absurd h (by rw [ht.out]; simp), fun ys q h => ?_⟩
      rw [ht.out] at h
      simp only [Option.some.injEq, Prod.mk.injEq] at h
      obtain ⟨rfl, rfl⟩ := h
      push_cast
      rfl
    have HF : Hid _ := fin
    clear fin hno hyes hg
    by_cases hcj : cap = j
    · have hN : N = 0 := by omega
      subst hN
      have hcv := @conv_none w1 b off 0
      clear hc
      go_wp2
      go_ret3
      exact ⟨by simpa using HF.out.1, by simpa using HF.out.2, rfl⟩
    · have hcv := conv_cut (c := cap - j) (j := j) (N := N) hb hc (by omega)
      clear hc
      go_wp2
      go_ret3
      exact ⟨HF.out.1, HF.out.2, rfl⟩

/-- How taking a text ends. -/
def TookT (pb : Nat) (r : Option (List Int × Nat)) (e : Ending) (w' : World) : Prop :=
  match r with
  | none => ∃ s, e = .panicked [{ v := .iface 9 (.string s), recovered := false }]
  | some (ys, j) => e = .returned (.string (strOf ys)) ∧ w'.cell? ⟨pb, 0, none⟩ = some (.int .i64 j) ∧ w'.frozen? ⟨pb, 0, none⟩ = false
theorem tookT_no {pb : Nat} {r : Option (List Int × Nat)} {e : Ending} {w' : World} {s : ByteArray} (h : r = none) (he : e = .panicked [{ v := .iface 9 (.string s), recovered := false }]) : TookT pb r e w' := by subst h; exact ⟨s, he⟩
theorem tookT_yes {pb : Nat} {r : Option (List Int × Nat)} {e : Ending} {w' : World} {ys : List Int} {j : Nat} (h : r = some (ys, j)) (he : e = .returned (.string (strOf ys))) (hc : w'.cell? ⟨pb, 0, none⟩ = some (.int .i64 j)) (hf : w'.frozen? ⟨pb, 0, none⟩ = false) : TookT pb r e w' := by subst h; exact ⟨he, hc, hf⟩

set_option maxRecDepth 100000 in
set_option maxHeartbeats 1600000 in
theorem takeText_grown (a : Option Addr) (zs : List Int) (cap pb : Nat) (i0 : Int) (w : World) (hr : ∀ w', Below pb w w' → Rd w' a (u8s zs)) (hb : IsBytes zs) (hm : zs.length ≤ 1048576) (hcap : zs.length ≤ cap) (hp : w.cell? ⟨pb, 0, none⟩ = some (.int .i64 i0)) (hf : w.frozen? ⟨pb, 0, none⟩ = false) :
    Calls Try.prog 72 #[.slice a zs.length cap, .pointer (some ⟨pb, 0, none⟩)] w fun e w' => w.grownBy w' (some pb) ∧ TookT pb (getT zs i0) e w' := by
  have hpb : pb ≤ w.heap.size := Nat.le_of_lt (lt_of_cell hp)
  go_enter Try.func72, Try.ntmps72
  go_wp2_with fail
  refine (takeNum_grown a zs cap pb i0 _ hr hb hm hp hf).mono ?_
  rintro e w1 ⟨hb1, ht⟩
  cases hg : getN zs i0 with
  | none =>
    rw [hg] at ht
    obtain ⟨s, rfl⟩ := ht
    have hT : Hid (getT zs i0 = none) := by show _ = _; unfold getT; rw [hg]
    clear hg hr hp hf
    go_wp2
    exact ⟨rfl, hb1, tookT_no hT.out rfl⟩
  | some r =>
    obtain ⟨n, j⟩ := r
    rw [hg] at ht
    obtain ⟨rfl, c4, g4⟩ := ht
    have hbd := getN_bd hb hg
    obtain ⟨N, rfl⟩ : ∃ N : Nat, n = N := ⟨n.toNat, by omega⟩
    have hj1 : 1 ≤ j := hbd.2.2.2
    have hj2 : j ≤ zs.length := hbd.2.2.1
    have hN2 : (N : Int) ≤ 1000000000 := hbd.2.1
    clear hbd hp hf
    have hr2 : Rd (w1.setCell ⟨pb, 0, none⟩ (.int .i64 ((j : Int) + N))) a (u8s zs) := hr _ (belowGrown (grownSet hb1 _ _) hpb)
    obtain ⟨b, off, rfl, hc⟩ := rd_u8 (k := 0) hr2 (by omega)
    clear hr hr2
    by_cases h4 : (400 : Int) < (N : Int)
    · have hT : Hid (getT zs i0 = none) := by show _ = _; unfold getT; rw [hg]; simp only []; rw [if_pos (Or.inl h4)]
      clear hg hc
      go_wp2
      exact ⟨rfl, hb1, tookT_no hT.out rfl⟩
    by_cases h5 : (zs.length : Int) - j < N
    · have hT : Hid (getT zs i0 = none) := by show _ = _; unfold getT; rw [hg]; simp only []; rw [if_pos (Or.inr h5)]
      clear hg hc
      go_wp2
      exact ⟨rfl, hb1, tookT_no hT.out rfl⟩
    have hT : Hid (getT zs i0 = some ((zs.drop j).take N, j + N)) := by show _ = _; unfold getT; rw [hg]; simp only []; rw [if_neg (by omega)]; simp
    have hend : Hid ((w1.setCell ⟨pb, 0, none⟩ (.int .i64 ((j : Int) + N))).cell? ⟨pb, 0, none⟩ = some (.int .i64 ((j + N : Nat) : Int)) ∧ (w1.setCell ⟨pb, 0, none⟩ (.int .i64 ((j : Int) + N))).frozen? ⟨pb, 0, none⟩ = false ∧ w.grownBy (w1.setCell ⟨pb, 0, none⟩ (.int .i64 ((j : Int) + N))) (some pb)) := by
      refine ⟨?_, ?_, grownSet hb1 _ _⟩
      · rw [World.cell?_setCell_same w1 _ _ c4]; simp
      · simp [g4]
    clear hg
    by_cases hcj : cap = j
    · have hN : N = 0 := by omega
      subst hN
      have hcv := fun w => @conv_none w b off 0
      clear hc
      go_wp2
      go_ret
      exact ⟨by simpa using hend.out.2.2, tookT_yes hT.out (by simp) (by simpa using hend.out.1) (by simpa using hend.out.2.1)⟩
    · have hcv := conv_cut (c := cap - j) (j := j) (N := N) hb hc (by omega)
      clear hc
      go_wp2
      go_ret
      exact ⟨hend.out.2.2, tookT_yes hT.out rfl hend.out.1 hend.out.2.1⟩

theorem takeText_any (a : Option Addr) (zs : List Int) (cap pb : Nat) (i0 : Int) (w : World) (hr : ∀ w', Below pb w w' → Rd w' a (u8s zs)) (hb : IsBytes zs) (hm : zs.length ≤ 1048576) (hcap : zs.length ≤ cap) (hp : w.cell? ⟨pb, 0, none⟩ = some (.int .i64 i0)) (hf : w.frozen? ⟨pb, 0, none⟩ = false) :
    Calls Try.prog 72 #[.slice a zs.length cap, .pointer (some ⟨pb, 0, none⟩)] w fun e w' => Below pb w w' ∧ TookT pb (getT zs i0) e w' :=
  (takeText_grown a zs cap pb i0 w hr hb hm hcap hp hf).mono fun _ _ h => ⟨belowGrown h.1 (Nat.le_of_lt (lt_of_cell hp)), h.2⟩

end Go.Proofs.Ytghlnagainodaaa

namespace Go.Proofs.Ytghlnagainodaaa
open Go.RowKit

theorem at_mid {α : Type} (p r : List α) (x : α) : (p ++ x :: r)[p.length]? = some x := by simp

theorem getF_numF (f : Nat) (m : Int) (p r : List Int) (u n : Int) (h0 : 0 ≤ m) (h1 : m < lim f) (hu : 1 ≤ u) (hz : 1 < u → 0 < m) (hn : n + m * u ≤ 1000000000) :
    getF (p ++ (numF f m ++ r)) (f + 1) p.length u n = some (n + m * u, p.length + (numF f m).length) := by
  induction f generalizing m p u n with
  | zero =>
    simp only [lim] at h1
    unfold getF
    have e : (p ++ (numF 0 m ++ r))[p.length]?.getD 0 = m := by simp [numF]
    rw [if_pos (by simp [numF]), e, if_neg (by omega)]
    have hm : m % 128 = m := by omega
    rw [hm, if_neg (by rintro (h | ⟨rfl, h⟩)
                       · omega
                       · have := hz h; omega)]
    simp [numF]
  | succ f ih =>
    by_cases hs : m < 128
    · rw [numF_small hs]
      unfold getF
      have e : (p ++ ([m] ++ r))[p.length]?.getD 0 = m := by simp
      rw [if_pos (by simp), e, if_neg (by omega)]
      have hm : m % 128 = m := by omega
      rw [hm, if_neg (by rintro (h | ⟨rfl, h⟩)
                         · omega
                         · have := hz h; omega)]
      simp
    · rw [numF_great hs]
      unfold getF
      have e : (p ++ ((m % 128 + 128) :: numF f (m / 128) ++ r))[p.length]?.getD 0 = m % 128 + 128 := by simp
      rw [if_pos (by simp), e, if_pos (by omega)]
      have hm : (m % 128 + 128) % 128 = m % 128 := by omega
      rw [hm]
      have hmu : n + m % 128 * u + m / 128 * (u * 128) = n + m * u := by
        have : m = m % 128 + m / 128 * 128 := by omega
        have h2 : m * u = (m % 128 + m / 128 * 128) * u := by rw [← this]
        rw [h2, Int.add_mul, Int.mul_assoc, Int.mul_comm 128 u]; omega
      have := ih (m / 128) (p ++ [m % 128 + 128]) (u * 128) (n + m % 128 * u) (by omega) (lim_div h1) (by omega) (by omega) (by rw [hmu]; exact hn)
      simp only [List.append_assoc, List.singleton_append, List.length_append, List.length_singleton] at this
      rw [hmu] at this
      simp only [List.cons_append]
      rw [this]
      simp only [List.length_cons]
      congr 2
      omega

theorem getN_putB {x : Int} (r : List Int) (h0 : 0 ≤ x) (h1 : x ≤ 1000000000) : getN (putB x ++ r) 0 = some (x, (putB x).length) := by
  unfold getN putB
  rw [if_pos (by omega), if_pos ⟨h0, h1⟩]
  have := getF_numF 4 x [] r 1 0 h0 (by simp [lim]; omega) (by omega) (by omega) (by omega)
  simpa using this

theorem take_cons {zs : List Int} {j k : Nat} (hj : j < zs.length) : (zs.drop j).take (k + 1) = zs[j]?.getD 0 :: (zs.drop (j + 1)).take k := by
  rw [List.drop_eq_getElem_cons hj, List.take_succ_cons, List.getElem?_eq_getElem hj, Option.getD_some]

theorem lim_least (f : Nat) : (128 : Int) ≤ lim f := by
  induction f with
  | zero => simp [lim]
  | succ f ih => simp only [lim]; omega

theorem getF_inv {zs : List Int} (hb : IsBytes zs) (f j : Nat) (u n m : Int) (q : Nat) (hu : 1 ≤ u) (h : getF zs f j u n = some (m, q)) :
    ∃ (g : Nat) (d : Int), f = g + 1 ∧ m = n + d * u ∧ 0 ≤ d ∧ d < lim g ∧ (1 < u → 0 < d) ∧ j < q ∧ numF g d = (zs.drop j).take (q - j) := by
  induction f generalizing j u n with
  | zero => simp [getF] at h
  | succ f ih =>
    unfold getF at h
    have hz := hb.at j
    by_cases hj : j < zs.length
    · rw [if_pos hj] at h
      by_cases h1 : 128 ≤ zs[j]?.getD 0
      · rw [if_pos h1] at h
        obtain ⟨g, d, rfl, hm, hd0, hd1, hd2, hq, hnum⟩ := ih (j + 1) (u * 128) _ (by omega) h
        refine ⟨g + 1, d * 128 + zs[j]?.getD 0 % 128, rfl, ?_, by omega, ?_, by have := hd2 (by omega); omega, by omega, ?_⟩
        · rw [hm, Int.add_mul, Int.mul_assoc, Int.mul_comm 128 u]; omega
        · simp only [lim]; omega
        · have hd := hd2 (by omega)
          rw [numF_great (by omega)]
          have e1 : (d * 128 + zs[j]?.getD 0 % 128) % 128 + 128 = zs[j]?.getD 0 := by omega
          have e2 : (d * 128 + zs[j]?.getD 0 % 128) / 128 = d := by omega
          rw [e1, e2, hnum, show q - j = (q - (j + 1)) + 1 by omega, take_cons hj]
      · rw [if_neg h1] at h
        by_cases h2 : 1000000000 < n + zs[j]?.getD 0 % 128 * u ∨ zs[j]?.getD 0 = 0 ∧ 1 < u
        · rw [if_pos h2] at h; simp at h
        · rw [if_neg h2] at h
          simp only [Option.some.injEq, Prod.mk.injEq] at h
          obtain ⟨rfl, rfl⟩ := h
          have hm : zs[j]?.getD 0 % 128 = zs[j]?.getD 0 := by omega
          refine ⟨f, zs[j]?.getD 0, rfl, by rw [hm], hz.1, ?_, by omega, by omega, ?_⟩
          · have := lim_least f; omega
          · rw [numF_small (by omega), show j + 1 - j = 0 + 1 by omega, take_cons hj]; simp
    · rw [if_neg hj] at h; simp at h

theorem getN_inv {zs : List Int} (hb : IsBytes zs) {i m : Int} {q : Nat} (h : getN zs i = some (m, q)) : 0 ≤ i ∧ i < q ∧ putB m = (zs.drop i.toNat).take (q - i.toNat) := by
  have hbd := getN_bd hb h
  unfold getN at h
  by_cases h0 : 0 ≤ i
  · rw [if_pos h0] at h
    obtain ⟨g, d, hg, hm, hd0, hd1, -, hq, hnum⟩ := getF_inv hb 5 i.toNat 1 0 m q (by omega) h
    have : g = 4 := by omega
    subst this
    have hmd : m = d := by omega
    subst hmd
    refine ⟨h0, by omega, ?_⟩
    unfold putB
    rw [if_pos (by omega)]
    exact hnum
  · rw [if_neg h0] at h; simp at h

theorem strB_strOf {ys : List Int} (hb : IsBytes ys) : strB (strOf ys) = ys := by
  unfold strB strOf
  simp only [List.map_map]
  apply List.ext_getElem
  · simp
  · intro i h1 h2
    simp only [List.getElem_map, Function.comp]
    have := hb ys[i] (List.getElem_mem h2)
    rw [UInt8.toNat_ofNat']
    omega
theorem strOf_strB (s : ByteArray) : strOf (strB s) = s := by
  unfold strB strOf
  cases s with
  | mk data =>
    congr
    simp [List.map_map, Function.comp_def]
theorem strOf_size {ys : List Int} : (strOf ys).size = ys.length := by simp [strOf, ByteArray.size]

theorem getT_textB {s : ByteArray} (h : ¬ 400 < s.size) : getT (textB s) 0 = some (strB s, (textB s).length) := by
  unfold getT textB
  rw [if_neg h, getN_putB (strB s) (by omega) (by omega)]
  simp only []
  have hl := strB_len s
  rw [if_neg (by rw [List.length_append]; omega)]
  simp [← hl]

theorem getT_inv {zs : List Int} (hb : IsBytes zs) {i : Int} {ys : List Int} {q : Nat} (h : getT zs i = some (ys, q)) : 0 ≤ i ∧ i ≤ q ∧ q ≤ zs.length ∧ IsBytes ys ∧ textB (strOf ys) = (zs.drop i.toNat).take (q - i.toNat) := by
  unfold getT at h
  cases hg : getN zs i with
  | none => rw [hg] at h; simp at h
  | some r =>
    obtain ⟨n, j⟩ := r
    rw [hg] at h
    simp only [] at h
    have hbd := getN_bd hb hg
    obtain ⟨hi0, hi1, hput⟩ := getN_inv hb hg
    by_cases hc : 400 < n ∨ (zs.length : Int) - j < n
    · rw [if_pos hc] at h; simp at h
    · rw [if_neg hc] at h
      simp only [Option.some.injEq, Prod.mk.injEq] at h
      obtain ⟨rfl, rfl⟩ := h
      have hl : ((zs.drop j).take n.toNat).length = n.toNat := by simp; omega
      have hby : IsBytes ((zs.drop j).take n.toNat) := fun z hz => hb z (List.mem_of_mem_drop (List.mem_of_mem_take hz))
      refine ⟨hi0, by omega, by omega, hby, ?_⟩
      unfold textB
      rw [strOf_size, hl, if_neg (by omega), strB_strOf hby]
      have e : ((n.toNat : Nat) : Int) = n := by omega
      rw [e, hput]
      have e2 : j + n.toNat - i.toNat = (j - i.toNat) + n.toNat := by omega
      rw [e2, List.take_add, List.drop_drop, show i.toNat + (j - i.toNat) = j by omega]

end Go.Proofs.Ytghlnagainodaaa

namespace Go.Proofs.Ytghlnagainodaaa
open Go.RowKit

/-- What Sum tells. -/
def sumOf (l : List Int) : Int := l.foldl (fun x b => (31 * x + b) % 1000003) 7

theorem sumOf_snoc (l : List Int) (c : Int) : sumOf (l ++ [c]) = (31 * sumOf l + c) % 1000003 := by simp [sumOf]
theorem sumOf_bd (l : List Int) : 0 ≤ sumOf l ∧ sumOf l < 1000003 := by
  rcases List.eq_nil_or_concat l with h | ⟨l', c, h⟩
  · subst h; simp [sumOf]
  · rw [List.concat_eq_append] at h; subst h; rw [sumOf_snoc]; omega
theorem take_snoc {l : List Int} {k : Nat} (h : k < l.length) : l.take (k + 1) = l.take k ++ [l[k]?.getD 0] := by
  rw [List.take_succ_eq_append_getElem h]; simp [h]
theorem sumOf_take {l : List Int} {k : Nat} (h : k < l.length) : sumOf (l.take (k + 1)) = (31 * sumOf (l.take k) + l[k]?.getD 0) % 1000003 := by rw [take_snoc h, sumOf_snoc]

set_option maxHeartbeats 400000 in
theorem implSum_any (a : Option Addr) (zs : List Int) (cap : Nat) (w : World) (hr : Rd w a (u8s zs)) (hb : IsBytes zs) (hm : zs.length ≤ maxLen) :
    Calls Try.prog 66 #[.slice a zs.length cap] w fun e w' => e = .returned (.int .i64 (sumOf zs)) ∧ w' = w := by
  unfold maxLen at hm
  go_enter Try.func66, Try.ntmps66
  go_wp2
  go_loop [3, 8] (fun n i => ∃ k : Nat, k ≤ zs.length ∧ i = .int .i64 k ∧ n = .int .i64 (sumOf (zs.take k))) (fun _ i => zs.length - (intOf i).toNat)
  case atStart => exact ⟨0, Nat.zero_le _, rfl, rfl⟩
  case round =>
    obtain ⟨k, hk, rfl, rfl⟩ := hrel
    have hd := sumOf_bd (zs.take k)
    by_cases hlt : k < zs.length
    · obtain ⟨b, off, z, rfl, hck, hz, HZ⟩ := rd_u8_at hr hb hlt
      have HS : Hid (sumOf (zs.take (k + 1)) = (31 * sumOf (zs.take k) + z) % 1000003) := by rw [← HZ.out]; exact sumOf_take hlt
      clear hr
      go_wp2
      go_round
      case rel => exact ⟨k + 1, by omega, by go_num, by rw [HS.out]⟩
      case measure => simp [intOf]; omega
    · go_wp2
      go_ret
      exact ⟨ret_int (by rw [List.take_of_length_le (by omega)]), rfl⟩

set_option maxHeartbeats 400000 in
theorem specSum_any (a : Option Addr) (zs : List Int) (cap : Nat) (w : World) (hr : Rd w a (u8s zs)) (hb : IsBytes zs) (hm : zs.length ≤ maxLen) :
    Calls Try.prog 60 #[.slice a zs.length cap] w fun e w' => e = .returned (.int .i64 (sumOf zs)) ∧ w' = w := by
  unfold maxLen at hm
  go_enter Try.func60, Try.ntmps60
  go_wp2
  go_loop [3, 4] (fun n i => ∃ k : Nat, k ≤ zs.length ∧ i = .int .i64 k ∧ n = .int .i64 (sumOf (zs.take k))) (fun _ i => zs.length - (intOf i).toNat)
  case atStart => exact ⟨0, Nat.zero_le _, rfl, rfl⟩
  case round =>
    obtain ⟨k, hk, rfl, rfl⟩ := hrel
    have hd := sumOf_bd (zs.take k)
    by_cases hlt : k < zs.length
    · obtain ⟨b, off, z, rfl, hck, hz, HZ⟩ := rd_u8_at hr hb hlt
      have HS : Hid (sumOf (zs.take (k + 1)) = (31 * sumOf (zs.take k) + z) % 1000003) := by rw [← HZ.out]; exact sumOf_take hlt
      clear hr
      go_wp2
      go_round
      case rel => exact ⟨k + 1, by omega, by go_num, by rw [HS.out]⟩
      case measure => simp [intOf]; omega
    · go_wp2
      go_ret
      exact ⟨ret_int (by rw [List.take_of_length_le (by omega)]), rfl⟩

end Go.Proofs.Ytghlnagainodaaa
