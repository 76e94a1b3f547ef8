/-
  Contracts of impl.GetNum: the deferred closure, and the two ways through the door.
  Contracts of impl.PutText and spec.PutText: each hands back a new row of the text's bytes.
  Contracts of impl.GetText and spec.GetText.
-/
import Derived.Test.YtelbannfbglgcaaJMounted1
import Derived.RegionTactic
import Derived.ChangeAlike
import Derived.Lib.AppendStr
import Derived.Laws.IdiomStrings
namespace Go.Proofs.Ytelbannfbglgcaa
open Go.RowKit

/-- The world behind three named results and a place: four new blocks. -/
abbrev four (w : World) (v0 : Value) (t0 : TypeId) (i : Int) : World :=
  (((w.alloc (Obj.cells #[v0] t0)).alloc (Obj.cells #[.int .i64 0] 3)).alloc (Obj.cells #[.bool false] 4)).alloc (Obj.cells #[.int .i64 i] 3)
theorem four_below (w : World) (v0 : Value) (t0 : TypeId) (i : Int) : Below w.heap.size w (four w v0 t0 i) :=
  ((((Below.refl _ _).alloc (Nat.le_refl _) _).alloc (by simp) _).alloc (by simp; omega) _).alloc (by simp; omega) _
theorem four_cells (w : World) (v0 : Value) (t0 : TypeId) (i : Int) :
    (four w v0 t0 i).cell? ⟨w.heap.size, 0, none⟩ = some v0 ∧ (four w v0 t0 i).cell? ⟨w.heap.size + 1, 0, none⟩ = some (.int .i64 0) ∧
    (four w v0 t0 i).cell? ⟨w.heap.size + 1 + 1, 0, none⟩ = some (.bool false) ∧ (four w v0 t0 i).cell? ⟨w.heap.size + 1 + 1 + 1, 0, none⟩ = some (.int .i64 i) := by
  refine ⟨?_, ?_, ?_, ?_⟩ <;> simp [go_sem]
theorem four_free (w : World) (v0 : Value) (t0 : TypeId) (i : Int) :
    (four w v0 t0 i).frozen? ⟨w.heap.size, 0, none⟩ = false ∧ (four w v0 t0 i).frozen? ⟨w.heap.size + 1, 0, none⟩ = false ∧
    (four w v0 t0 i).frozen? ⟨w.heap.size + 1 + 1, 0, none⟩ = false ∧ (four w v0 t0 i).frozen? ⟨w.heap.size + 1 + 1 + 1, 0, none⟩ = false := by
  refine ⟨?_, ?_, ?_, ?_⟩ <;> simp [go_sem]
theorem four_rd {w : World} {a : Option Addr} {vs : List Value} (v0 : Value) (t0 : TypeId) (i : Int) (hr : Rd w a vs) : ∀ w', Below (w.heap.size + 1 + 1 + 1) (four w v0 t0 i) w' → Rd w' a vs := fun w' h =>
  hr.below ((four_below w v0 t0 i).trans (h.mono (by omega)))

theorem or_nat (a b : Nat) (ha : a < 2 ^ 40) (hb : b < 2 ^ 40) : bits .or .i64 (a : Int) (b : Int) = ((a ||| b : Nat) : Int) := by
  have hx : a ||| b < 2 ^ 40 := Nat.or_lt_two_pow ha hb
  have h1 : (BitVec.ofInt 64 (a : Int)).toNat = a := by
    rw [BitVec.ofInt_natCast, BitVec.toNat_ofNat]; exact Nat.mod_eq_of_lt (by omega)
  have h2 : (BitVec.ofInt 64 (b : Int)).toNat = b := by
    rw [BitVec.ofInt_natCast, BitVec.toNat_ofNat]; exact Nat.mod_eq_of_lt (by omega)
  show IntKind.i64.wrap ((BitVec.ofInt 64 (a : Int) ||| BitVec.ofInt 64 (b : Int)).toNat : Int) = _
  rw [BitVec.toNat_or, h1, h2]
  simp [IntKind.wrap, IntKind.bits, IntKind.signed]
  omega

theorem or_up (p : Nat) (m d : Int) (hp : p ≤ 28) (hm0 : 0 ≤ m) (hm : m < 2 ^ p) (hd0 : 0 ≤ d) (hd : d < 128) : bits .or .i64 m (wrap64 (d * 2 ^ p)) = m + d * 2 ^ p := by
  obtain ⟨M, rfl⟩ := Int.eq_ofNat_of_zero_le hm0
  obtain ⟨D, rfl⟩ := Int.eq_ofNat_of_zero_le hd0
  have hM : M < 2 ^ p := by exact_mod_cast hm
  have hpow : (2 : Nat) ^ p ≤ 2 ^ 28 := Nat.pow_le_pow_right (by decide) hp
  have hDP : D * 2 ^ p ≤ 127 * 2 ^ 28 := Nat.mul_le_mul (by omega) hpow
  have e : ((D : Int) * 2 ^ p) = ((D * 2 ^ p : Nat) : Int) := by push_cast; rfl
  rw [e, IntWalk.wrap64_in _ ⟨by omega, by omega⟩, or_nat M (D * 2 ^ p) (by omega) (by omega)]
  have h3 : 2 ^ p * D + M = 2 ^ p * D ||| M := Nat.two_pow_add_eq_or_of_lt hM D
  rw [Nat.or_comm, Nat.mul_comm D, ← h3]
  push_cast
  omega

theorem uo_pow {k : Nat} (hk : k ≤ 4) : uo (5 - k) = 2 ^ (7 * k) := by
  have : k = 0 ∨ k = 1 ∨ k = 2 ∨ k = 3 ∨ k = 4 := by omega
  rcases this with rfl | rfl | rfl | rfl | rfl <;> decide

theorem or_step {k : Nat} {m z : Int} (hk : k ≤ 4) (hm0 : 0 ≤ m) (hm : m < uo (5 - k)) (_hz : 0 ≤ z) : bits .or .i64 m (wrap64 (z % 128 * 2 ^ (7 * k))) = m + z % 128 * uo (5 - k) := by
  rw [uo_pow hk] at hm ⊢
  exact or_up (7 * k) m (z % 128) (by omega) hm0 hm (by omega) (by omega)

set_option maxRecDepth 100000 in
set_option maxHeartbeats 1600000 in
theorem specGetNum_any (a : Option Addr) (zs : List Int) (cap : Nat) (i : Int) (w : World) (hr : Rd w a (u8s zs)) (hb : IsBytes zs) (hm : zs.length ≤ 1048576) (hi : i ≤ 9223372036854775807) :
    Calls Try.prog 108 #[.slice a zs.length cap, .int .i64 i] w fun e w' => (getN zs i = none → e = .returned (.tuple #[.int .i64 0, .int .i64 0, .bool false])) ∧ (∀ n j, getN zs i = some (n, j) → e = .returned (.tuple #[.int .i64 n, .int .i64 (j : Nat), .bool true])) ∧ w' = w := by
  go_enter Try.func108, Try.ntmps108
  go_wp2_with fail
  go_loop [7, 8] (fun n q => ∃ (k : Nat) (m : Int), k ≤ 5 ∧ (k = 0 ∨ 0 ≤ i) ∧ n = .int .i64 m ∧ q = .int .i64 k ∧ 0 ≤ m ∧ m < uo (5 - k) ∧ Hid (getN zs i = getI zs (5 - k) (i + k) (uo (5 - k)) m)) (fun _ q => 5 - (intOf q).toNat)
  case atStart => exact ⟨0, 0, by omega, by omega, rfl, rfl, by omega, by decide, by show _ = _; simp [getN, getI, uo]⟩
  case round =>
    obtain ⟨k, m, hk, hk0, rfl, rfl, hm0, hm1, hget⟩ := hrel
    by_cases hk5 : k = 5
    · subst hk5
      have hg : Hid (getN zs i = none) := by show _ = _; rw [hget.out]; exact getI_zero _ _ _ _
      clear hr
      go_wp2
      go_ret3
      exact ⟨fun _ => rfl, fun n j h => absurd h (by rw [hg.out]; simp), rfl⟩
    · have hk4 : k ≤ 4 := by omega
      by_cases hin : 0 ≤ i ∧ i + k < zs.length
      · obtain ⟨j, rfl⟩ : ∃ j : Nat, i = j := ⟨i.toNat, by omega⟩
        have hj : j + k < zs.length := by omega
        obtain ⟨b, off, z, rfl, hck, hz, HZ⟩ := rd_u8_at hr hb hj
        clear hin hr
        have hor := or_step hk4 hm0 hm1 hz.1
        have e5 : 5 - k = (4 - k) + 1 := by omega
        have hu : 1 ≤ uo (5 - k) ∧ uo (5 - k) ≤ 268435456 ∧ uo (5 - k) * 128 = uo (4 - k) := by
          have : k = 0 ∨ k = 1 ∨ k = 2 ∨ k = 3 ∨ k = 4 := by omega
          rcases this with rfl | rfl | rfl | rfl | rfl <;> decide
        have hug : Hid (uo (5 - k) * 128 = uo (4 - k)) := hu.2.2
        have hu1 := hu.1
        have hu2 := hu.2.1
        clear hu
        have hmul : 0 ≤ z % 128 * uo (5 - k) ∧ z % 128 * uo (5 - k) ≤ 127 * uo (5 - k) :=
          ⟨Int.mul_nonneg (by omega) (by omega), Int.mul_le_mul_of_nonneg_right (by omega) (by omega)⟩
        have hget' : Hid (getN zs j = getI zs ((4 - k) + 1) ((j + k : Nat) : Int) (uo (5 - k)) m) := by
          show _ = _; rw [← e5, hget.out]; push_cast; rfl
        have HE : Hid (5 - k = (4 - k) + 1) := e5
        clear hget e5
        by_cases h128 : 128 ≤ z
        · have hg : Hid (getN zs j = getI zs (4 - k) ((j + k + 1 : Nat) : Int) (uo (4 - k)) (m + z % 128 * uo (5 - k))) := by
            show _ = _; rw [hget'.out, getI_on hj HZ.out h128, hug.out]
          go_wp2
          go_round
          case rel => exact ⟨k + 1, _, by omega, by omega, rfl, by go_num, by omega, by have := hug.out; rw [show 5 - (k + 1) = 4 - k by omega]; omega, by show _ = _; rw [show 5 - (k + 1) = 4 - k by omega, hg.out]; push_cast; rw [Int.add_assoc]⟩
          case measure => simp [intOf]; omega
        · by_cases hbad : 1000000000 < m + z % 128 * uo (5 - k) ∨ z = 0 ∧ 1 < uo (5 - k)
          · have hg : Hid (getN zs j = none) := by show _ = _; rw [hget'.out, getI_bad hj HZ.out h128 hbad]
            have huk : Hid (1 < uo (5 - k) ↔ 0 < k) := by
              show _ ↔ _
              have : k = 0 ∨ k = 1 ∨ k = 2 ∨ k = 3 ∨ k = 4 := by omega
              rcases this with rfl | rfl | rfl | rfl | rfl <;> decide
            by_cases hB : z = 0 ∧ 1 < uo (5 - k)
            · have hkp : (0 : Int) < (k : Int) := by have := huk.out.1 hB.2; omega
              have hze : (z == 0) = true := by simp [hB.1]
              clear hbad hB
              go_wp2
              go_ret3
              exact ⟨fun _ => rfl, fun n j h => absurd h (by rw [hg.out]; simp), rfl⟩
            · have hA : 1000000000 < m + z % 128 * uo (5 - k) := by omega
              by_cases hkp : (0 : Int) < (k : Int)
              · have hze : (z == 0) = false := by
                  have := huk.out.2 (by omega); simp; omega
                clear hbad hB
                go_wp2
                go_ret3
                exact ⟨fun _ => rfl, fun n j h => absurd h (by rw [hg.out]; simp), rfl⟩
              · clear hbad hB
                go_wp2
                go_ret3
                exact ⟨fun _ => rfl, fun n j h => absurd h (by rw [hg.out]; simp), rfl⟩
          · have hg : Hid (getN zs j = some (m + z % 128 * uo (5 - k), j + k + 1)) := by show _ = _; rw [hget'.out, getI_good hj HZ.out h128 hbad]
            have huk : Hid (1 < uo (5 - k) ↔ 0 < k) := by
              show _ ↔ _
              have : k = 0 ∨ k = 1 ∨ k = 2 ∨ k = 3 ∨ k = 4 := by omega
              rcases this with rfl | rfl | rfl | rfl | rfl <;> decide
            have hA : ¬ 1000000000 < m + z % 128 * uo (5 - k) := by omega
            have fin : (getN zs j = none → Ending.returned (.tuple #[.int .i64 (m + z % 128 * uo (5 - k)), .int .i64 ((j : Int) + k + 1), .bool true]) = .returned (.tuple #[.int .i64 0, .int .i64 0, .bool false])) ∧ (∀ n (q : Nat), getN zs j = some (n, q) → Ending.returned (.tuple #[.int .i64 (m + z % 128 * uo (5 - k)), .int .i64 ((j : Int) + k + 1), .bool true]) = .returned (.tuple #[.int .i64 n, .int .i64 (q : Nat), .bool true])) := by
              refine ⟨fun h => absurd h (by rw [hg.out]; simp), fun n q h => ?_⟩
              rw [hg.out] at h
              simp only [Option.some.injEq, Prod.mk.injEq] at h
              obtain ⟨rfl, rfl⟩ := h
              push_cast
              rfl
            by_cases hkp : (0 : Int) < (k : Int)
            · have hze : (z == 0) = false := by
                have := huk.out.2 (by omega); simp; omega
              clear hbad
              go_wp2
              go_ret3
              exact ⟨fin.1, fin.2, rfl⟩
            · clear hbad
              go_wp2
              go_ret3
              exact ⟨fin.1, fin.2, rfl⟩
      · have hg : Hid (getN zs i = none) := by show _ = _; rw [hget.out]; exact getI_out (by omega)
        by_cases h0 : i < 0
        · clear hr
          go_wp2
          go_ret3
          exact ⟨fun _ => rfl, fun n j h => absurd h (by rw [hg.out]; simp), rfl⟩
        · have hge : (zs.length : Int) - k ≤ i := by omega
          clear hr
          go_wp2
          go_ret3
          exact ⟨fun _ => rfl, fun n j h => absurd h (by rw [hg.out]; simp), rfl⟩

end Go.Proofs.Ytelbannfbglgcaa

namespace Go.Proofs.Ytelbannfbglgcaa
open Go.RowKit

/-- A string's bytes. -/
def strB (s : ByteArray) : List Int := s.data.toList.map fun b => (b.toNat : Int)
theorem strB_cells (s : ByteArray) : u8s (strB s) = Lib.strCells s := by simp [u8s, strB, Lib.strCells]
theorem strB_len (s : ByteArray) : (strB s).length = s.size := by
  have := Lib.strCells_length s
  rw [← strB_cells] at this; simpa [u8s] using this
theorem strB_bytes (s : ByteArray) : IsBytes (strB s) := by
  intro z hz
  simp only [strB, List.mem_map] at hz
  obtain ⟨b, _, rfl⟩ := hz
  have := b.toNat_lt
  omega
/-- What PutText tells. -/
def textB (s : ByteArray) : List Int := if 400 < s.size then [] else putB s.size ++ strB s
theorem textB_bytes (s : ByteArray) : IsBytes (textB s) := by
  unfold textB
  split
  · intro z hz; simp at hz
  · intro z hz
    simp only [List.mem_append] at hz
    rcases hz with hz | hz
    · exact putB_bytes _ z hz
    · exact strB_bytes _ z hz
theorem textB_len (s : ByteArray) : (textB s).length ≤ 405 := by
  unfold textB
  split
  · simp
  · have := putB_len s.size; rw [List.length_append, strB_len]; omega

/-- The row that '[]byte(s)' has laid begins with the string's bytes. -/
theorem bytes_lie (s : ByteArray) (w : World) (c : Nat) : ∀ j u, (Lib.strCells s)[j]? = some u →
    (w.alloc (Obj.cells (bytesRow s c) 5 ((bytesRow s c).size, (bytesRow s c).size + 1))).drew.cell? ((⟨w.heap.size, 0, none⟩ : Addr).add j) = some u := by
  intro j u hu
  rw [add_at, Nat.zero_add]
  have hj : j < (Lib.strCells s).length := by
    rcases Nat.lt_or_ge j (Lib.strCells s).length with h | h
    · exact h
    · simp [h] at hu
  rw [Lib.strCells_length] at hj
  show (w.alloc _).cell? _ = _
  rw [World.cell?_alloc_mark]
  have hj' : j < s.data.size := hj
  simp [Lib.strCells] at hu
  obtain ⟨x, hx, hxu⟩ := hu
  rw [Array.getElem?_eq_getElem hj'] at hx
  simp only [Option.some.injEq] at hx
  subst hx
  simp [bytesRow, Array.getElem?_append, hj]
  exact hxu

/-- Behind an append onto a row of the call's own, one block having been laid ahead of it: below the row's base nothing has turned. -/
theorem below_new {w w' : World} {o : Obj} {base : Nat} {e : TypeId} {size : Nat} {v : Value} {n : Nat} {xs : List Value} (h : w.ownsRow base e size v n xs) (hg : (w.alloc o).drew.grownBy w' v.ownBlock) (hB : base ≤ w.heap.size) : Below base w w' := by
  have h1 : Below base w (w.alloc o).drew := ((Below.refl _ _).alloc hB o).drew
  exact h1.grown hg (by simp; omega) (fun k hk => (h.lt k hk).1)

set_option maxRecDepth 100000 in
set_option maxHeartbeats 800000 in
theorem specPutText_any (s : ByteArray) (w : World) (hs : s.size ≤ maxLen) :
    Calls Try.prog 130 #[.string s] w fun e w' => ∃ v, e = .returned v ∧ w'.ownsRow w.heap.size 5 1 v (textB s).length (u8s (textB s)) ∧ Below w.heap.size w w' := by
  obtain ⟨i0, hi, hz0, hz1, hz2⟩ := info_parts info5
  unfold maxLen at hs
  by_cases hbig : (400 : Int) < (s.size : Int)
  · have ht : Hid (textB s = []) := by show _ = _; unfold textB; rw [if_pos (by omega)]
    have hown0 : (w.alloc (Obj.cells #[] 5)).ownsRow w.heap.size 5 1 (.slice (some ⟨w.heap.size, 0, none⟩) 0 0) 0 [] := World.ownsRow_lit w #[] 0 (Nat.le_refl _) (by unfold maxLen; omega) rfl
    go_enter Try.func130, Try.ntmps130
    go_wp2
    go_ret
    exact ⟨_, rfl, by rw [ht.out]; exact hown0, (Below.refl _ _).alloc (Nat.le_refl _) _⟩
  · have ht : Hid (textB s = putB s.size ++ strB s) := by show _ = _; unfold textB; rw [if_neg (by omega)]
    have hpl := putB_len s.size
    have hcv := fun w => run_bytes_of_string (P := Try.prog) w 9 22 5 s Try.underlying9 Try.underlying22 Try.underlying5
    go_enter Try.func130, Try.ntmps130
    go_wp2_with fail
    refine (specPutNum_any (s.size : Int) _ (by omega) (by omega)).mono ?_
    rintro e w1 ⟨v, rfl, ho, hb⟩
    go_wp2_with (at_builtin; go_must (refine wpList_append_own _ rfl _ _ 22 rfl w.heap.size 5 i0 (.int .u8 0) 1 1 Try.underlying22 hi hz0 hz1 hz2 rfl (by decide) _ _ _ rfl (ho.alloc _).drew ⟨w1.heap.size, 0, none⟩ s.size _ (Lib.strCells s) rfl (by rw [Lib.strCells_length, Nat.mul_one]) (bytes_lie s w1 _) (Lib.strCells_oneCell s) (by unfold maxLen; omega) (by omega) (by have := hb.size; simp; omega) ?_); intro v' w2 ho' hg' _)
    go_ret
    refine ⟨_, rfl, ?_, hb.trans (below_new ho hg' hb.size)⟩
    rw [ht.out, List.length_append, strB_len]
    have e : u8s (putB s.size ++ strB s) = u8s (putB s.size) ++ Lib.strCells s := by rw [← strB_cells]; simp [u8s]
    rw [e]; exact ho'

end Go.Proofs.Ytelbannfbglgcaa

namespace Go.Proofs.Ytelbannfbglgcaa
open Go.RowKit

theorem getF_bd {zs : List Int} {f j : Nat} {u n m : Int} {q : Nat} (hb : IsBytes zs) (hu : 0 ≤ u) (hn : 0 ≤ n) (h : getF zs f j u n = some (m, q)) : 0 ≤ m ∧ m ≤ 1000000000 ∧ q ≤ zs.length ∧ 1 ≤ q := by
  induction f generalizing j u n with
  | zero => simp [getF] at h
  | succ f ih =>
    unfold getF at h
    have hz := hb.at j
    have hmul : 0 ≤ zs[j]?.getD 0 % 128 * u := Int.mul_nonneg (by omega) hu
    by_cases hj : j < zs.length
    · rw [if_pos hj] at h
      by_cases h1 : 128 ≤ zs[j]?.getD 0
      · rw [if_pos h1] at h
        exact ih (by omega) (by omega) h
      · rw [if_neg h1] at h
        by_cases h2 : 1000000000 < n + zs[j]?.getD 0 % 128 * u ∨ zs[j]?.getD 0 = 0 ∧ 1 < u
        · rw [if_pos h2] at h; simp at h
        · rw [if_neg h2] at h
          simp only [Option.some.injEq, Prod.mk.injEq] at h
          obtain ⟨rfl, rfl⟩ := h
          omega
    · rw [if_neg hj] at h; simp at h
theorem getN_bd {zs : List Int} {i m : Int} {q : Nat} (hb : IsBytes zs) (h : getN zs i = some (m, q)) : 0 ≤ m ∧ m ≤ 1000000000 ∧ q ≤ zs.length ∧ 1 ≤ q := by
  unfold getN at h
  by_cases h0 : 0 ≤ i
  · rw [if_pos h0] at h; exact getF_bd hb (by omega) (by omega) h
  · rw [if_neg h0] at h; simp at h

/-- What GetText tells: the text's bytes and the place behind it. -/
def getT (zs : List Int) (i : Int) : Option (List Int × Nat) :=
  match getN zs i with
  | none => none
  | some (n, j) => if 400 < n ∨ (zs.length : Int) - j < n then none else some ((zs.drop j).take n.toNat, j + n.toNat)
/-- The text that is cut out of bytes, wherever the cut lies. -/
theorem conv_cut {w : World} {b off j N c : Nat} {zs : List Int} (hb : IsBytes zs) (hc : ∀ i, i < zs.length → w.cell? ⟨b, off + i, none⟩ = some (.int .u8 (zs.getD i 0))) (h : j + N ≤ zs.length) :
    (convert 22 9 (.slice (some ⟨b, off + j, none⟩) N c)).run Try.prog w = .ok (.string (strOf ((zs.drop j).take N))) w := by
  have hl : ((zs.drop j).take N).length = N := by simp; omega
  have hb' : IsBytes ((zs.drop j).take N) := fun z hz => hb z (List.mem_of_mem_drop (List.mem_of_mem_take hz))
  have := conv_bytes (w := w) (b := b) (o := off + j) (c := c) hb' (by
    intro i hi
    rw [hl] at hi
    rw [Nat.add_assoc, hc (j + i) (by omega)]
    simp [hi, show j + i < zs.length by omega])
  rw [hl] at this
  exact this
theorem conv_none {w : World} {b o c : Nat} : (convert 22 9 (.slice (some ⟨b, o, none⟩) 0 c)).run Try.prog w = .ok (.string (strOf [])) w :=
  conv_bytes (ys := []) (fun z hz => by simp at hz) (fun i hi => by simp at hi)

set_option maxRecDepth 100000 in
set_option maxHeartbeats 1600000 in
theorem specGetText_any (a : Option Addr) (zs : List Int) (cap : Nat) (i : Int) (w : World) (hr : Rd w a (u8s zs)) (hb : IsBytes zs) (hm : zs.length ≤ 1048576) (hcap : zs.length ≤ cap) (hi : i ≤ 9223372036854775807) :
    Calls Try.prog 109 #[.slice a zs.length cap, .int .i64 i] w fun e w' => (getT zs i = none → e = .returned (.tuple #[.string ByteArray.empty, .int .i64 0, .bool false])) ∧ (∀ ys j, getT zs i = some (ys, j) → e = .returned (.tuple #[.string (strOf ys), .int .i64 (j : Nat), .bool true])) ∧ w' = w := by
  go_enter Try.func109, Try.ntmps109
  go_wp2_with fail
  refine (specGetNum_any a zs cap i _ hr hb hm hi).mono ?_
  rintro e w1 ⟨hno, hyes, rfl⟩
  cases hg : getN zs i with
  | none =>
    obtain rfl := hno hg
    have ht : Hid (getT zs i = none) := by show _ = _; unfold getT; rw [hg]
    clear hno hyes hg hr
    go_wp2
    go_ret3
    exact ⟨fun _ => rfl, fun ys j h => absurd h (by rw [ht.out]; simp), rfl⟩
  | some r =>
    obtain ⟨n, j⟩ := r
    obtain rfl := hyes n j hg
    have hbd := getN_bd hb hg
    obtain ⟨N, rfl⟩ : ∃ N : Nat, n = N := ⟨n.toNat, by omega⟩
    have hj1 : 1 ≤ j := hbd.2.2.2
    have hj2 : j ≤ zs.length := hbd.2.2.1
    clear hbd
    obtain ⟨b, off, rfl, hc⟩ := rd_u8 (k := 0) hr (by omega)
    clear hr
    by_cases h4 : (400 : Int) < (N : Int)
    · have ht : Hid (getT zs i = none) := by show _ = _; unfold getT; rw [hg]; simp only []; rw [if_pos (Or.inl h4)]
      clear hno hyes hg hc
      go_wp2
      go_ret3
      exact ⟨fun _ => rfl, fun ys j h => absurd h (by rw [ht.out]; simp), rfl⟩
    by_cases h5 : (zs.length : Int) - j < N
    · have ht : Hid (getT zs i = none) := by show _ = _; unfold getT; rw [hg]; simp only []; rw [if_pos (Or.inr h5)]
      clear hno hyes hg hc
      go_wp2
      go_ret3
      exact ⟨fun _ => rfl, fun ys j h => absurd h (by rw [ht.out]; simp), rfl⟩
    have ht : Hid (getT zs i = some ((zs.drop j).take N, j + N)) := by show _ = _; unfold getT; rw [hg]; simp only []; rw [if_neg (by omega)]; simp
    have fin : (getT zs i = none → Ending.returned (.tuple #[.string (strOf ((zs.drop j).take N)), .int .i64 ((j : Int) + N), .bool true]) = .returned (.tuple #[.string ByteArray.empty, .int .i64 0, .bool false])) ∧ (∀ ys (q : Nat), getT zs i = some (ys, q) → Ending.returned (.tuple #[.string (strOf ((zs.drop j).take N)), .int .i64 ((j : Int) + N), .bool true]) = .returned (.tuple #[.string (strOf ys), .int .i64 (q : Nat), .bool true])) := by
      refine ⟨fun h => absurd h (by rw [ht.out]; simp), fun ys q h => ?_⟩
      rw [ht.out] at h
      simp only [Option.some.injEq, Prod.mk.injEq] at h
      obtain ⟨rfl, rfl⟩ := h
      push_cast
      rfl
    have HF : Hid _ := fin
    clear fin hno hyes hg
    by_cases hcj : cap = j
    · have hN : N = 0 := by omega
      subst hN
      have hcv := @conv_none w1 b off 0
      clear hc
      go_wp2
      go_ret3
      exact ⟨by simpa using HF.out.1, by simpa using HF.out.2, rfl⟩
    · have hcv := conv_cut (c := cap - j) (j := j) (N := N) hb hc (by omega)
      clear hc
      go_wp2
      go_ret3
      exact ⟨HF.out.1, HF.out.2, rfl⟩

/-- How taking a text ends. -/
def TookT (pb : Nat) (r : Option (List Int × Nat)) (e : Ending) (w' : World) : Prop :=
  match r with
  | none => ∃ s, e = .panicked [{ v := .iface 9 (.string s), recovered := false }]
  | some (ys, j) => e = .returned (.string (strOf ys)) ∧ w'.cell? ⟨pb, 0, none⟩ = some (.int .i64 j) ∧ w'.frozen? ⟨pb, 0, none⟩ = false
theorem tookT_no {pb : Nat} {r : Option (List Int × Nat)} {e : Ending} {w' : World} {s : ByteArray} (h : r = none) (he : e = .panicked [{ v := .iface 9 (.string s), recovered := false }]) : TookT pb r e w' := by subst h; exact ⟨s, he⟩
theorem tookT_yes {pb : Nat} {r : Option (List Int × Nat)} {e : Ending} {w' : World} {ys : List Int} {j : Nat} (h : r = some (ys, j)) (he : e = .returned (.string (strOf ys))) (hc : w'.cell? ⟨pb, 0, none⟩ = some (.int .i64 j)) (hf : w'.frozen? ⟨pb, 0, none⟩ = false) : TookT pb r e w' := by subst h; exact ⟨he, hc, hf⟩

set_option maxRecDepth 100000 in
set_option maxHeartbeats 1600000 in
theorem takeText_grown (a : Option Addr) (zs : List Int) (cap pb : Nat) (i0 : Int) (w : World) (hr : ∀ w', Below pb w w' → Rd w' a (u8s zs)) (hb : IsBytes zs) (hm : zs.length ≤ 1048576) (hcap : zs.length ≤ cap) (hp : w.cell? ⟨pb, 0, none⟩ = some (.int .i64 i0)) (hf : w.frozen? ⟨pb, 0, none⟩ = false) :
    Calls Try.prog 133 #[.slice a zs.length cap, .pointer (some ⟨pb, 0, none⟩)] w fun e w' => w.grownBy w' (some pb) ∧ TookT pb (getT zs i0) e w' := by
  have hpb : pb ≤ w.heap.size := Nat.le_of_lt (lt_of_cell hp)
  go_enter Try.func133, Try.ntmps133
  go_wp2_with fail
  refine (takeNum_grown a zs cap pb i0 _ hr hb hm hp hf).mono ?_
  rintro e w1 ⟨hb1, ht⟩
  cases hg : getN zs i0 with
  | none =>
    rw [hg] at ht
    obtain ⟨s, rfl⟩ := ht
    have hT : Hid (getT zs i0 = none) := by show _ = _; unfold getT; rw [hg]
    clear hg hr hp hf
    go_wp2
    exact ⟨rfl, hb1, tookT_no hT.out rfl⟩
  | some r =>
    obtain ⟨n, j⟩ := r
    rw [hg] at ht
    obtain ⟨rfl, c4, g4⟩ := ht
    have hbd := getN_bd hb hg
    obtain ⟨N, rfl⟩ : ∃ N : Nat, n = N := ⟨n.toNat, by omega⟩
    have hj1 : 1 ≤ j := hbd.2.2.2
    have hj2 : j ≤ zs.length := hbd.2.2.1
    have hN2 : (N : Int) ≤ 1000000000 := hbd.2.1
    clear hbd hp hf
    have hr2 : Rd (w1.setCell ⟨pb, 0, none⟩ (.int .i64 ((j : Int) + N))) a (u8s zs) := hr _ (belowGrown (grownSet hb1 _ _) hpb)
    obtain ⟨b, off, rfl, hc⟩ := rd_u8 (k := 0) hr2 (by omega)
    clear hr hr2
    by_cases h4 : (400 : Int) < (N : Int)
    · have hT : Hid (getT zs i0 = none) := by show _ = _; unfold getT; rw [hg]; simp only []; rw [if_pos (Or.inl h4)]
      clear hg hc
      go_wp2
      exact ⟨rfl, hb1, tookT_no hT.out rfl⟩
    by_cases h5 : (zs.length : Int) - j < N
    · have hT : Hid (getT zs i0 = none) := by show _ = _; unfold getT; rw [hg]; simp only []; rw [if_pos (Or.inr h5)]
      clear hg hc
      go_wp2
      exact ⟨rfl, hb1, tookT_no hT.out rfl⟩
    have hT : Hid (getT zs i0 = some ((zs.drop j).take N, j + N)) := by show _ = _; unfold getT; rw [hg]; simp only []; rw [if_neg (by omega)]; simp
    have hend : Hid ((w1.setCell ⟨pb, 0, none⟩ (.int .i64 ((j : Int) + N))).cell? ⟨pb, 0, none⟩ = some (.int .i64 ((j + N : Nat) : Int)) ∧ (w1.setCell ⟨pb, 0, none⟩ (.int .i64 ((j : Int) + N))).frozen? ⟨pb, 0, none⟩ = false ∧ w.grownBy (w1.setCell ⟨pb, 0, none⟩ (.int .i64 ((j : Int) + N))) (some pb)) := by
      refine ⟨?_, ?_, grownSet hb1 _ _⟩
      · rw [World.cell?_setCell_same w1 _ _ c4]; simp
      · simp [g4]
    clear hg
    by_cases hcj : cap = j
    · have hN : N = 0 := by omega
      subst hN
      have hcv := fun w => @conv_none w b off 0
      clear hc
      go_wp2
      go_ret
      exact ⟨by simpa using hend.out.2.2, tookT_yes hT.out (by simp) (by simpa using hend.out.1) (by simpa using hend.out.2.1)⟩
    · have hcv := conv_cut (c := cap - j) (j := j) (N := N) hb hc (by omega)
      clear hc
      go_wp2
      go_ret
      exact ⟨hend.out.2.2, tookT_yes hT.out rfl hend.out.1 hend.out.2.1⟩

theorem takeText_any (a : Option Addr) (zs : List Int) (cap pb : Nat) (i0 : Int) (w : World) (hr : ∀ w', Below pb w w' → Rd w' a (u8s zs)) (hb : IsBytes zs) (hm : zs.length ≤ 1048576) (hcap : zs.length ≤ cap) (hp : w.cell? ⟨pb, 0, none⟩ = some (.int .i64 i0)) (hf : w.frozen? ⟨pb, 0, none⟩ = false) :
    Calls Try.prog 133 #[.slice a zs.length cap, .pointer (some ⟨pb, 0, none⟩)] w fun e w' => Below pb w w' ∧ TookT pb (getT zs i0) e w' :=
  (takeText_grown a zs cap pb i0 w hr hb hm hcap hp hf).mono fun _ _ h => ⟨belowGrown h.1 (Nat.le_of_lt (lt_of_cell hp)), h.2⟩

end Go.Proofs.Ytelbannfbglgcaa
