/-
  Contracts of impl.GetNum: the deferred closure, and the two ways through the door.
-/
import Derived.Test.YtdicjbabnknjhaaGet
import Derived.RegionTactic
import Derived.ChangeAlike
namespace Go.Proofs.Ytdicjbabnknjhaa
open Go.RowKit

/-- The world behind three named results and a place: four new blocks. -/
abbrev four (w : World) (v0 : Value) (t0 : TypeId) (i : Int) : World :=
  (((w.alloc (Obj.cells #[v0] t0)).alloc (Obj.cells #[.int .i64 0] 3)).alloc (Obj.cells #[.bool false] 4)).alloc (Obj.cells #[.int .i64 i] 3)
theorem four_below (w : World) (v0 : Value) (t0 : TypeId) (i : Int) : Below w.heap.size w (four w v0 t0 i) :=
  ((((Below.refl _ _).alloc (Nat.le_refl _) _).alloc (by simp) _).alloc (by simp; omega) _).alloc (by simp; omega) _
theorem four_cells (w : World) (v0 : Value) (t0 : TypeId) (i : Int) :
    (four w v0 t0 i).cell? ⟨w.heap.size, 0, none⟩ = some v0 ∧ (four w v0 t0 i).cell? ⟨w.heap.size + 1, 0, none⟩ = some (.int .i64 0) ∧
    (four w v0 t0 i).cell? ⟨w.heap.size + 1 + 1, 0, none⟩ = some (.bool false) ∧ (four w v0 t0 i).cell? ⟨w.heap.size + 1 + 1 + 1, 0, none⟩ = some (.int .i64 i) := by
  refine ⟨?_, ?_, ?_, ?_⟩ <;> simp [go_sem]
theorem four_free (w : World) (v0 : Value) (t0 : TypeId) (i : Int) :
    (four w v0 t0 i).frozen? ⟨w.heap.size, 0, none⟩ = false ∧ (four w v0 t0 i).frozen? ⟨w.heap.size + 1, 0, none⟩ = false ∧
    (four w v0 t0 i).frozen? ⟨w.heap.size + 1 + 1, 0, none⟩ = false ∧ (four w v0 t0 i).frozen? ⟨w.heap.size + 1 + 1 + 1, 0, none⟩ = false := by
  refine ⟨?_, ?_, ?_, ?_⟩ <;> simp [go_sem]
theorem four_rd {w : World} {a : Option Addr} {vs : List Value} (v0 : Value) (t0 : TypeId) (i : Int) (hr : Rd w a vs) : ∀ w', Below (w.heap.size + 1 + 1 + 1) (four w v0 t0 i) w' → Rd w' a vs := fun w' h =>
  hr.below ((four_below w v0 t0 i).trans (h.mono (by omega)))

theorem or_nat (a b : Nat) (ha : a < 2 ^ 40) (hb : b < 2 ^ 40) : bits .or .i64 (a : Int) (b : Int) = ((a ||| b : Nat) : Int) := by
  have hx : a ||| b < 2 ^ 40 := Nat.or_lt_two_pow ha hb
  have h1 : (BitVec.ofInt 64 (a : Int)).toNat = a := by
    rw [BitVec.ofInt_natCast, BitVec.toNat_ofNat]; exact Nat.mod_eq_of_lt (by omega)
  have h2 : (BitVec.ofInt 64 (b : Int)).toNat = b := by
    rw [BitVec.ofInt_natCast, BitVec.toNat_ofNat]; exact Nat.mod_eq_of_lt (by omega)
  show IntKind.i64.wrap ((BitVec.ofInt 64 (a : Int) ||| BitVec.ofInt 64 (b : Int)).toNat : Int) = _
  rw [BitVec.toNat_or, h1, h2]
  simp [IntKind.wrap, IntKind.bits, IntKind.signed]
  omega

theorem or_up (p : Nat) (m d : Int) (hp : p ≤ 28) (hm0 : 0 ≤ m) (hm : m < 2 ^ p) (hd0 : 0 ≤ d) (hd : d < 128) : bits .or .i64 m (wrap64 (d * 2 ^ p)) = m + d * 2 ^ p := by
  obtain ⟨M, rfl⟩ := Int.eq_ofNat_of_zero_le hm0
  obtain ⟨D, rfl⟩ := Int.eq_ofNat_of_zero_le hd0
  have hM : M < 2 ^ p := by exact_mod_cast hm
  have hpow : (2 : Nat) ^ p ≤ 2 ^ 28 := Nat.pow_le_pow_right (by decide) hp
  have hDP : D * 2 ^ p ≤ 127 * 2 ^ 28 := Nat.mul_le_mul (by omega) hpow
  have e : ((D : Int) * 2 ^ p) = ((D * 2 ^ p : Nat) : Int) := by push_cast; rfl
  rw [e, IntWalk.wrap64_in _ ⟨by omega, by omega⟩, or_nat M (D * 2 ^ p) (by omega) (by omega)]
  have h3 : 2 ^ p * D + M = 2 ^ p * D ||| M := Nat.two_pow_add_eq_or_of_lt hM D
  rw [Nat.or_comm, Nat.mul_comm D, ← h3]
  push_cast
  omega

theorem uo_pow {k : Nat} (hk : k ≤ 4) : uo (5 - k) = 2 ^ (7 * k) := by
  have : k = 0 ∨ k = 1 ∨ k = 2 ∨ k = 3 ∨ k = 4 := by omega
  rcases this with rfl | rfl | rfl | rfl | rfl <;> decide

theorem or_step {k : Nat} {m z : Int} (hk : k ≤ 4) (hm0 : 0 ≤ m) (hm : m < uo (5 - k)) (_hz : 0 ≤ z) : bits .or .i64 m (wrap64 (z % 128 * 2 ^ (7 * k))) = m + z % 128 * uo (5 - k) := by
  rw [uo_pow hk] at hm ⊢
  exact or_up (7 * k) m (z % 128) (by omega) hm0 hm (by omega) (by omega)

set_option maxRecDepth 100000 in
set_option maxHeartbeats 1600000 in
theorem specGetNum_any (a : Option Addr) (zs : List Int) (cap : Nat) (i : Int) (w : World) (hr : Rd w a (u8s zs)) (hb : IsBytes zs) (hm : zs.length ≤ 1048576) (hi : i ≤ 9223372036854775807) :
    Calls Try.prog 35 #[.slice a zs.length cap, .int .i64 i] w fun e w' => (getN zs i = none → e = .returned (.tuple #[.int .i64 0, .int .i64 0, .bool false])) ∧ (∀ n j, getN zs i = some (n, j) → e = .returned (.tuple #[.int .i64 n, .int .i64 (j : Nat), .bool true])) ∧ w' = w := by
  go_enter Try.func35, Try.ntmps35
  go_wp2_with fail
  go_loop [7, 8] (fun n q => ∃ (k : Nat) (m : Int), k ≤ 5 ∧ (k = 0 ∨ 0 ≤ i) ∧ n = .int .i64 m ∧ q = .int .i64 k ∧ 0 ≤ m ∧ m < uo (5 - k) ∧ Hid (getN zs i = getI zs (5 - k) (i + k) (uo (5 - k)) m)) (fun _ q => 5 - (intOf q).toNat)
  case atStart => exact ⟨0, 0, by omega, by omega, rfl, rfl, by omega, by decide, by show _ = _; simp [getN, getI, uo]⟩
  case round =>
    obtain ⟨k, m, hk, hk0, rfl, rfl, hm0, hm1, hget⟩ := hrel
    by_cases hk5 : k = 5
    · subst hk5
      have hg : Hid (getN zs i = none) := by show _ = _; rw [hget.out]; exact getI_zero _ _ _ _
      clear hr
      go_wp2
      go_ret3
      exact ⟨fun _ => rfl, fun n j h => absurd h (by rw [hg.out]; simp), rfl⟩
    · have hk4 : k ≤ 4 := by omega
      by_cases hin : 0 ≤ i ∧ i + k < zs.length
      · obtain ⟨j, rfl⟩ : ∃ j : Nat, i = j := ⟨i.toNat, by omega⟩
        have hj : j + k < zs.length := by omega
        obtain ⟨b, off, z, rfl, hck, hz, HZ⟩ := rd_u8_at hr hb hj
        clear hin hr
        have hor := or_step hk4 hm0 hm1 hz.1
        have e5 : 5 - k = (4 - k) + 1 := by omega
        have hu : 1 ≤ uo (5 - k) ∧ uo (5 - k) ≤ 268435456 ∧ uo (5 - k) * 128 = uo (4 - k) := by
          have : k = 0 ∨ k = 1 ∨ k = 2 ∨ k = 3 ∨ k = 4 := by omega
          rcases this with rfl | rfl | rfl | rfl | rfl <;> decide
        have hug : Hid (uo (5 - k) * 128 = uo (4 - k)) := hu.2.2
        have hu1 := hu.1
        have hu2 := hu.2.1
        clear hu
        have hmul : 0 ≤ z % 128 * uo (5 - k) ∧ z % 128 * uo (5 - k) ≤ 127 * uo (5 - k) :=
          ⟨Int.mul_nonneg (by omega) (by omega), Int.mul_le_mul_of_nonneg_right (by omega) (by omega)⟩
        have hget' : Hid (getN zs j = getI zs ((4 - k) + 1) ((j + k : Nat) : Int) (uo (5 - k)) m) := by
          show _ = _; rw [← e5, hget.out]; push_cast; rfl
        have HE : Hid (5 - k = (4 - k) + 1) := e5
        clear hget e5
        by_cases h128 : 128 ≤ z
        · have hg : Hid (getN zs j = getI zs (4 - k) ((j + k + 1 : Nat) : Int) (uo (4 - k)) (m + z % 128 * uo (5 - k))) := by
            show _ = _; rw [hget'.out, getI_on hj HZ.out h128, hug.out]
          go_wp2
          go_round
          case rel => exact ⟨k + 1, _, by omega, by omega, rfl, by go_num, by omega, by have := hug.out; rw [show 5 - (k + 1) = 4 - k by omega]; omega, by show _ = _; rw [show 5 - (k + 1) = 4 - k by omega, hg.out]; push_cast; rw [Int.add_assoc]⟩
          case measure => simp [intOf]; omega
        · by_cases hbad : 1000000000 < m + z % 128 * uo (5 - k) ∨ z = 0 ∧ 1 < uo (5 - k)
          · have hg : Hid (getN zs j = none) := by show _ = _; rw [hget'.out, getI_bad hj HZ.out h128 hbad]
            have huk : Hid (1 < uo (5 - k) ↔ 0 < k) := by
              show _ ↔ _
              have : k = 0 ∨ k = 1 ∨ k = 2 ∨ k = 3 ∨ k = 4 := by omega
              rcases this with rfl | rfl | rfl | rfl | rfl <;> decide
            by_cases hB : z = 0 ∧ 1 < uo (5 - k)
            · have hkp : (0 : Int) < (k : Int) := by have := huk.out.1 hB.2; omega
              have hze : (z == 0) = true := by simp [hB.1]
              clear hbad hB
              go_wp2
              go_ret3
              exact ⟨fun _ => rfl, fun n j h => absurd h (by rw [hg.out]; simp), rfl⟩
            · have hA : 1000000000 < m + z % 128 * uo (5 - k) := by omega
              by_cases hkp : (0 : Int) < (k : Int)
              · have hze : (z == 0) = false := by
                  have := huk.out.2 (by omega); simp; omega
                clear hbad hB
                go_wp2
                go_ret3
                exact ⟨fun _ => rfl, fun n j h => absurd h (by rw [hg.out]; simp), rfl⟩
              · clear hbad hB
                go_wp2
                go_ret3
                exact ⟨fun _ => rfl, fun n j h => absurd h (by rw [hg.out]; simp), rfl⟩
          · have hg : Hid (getN zs j = some (m + z % 128 * uo (5 - k), j + k + 1)) := by show _ = _; rw [hget'.out, getI_good hj HZ.out h128 hbad]
            have huk : Hid (1 < uo (5 - k) ↔ 0 < k) := by
              show _ ↔ _
              have : k = 0 ∨ k = 1 ∨ k = 2 ∨ k = 3 ∨ k = 4 := by omega
              rcases this with rfl | rfl | rfl | rfl | rfl <;> decide
            have hA : ¬ 1000000000 < m + z % 128 * uo (5 - k) := by omega
            have fin : (getN zs j = none → Ending.returned (.tuple #[.int .i64 (m + z % 128 * uo (5 - k)), .int .i64 ((j : Int) + k + 1), .bool true]) = .returned (.tuple #[.int .i64 0, .int .i64 0, .bool false])) ∧ (∀ n (q : Nat), getN zs j = some (n, q) → Ending.returned (.tuple #[.int .i64 (m + z % 128 * uo (5 - k)), .int .i64 ((j : Int) + k + 1), .bool true]) = .returned (.tuple #[.int .i64 n, .int .i64 (q : Nat), .bool true])) := by
              refine ⟨fun h => absurd h (by rw [hg.out]; simp), fun n q h => ?_⟩
              rw [hg.out] at h
              simp only [Option.some.injEq, Prod.mk.injEq] at h
              obtain ⟨rfl, rfl⟩ := h
              push_cast
              rfl
            by_cases hkp : (0 : Int) < (k : Int)
            · have hze : (z == 0) = false := by
                have := huk.out.2 (by omega); simp; omega
              clear hbad
              go_wp2
              go_ret3
              exact ⟨fin.1, fin.2, rfl⟩
            · clear hbad
              go_wp2
              go_ret3
              exact ⟨fin.1, fin.2, rfl⟩
      · have hg : Hid (getN zs i = none) := by show _ = _; rw [hget.out]; exact getI_out (by omega)
        by_cases h0 : i < 0
        · clear hr
          go_wp2
          go_ret3
          exact ⟨fun _ => rfl, fun n j h => absurd h (by rw [hg.out]; simp), rfl⟩
        · have hge : (zs.length : Int) - k ≤ i := by omega
          clear hr
          go_wp2
          go_ret3
          exact ⟨fun _ => rfl, fun n j h => absurd h (by rw [hg.out]; simp), rfl⟩

end Go.Proofs.Ytdicjbabnknjhaa
