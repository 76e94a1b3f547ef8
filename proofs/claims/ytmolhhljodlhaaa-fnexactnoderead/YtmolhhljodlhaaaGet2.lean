/-
  Contracts of impl.GetNum: the deferred closure, and the two ways through the door.
-/
import Derived.Test.YtmolhhljodlhaaaGet
import Derived.RegionTactic
import Derived.ChangeAlike
namespace Go.Proofs.Ytmolhhljodlhaaa
open Go.RowKit

/-- The world behind three named results and a place: four new blocks. -/
abbrev four (w : World) (v0 : Value) (t0 : TypeId) (i : Int) : World :=
  (((w.alloc (Obj.cells #[v0] t0)).alloc (Obj.cells #[.int .i64 0] 3)).alloc (Obj.cells #[.bool false] 4)).alloc (Obj.cells #[.int .i64 i] 3)
theorem four_below (w : World) (v0 : Value) (t0 : TypeId) (i : Int) : Below w.heap.size w (four w v0 t0 i) :=
  ((((Below.refl _ _).alloc (Nat.le_refl _) _).alloc (by simp) _).alloc (by simp; omega) _).alloc (by simp; omega) _
theorem four_cells (w : World) (v0 : Value) (t0 : TypeId) (i : Int) :
    (four w v0 t0 i).cell? ⟨w.heap.size, 0, none⟩ = some v0 ∧ (four w v0 t0 i).cell? ⟨w.heap.size + 1, 0, none⟩ = some (.int .i64 0) ∧
    (four w v0 t0 i).cell? ⟨w.heap.size + 1 + 1, 0, none⟩ = some (.bool false) ∧ (four w v0 t0 i).cell? ⟨w.heap.size + 1 + 1 + 1, 0, none⟩ = some (.int .i64 i) := by
  refine ⟨?_, ?_, ?_, ?_⟩ <;> simp [go_sem]
theorem four_free (w : World) (v0 : Value) (t0 : TypeId) (i : Int) :
    (four w v0 t0 i).frozen? ⟨w.heap.size, 0, none⟩ = false ∧ (four w v0 t0 i).frozen? ⟨w.heap.size + 1, 0, none⟩ = false ∧
    (four w v0 t0 i).frozen? ⟨w.heap.size + 1 + 1, 0, none⟩ = false ∧ (four w v0 t0 i).frozen? ⟨w.heap.size + 1 + 1 + 1, 0, none⟩ = false := by
  refine ⟨?_, ?_, ?_, ?_⟩ <;> simp [go_sem]
theorem four_rd {w : World} {a : Option Addr} {vs : List Value} (v0 : Value) (t0 : TypeId) (i : Int) (hr : Rd w a vs) : ∀ w', Below (w.heap.size + 1 + 1 + 1) (four w v0 t0 i) w' → Rd w' a vs := fun w' h =>
  hr.below ((four_below w v0 t0 i).trans (h.mono (by omega)))

theorem or_nat (a b : Nat) (ha : a < 2 ^ 40) (hb : b < 2 ^ 40) : bits .or .i64 (a : Int) (b : Int) = ((a ||| b : Nat) : Int) := by
  have hx : a ||| b < 2 ^ 40 := Nat.or_lt_two_pow ha hb
  have h1 : (BitVec.ofInt 64 (a : Int)).toNat = a := by
    rw [BitVec.ofInt_natCast, BitVec.toNat_ofNat]; exact Nat.mod_eq_of_lt (by omega)
  have h2 : (BitVec.ofInt 64 (b : Int)).toNat = b := by
    rw [BitVec.ofInt_natCast, BitVec.toNat_ofNat]; exact Nat.mod_eq_of_lt (by omega)
  show IntKind.i64.wrap ((BitVec.ofInt 64 (a : Int) ||| BitVec.ofInt 64 (b : Int)).toNat : Int) = _
  rw [BitVec.toNat_or, h1, h2]
  simp [IntKind.wrap, IntKind.bits, IntKind.signed]
  omega

theorem or_up (p : Nat) (m d : Int) (hp : p ≤ 28) (hm0 : 0 ≤ m) (hm : m < 2 ^ p) (hd0 : 0 ≤ d) (hd : d < 128) : bits .or .i64 m (wrap64 (d * 2 ^ p)) = m + d * 2 ^ p := by
  obtain ⟨M, rfl⟩ := Int.eq_ofNat_of_zero_le hm0
  obtain ⟨D, rfl⟩ := Int.eq_ofNat_of_zero_le hd0
  have hM : M < 2 ^ p := by exact_mod_cast hm
  have hpow : (2 : Nat) ^ p ≤ 2 ^ 28 := Nat.pow_le_pow_right (by decide) hp
  have hDP : D * 2 ^ p ≤ 127 * 2 ^ 28 := Nat.mul_le_mul (by omega) hpow
  have e : ((D : Int) * 2 ^ p) = ((D * 2 ^ p : Nat) : Int) := by push_cast; rfl
  rw [e, IntWalk.wrap64_in _ ⟨by omega, by omega⟩, or_nat M (D * 2 ^ p) (by omega) (by omega)]
  have h3 : 2 ^ p * D + M = 2 ^ p * D ||| M := Nat.two_pow_add_eq_or_of_lt hM D
  rw [Nat.or_comm, Nat.mul_comm D, ← h3]
  push_cast
  omega

theorem uo_pow {k : Nat} (hk : k ≤ 4) : uo (5 - k) = 2 ^ (7 * k) := by
  have : k = 0 ∨ k = 1 ∨ k = 2 ∨ k = 3 ∨ k = 4 := by omega
  rcases this with rfl | rfl | rfl | rfl | rfl <;> decide

theorem or_step {k : Nat} {m z : Int} (hk : k ≤ 4) (hm0 : 0 ≤ m) (hm : m < uo (5 - k)) (_hz : 0 ≤ z) : bits .or .i64 m (wrap64 (z % 128 * 2 ^ (7 * k))) = m + z % 128 * uo (5 - k) := by
  rw [uo_pow hk] at hm ⊢
  exact or_up (7 * k) m (z % 128) (by omega) hm0 hm (by omega) (by omega)

end Go.Proofs.Ytmolhhljodlhaaa
