/-
  Contracts of the two sums (impl.Sum, spec.Sum) and of the laws' helpers toByteS, eqByteS over byte slices.
-/
import Derived.Test.YtdicjbabnknjhaaChecked
import Derived.Test.YtdicjbabnknjhaaLib
import Derived.Deep.QuietTactic
import Derived.BigQuiet
namespace Go.Proofs.Ytdicjbabnknjhaa
open Go.RowKit

/-- What Sum tells. -/
def sumOf (l : List Int) : Int := l.foldl (fun x b => (31 * x + b) % 1000003) 7

theorem sumOf_snoc (l : List Int) (c : Int) : sumOf (l ++ [c]) = (31 * sumOf l + c) % 1000003 := by simp [sumOf]
theorem sumOf_bd (l : List Int) : 0 ≤ sumOf l ∧ sumOf l < 1000003 := by
  rcases List.eq_nil_or_concat l with h | ⟨l', c, h⟩
  · subst h; simp [sumOf]
  · rw [List.concat_eq_append] at h; subst h; rw [sumOf_snoc]; omega
theorem take_snoc {l : List Int} {k : Nat} (h : k < l.length) : l.take (k + 1) = l.take k ++ [l[k]?.getD 0] := by
  rw [List.take_succ_eq_append_getElem h]; simp [h]
theorem sumOf_take {l : List Int} {k : Nat} (h : k < l.length) : sumOf (l.take (k + 1)) = (31 * sumOf (l.take k) + l[k]?.getD 0) % 1000003 := by rw [take_snoc h, sumOf_snoc]

set_option maxHeartbeats 400000 in
theorem implSum_any (a : Option Addr) (zs : List Int) (cap : Nat) (w : World) (hr : Rd w a (u8s zs)) (hb : IsBytes zs) (hm : zs.length ≤ maxLen) :
    Calls Try.prog 33 #[.slice a zs.length cap] w fun e w' => e = .returned (.int .i64 (sumOf zs)) ∧ w' = w := by
  unfold maxLen at hm
  go_enter Try.func33, Try.ntmps33
  go_wp2
  go_loop [3, 8] (fun n i => ∃ k : Nat, k ≤ zs.length ∧ i = .int .i64 k ∧ n = .int .i64 (sumOf (zs.take k))) (fun _ i => zs.length - (intOf i).toNat)
  case atStart => exact ⟨0, Nat.zero_le _, rfl, rfl⟩
  case round =>
    obtain ⟨k, hk, rfl, rfl⟩ := hrel
    have hd := sumOf_bd (zs.take k)
    by_cases hlt : k < zs.length
    · obtain ⟨b, off, z, rfl, hck, hz, HZ⟩ := rd_u8_at hr hb hlt
      have HS : Hid (sumOf (zs.take (k + 1)) = (31 * sumOf (zs.take k) + z) % 1000003) := by rw [← HZ.out]; exact sumOf_take hlt
      clear hr
      go_wp2
      go_round
      case rel => exact ⟨k + 1, by omega, by go_num, by rw [HS.out]⟩
      case measure => simp [intOf]; omega
    · go_wp2
      go_ret
      exact ⟨ret_int (by rw [List.take_of_length_le (by omega)]), rfl⟩

set_option maxHeartbeats 400000 in
theorem specSum_any (a : Option Addr) (zs : List Int) (cap : Nat) (w : World) (hr : Rd w a (u8s zs)) (hb : IsBytes zs) (hm : zs.length ≤ maxLen) :
    Calls Try.prog 28 #[.slice a zs.length cap] w fun e w' => e = .returned (.int .i64 (sumOf zs)) ∧ w' = w := by
  unfold maxLen at hm
  go_enter Try.func28, Try.ntmps28
  go_wp2
  go_loop [3, 4] (fun n i => ∃ k : Nat, k ≤ zs.length ∧ i = .int .i64 k ∧ n = .int .i64 (sumOf (zs.take k))) (fun _ i => zs.length - (intOf i).toNat)
  case atStart => exact ⟨0, Nat.zero_le _, rfl, rfl⟩
  case round =>
    obtain ⟨k, hk, rfl, rfl⟩ := hrel
    have hd := sumOf_bd (zs.take k)
    by_cases hlt : k < zs.length
    · obtain ⟨b, off, z, rfl, hck, hz, HZ⟩ := rd_u8_at hr hb hlt
      have HS : Hid (sumOf (zs.take (k + 1)) = (31 * sumOf (zs.take k) + z) % 1000003) := by rw [← HZ.out]; exact sumOf_take hlt
      clear hr
      go_wp2
      go_round
      case rel => exact ⟨k + 1, by omega, by go_num, by rw [HS.out]⟩
      case measure => simp [intOf]; omega
    · go_wp2
      go_ret
      exact ⟨ret_int (by rw [List.take_of_length_le (by omega)]), rfl⟩

end Go.Proofs.Ytdicjbabnknjhaa
