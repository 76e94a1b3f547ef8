/-
  Contract of the draw of GetText's arguments; of the laws' helpers 'big' and 'at'.
-/
import Derived.Test.YtdeipchflgpffaaDraw2
namespace Go.Proofs.Ytdeipchflgpffaa
open Go.RowKit

theorem big_any (a : Option Addr) (n cap : Nat) (w : World) :
    Calls Try.prog 4 #[.slice a n cap] w fun e w' => e = .returned (.bool (decide ((1048576 : Int) < n))) ∧ w' = w := by
  go_enter Try.func4, Try.ntmps4
  go_wp2
  go_ret
  exact ⟨rfl, rfl⟩

theorem at_any (a : Option Addr) (zs : List Int) (cap : Nat) (i : Nat) (w : World) (hr : Rd w a (u8s zs)) (hb : IsBytes zs) (hm : zs.length ≤ 1048576) (hi : i ≤ 1000) :
    Calls Try.prog 10 #[.slice a zs.length cap, .int .i64 i] w fun e w' => (∃ x : Int, e = .returned (.int .i64 x) ∧ 0 ≤ x ∧ x ≤ 255) ∧ w' = w := by
  by_cases h : i < zs.length
  · obtain ⟨b, off, z, rfl, hck, hz, HZ⟩ := rd_u8_at hr hb h
    clear hr
    go_enter Try.func10, Try.ntmps10
    go_wp2
    go_ret
    exact ⟨⟨z, rfl, hz⟩, rfl⟩
  · clear hr
    go_enter Try.func10, Try.ntmps10
    go_wp2
    go_ret
    exact ⟨⟨_, rfl, by omega, by omega⟩, rfl⟩

end Go.Proofs.Ytdeipchflgpffaa
