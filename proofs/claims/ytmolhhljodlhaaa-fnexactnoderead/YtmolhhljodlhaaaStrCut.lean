/-
  Contracts of strings.IndexByte and of strings.Cut at the sign of a folder's text.
-/
import Derived.Test.YtmolhhljodlhaaaReadMath
import Derived.Test.YtmolhhljodlhaaaLib
import Derived.BigQuiet
import Derived.Deep.QuietTactic
namespace Go.Proofs.Ytmolhhljodlhaaa
open Go.RowKit
set_option maxRecDepth 100000
set_option linter.unusedVariables false

set_option maxHeartbeats 1000000 in
theorem liteIndexByte_any (s : ByteArray) (c : Int) (w : World) :
    Calls Try.prog 56 #[.string s, .int .u8 c] w fun e w' => e = .returned (.int .i64 (Lib.indexByte s.data.toList c.toNat.toUInt8)) ∧ w' = w := by
  go_enter Try.func56, Try.ntmps56
  go_wp2
  rw [run_callFunc_extern Try.func59 (by kernel_rfl) (by kernel_rfl) (by kernel_rfl) (e := Extern.BytealgIndexByte.indexByte) (by kernel_rfl), Lib.run_indexByteString]
  simp only [Result.andThen]
  rw [Oper.upon_value]
  go_wp2
  go_ret
  exact ⟨rfl, rfl⟩
set_option maxHeartbeats 1000000 in
theorem stringsIndexByte_any (s : ByteArray) (c : Int) (w : World) :
    Calls Try.prog 49 #[.string s, .int .u8 c] w fun e w' => e = .returned (.int .i64 (Lib.indexByte s.data.toList c.toNat.toUInt8)) ∧ w' = w := by
  go_enter Try.func49, Try.ntmps49
  go_wp2_with fail
  refine (liteIndexByte_any s c w).mono ?_
  rintro e u ⟨rfl, hu⟩
  have hu' := hu.symm
  subst hu'
  go_wp2
  go_ret
  exact ⟨rfl, rfl⟩
set_option maxHeartbeats 1000000 in
theorem liteIndex_any (s : ByteArray) (w : World) :
    Calls Try.prog 62 #[.string s, .string ⟨#[61]⟩] w fun e w' => e = .returned (.int .i64 (Lib.indexByte s.data.toList 61)) ∧ w' = w := by
  obtain ⟨R, hR⟩ : ∃ R, R = Lib.indexByte s.data.toList 61 := ⟨_, rfl⟩
  rw [← hR]
  have HC := hide (liteIndexByte_any s 61 w)
  have hc61 : ((61 : Int).toNat.toUInt8) = 61 := rfl
  rw [hc61, ← hR] at HC
  have h61 : (((⟨#[61]⟩ : ByteArray)[0]).toNat : Int) = 61 := rfl
  by_cases hs : s = ⟨#[61]⟩
  · have HR : Hid (R = 0) := by show _ = _; rw [hR, hs]; rfl
    clear hR HC
    subst hs
    go_enter Try.func62, Try.ntmps62
    go_wp2
    go_ret
    exact ⟨by rw [HR.out]; rfl, rfl⟩
  · have hq2 : ¬ ([61] : List UInt8) = s.toList := by
      intro e
      apply hs
      rw [ByteArray.toList_eq] at e
      cases s with | mk d =>
        have : d = #[61] := by apply Array.ext'; simpa using e.symm
        rw [this]
    have hq : (([61] : List UInt8) == s.toList) = false := by simpa using hq2
    clear hR hs
    go_enter Try.func62, Try.ntmps62
    go_wp2_with fail
    refine HC.out.mono ?_
    rintro e u ⟨rfl, hu⟩
    have hu' := hu.symm
    subst hu'
    clear HC
    go_wp2
    go_ret
    exact ⟨rfl, rfl⟩

theorem bytes_take (s : ByteArray) (a b : Nat) : s.extract a b = ⟨((s.data.toList.drop a).take (b - a)).toArray⟩ := by
  cases s with
  | mk d =>
    apply ByteArray.ext
    apply Array.ext'
    simp [ByteArray.data_extract]

set_option maxHeartbeats 1000000 in
theorem liteCut_any (s : ByteArray) (hs : s.size ≤ 1048576) (w : World) :
    Calls Try.prog 60 #[.string s, .string ⟨#[61]⟩] w fun e w' => (∃ n, w' = w.drewN n) ∧ ((cutU s.data.toList = none ∧ e = .returned (.tuple #[.string s, .string ⟨#[]⟩, .bool false])) ∨ ∃ nm rest, cutU s.data.toList = some (nm, rest) ∧ e = .returned (.tuple #[.string ⟨nm.toArray⟩, .string ⟨rest.toArray⟩, .bool true])) := by
  rcases cutU_index s.data.toList with ⟨h1, h2, -⟩ | ⟨i, h1, h2, h3, -⟩
  · have H2 := hide h2
    have HC := hide (liteIndex_any s w)
    rw [h1] at HC
    clear h1 h2
    go_enter Try.func60, Try.ntmps60
    go_wp2_with fail
    refine HC.out.mono ?_
    rintro e u ⟨rfl, hu⟩
    have hu' := hu.symm
    subst hu'
    go_wp2
    go_ret3
    exact ⟨⟨0, rfl⟩, .inl ⟨H2.out, rfl⟩⟩
  · have H3 := hide h3
    have HC := hide (liteIndex_any s w)
    rw [h1] at HC
    have hil : i < s.size := by simpa using h2
    have hi1 : (0 : Int) ≤ (i : Int) := by omega
    have hi2 : (i : Int) ≤ (s.size : Int) := by omega
    have hi3 : (0 : Int) ≤ (i : Int) + 1 := by omega
    have hi4 : (i : Int) + 1 ≤ (s.size : Int) := by omega
    clear h1 h2 h3
    go_enter Try.func60, Try.ntmps60
    go_wp2_with fail
    refine HC.out.mono ?_
    rintro e u ⟨rfl, hu⟩
    have hu' := hu.symm
    subst hu'
    clear HC
    go_wp2
    go_quiet (fail)
    go_wp2
    go_ret3
    refine ⟨⟨_, rfl⟩, .inr ⟨_, _, H3.out, ?_⟩⟩
    have e1 : s.extract 0 i = ⟨(s.data.toList.take i).toArray⟩ := by rw [bytes_take]; simp
    have e2 : s.extract (i + 1) s.size = ⟨(s.data.toList.drop (i + 1)).toArray⟩ := by
      rw [bytes_take, List.take_of_length_le (by rw [List.length_drop]; simp)]
    show Ending.returned (.tuple #[.string (s.extract 0 i), .string (s.extract (i + 1) s.size), .bool true]) = _
    rw [e1, e2]

set_option maxHeartbeats 1000000 in
theorem stringsCut_any (s : ByteArray) (hs : s.size ≤ 1048576) (w : World) :
    Calls Try.prog 57 #[.string s, .string ⟨#[61]⟩] w fun e w' => (∃ n, w' = w.drewN n) ∧ ((cutU s.data.toList = none ∧ e = .returned (.tuple #[.string s, .string ⟨#[]⟩, .bool false])) ∨ ∃ nm rest, cutU s.data.toList = some (nm, rest) ∧ e = .returned (.tuple #[.string ⟨nm.toArray⟩, .string ⟨rest.toArray⟩, .bool true])) := by
  go_enter Try.func57, Try.ntmps57
  go_wp2_with fail
  refine (liteCut_any s hs w).mono ?_
  rintro e u ⟨⟨n, hn⟩, ⟨hc, rfl⟩ | ⟨nm, rest, hc, rfl⟩⟩
  · have HC := hide hc
    have HN := hide hn
    clear hc hn
    go_wp2
    go_ret3
    exact ⟨⟨n, HN.out⟩, .inl ⟨HC.out, rfl⟩⟩
  · have HC := hide hc
    have HN := hide hn
    clear hc hn
    go_wp2
    go_ret3
    exact ⟨⟨n, HN.out⟩, .inr ⟨nm, rest, HC.out, rfl⟩⟩
end Go.Proofs.Ytmolhhljodlhaaa
