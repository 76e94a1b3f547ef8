/-
  NameOk, the program's and the specification's: 1 to 6 bytes from a to z.
-/
import Derived.Test.YtmolhhljodlhaaaLib
import Derived.Test.YtmolhhljodlhaaaIn
import Derived.Test.YtmolhhljodlhaaaStrLib
namespace Go.Proofs.Ytmolhhljodlhaaa
open Go.RowKit
set_option maxRecDepth 100000

def lowB (b : UInt8) : Bool := decide (97 ≤ b.toNat) && decide (b.toNat ≤ 122)
def nameB (s : ByteArray) : Bool := s.data.toList.all lowB && decide (1 ≤ s.size) && decide (s.size ≤ 6)
theorem nameB_pre {s : ByteArray} {k : Nat} (hk : k < s.size) (h : Hid ((s.data.toList.take k).all lowB = true)) : (lowB s[k] = true → Hid ((s.data.toList.take (k + 1)).all lowB = true)) ∧ (lowB s[k] = false → nameB s = false) := by
  have e : s.data.toList[k]? = some s[k] := by
    have : k < s.data.toList.length := by simpa using hk
    rw [List.getElem?_eq_getElem this]; simp [ByteArray.getElem_eq_getElem_data]
  constructor
  · intro hb
    show _ = true
    have := h.out
    rw [List.take_add_one, e]
    simp only [Option.toList_some, List.all_append, List.all_cons, List.all_nil, hb, this, Bool.and_self]
  · intro hb
    unfold nameB
    have : s.data.toList.all lowB = false := by
      cases hc : s.data.toList.all lowB with
      | false => rfl
      | true =>
        rw [List.all_eq_true] at hc
        have := hc s[k] (List.mem_of_getElem? e)
        rw [hb] at this; cases this
    rw [this]; simp
theorem nameB_all {s : ByteArray} {k : Nat} (hk : ¬ k < s.size) (h : Hid ((s.data.toList.take k).all lowB = true)) : nameB s = (decide (1 ≤ s.size) && decide (s.size ≤ 6)) := by
  have := h.out
  rw [List.take_of_length_le (by simp; omega)] at this
  unfold nameB
  rw [this]; simp

set_option maxHeartbeats 800000 in
theorem implNameOk_any (s : ByteArray) (hs : s.size ≤ 9223372036854775807) (w : World) :
    Calls Try.prog 10 #[.string s] w fun e w' => e = .returned (.bool (nameB s)) ∧ w' = w := by
  go_enter Try.func10, Try.ntmps10
  go_wp2_with fail
  go_loop [6] (fun i => ∃ k : Nat, k ≤ s.size ∧ i = .int .i64 k ∧ Hid ((s.data.toList.take k).all lowB = true)) (fun i => s.size - (intOf i).toNat)
  case atStart => exact ⟨0, Nat.zero_le _, rfl, by show _ = true; simp⟩
  case round =>
    obtain ⟨k, hk, rfl, hall⟩ := hrel
    by_cases hlt : k < s.size
    · obtain ⟨h1, h2⟩ := nameB_pre hlt hall
      have H1 := hide h1
      have H2 := hide h2
      clear h1 h2 hall
      by_cases hA : (s[k].toNat : Int) < 97
      · have HF : Hid (nameB s = false) := H2.out (by unfold lowB; simp; omega)
        go_wp2
        go_ret
        exact ⟨by rw [HF.out]; rfl, rfl⟩
      · by_cases hB : (122 : Int) < (s[k].toNat : Int)
        · have HF : Hid (nameB s = false) := H2.out (by unfold lowB; simp; omega)
          go_wp2
          go_ret
          exact ⟨by rw [HF.out]; rfl, rfl⟩
        · have HN := H1.out (by unfold lowB; simp; omega)
          go_wp2
          go_round
          case rel => exact ⟨k + 1, by omega, by go_num, HN⟩
          case measure => simp [intOf]; omega
    · have HA := hide (nameB_all hlt hall)
      clear hall
      by_cases h0 : s.size = 0
      · have HH : Hid (nameB s = false) := by rw [HA.out, h0]; rfl
        have hq := list_none h0
        have hq2 : s.toList.isEmpty = true := by rw [hq]; rfl
        clear h0
        go_wp2
        go_ret
        exact ⟨by rw [HH.out]; rfl, rfl⟩
      · have hq := list_some h0
        have hq2 : s.toList.isEmpty = false := by simpa using hq
        have HH : Hid (nameB s = decide (s.size ≤ 6)) := by rw [HA.out]; simp only [Bool.and_eq_right_iff_imp]; intro _; simp; omega
        clear HA
        go_wp2
        go_ret
        exact ⟨by rw [HH.out]; simp; omega, rfl⟩

set_option maxHeartbeats 800000 in
theorem specNameOk_any (s : ByteArray) (hs : s.size ≤ 9223372036854775807) (w : World) :
    Calls Try.prog 9 #[.string s] w fun e w' => e = .returned (.bool (nameB s)) ∧ w' = w := by
  go_enter Try.func9, Try.ntmps9
  go_wp2_with fail
  go_loop [3] (fun i => ∃ k : Nat, k ≤ s.size ∧ i = .int .i64 k ∧ Hid ((s.data.toList.take k).all lowB = true)) (fun i => s.size - (intOf i).toNat)
  case atStart => exact ⟨0, Nat.zero_le _, rfl, by show _ = true; simp⟩
  case round =>
    obtain ⟨k, hk, rfl, hall⟩ := hrel
    by_cases hlt : k < s.size
    · obtain ⟨h1, h2⟩ := nameB_pre hlt hall
      have H1 := hide h1
      have H2 := hide h2
      clear h1 h2 hall
      by_cases hA : (s[k].toNat : Int) < 97
      · have HF : Hid (nameB s = false) := H2.out (by unfold lowB; simp; omega)
        go_wp2
        go_ret
        exact ⟨by rw [HF.out]; rfl, rfl⟩
      · by_cases hB : (122 : Int) < (s[k].toNat : Int)
        · have HF : Hid (nameB s = false) := H2.out (by unfold lowB; simp; omega)
          go_wp2
          go_ret
          exact ⟨by rw [HF.out]; rfl, rfl⟩
        · have HN := H1.out (by unfold lowB; simp; omega)
          go_wp2
          go_round
          case rel => exact ⟨k + 1, by omega, by go_num, HN⟩
          case measure => simp [intOf]; omega
    · have HA := hide (nameB_all hlt hall)
      clear hall
      go_wp2_with fail
      refine (in_any s.size 1 6 w).mono ?_
      rintro e u ⟨rfl, hu⟩
      have hu' := hu.symm
      subst hu'
      go_wp2
      go_ret
      refine ⟨?_, rfl⟩
      show Ending.returned (.bool (decide ((1 : Int) ≤ s.size) && decide ((s.size : Int) ≤ 6))) = _
      refine ret_bool ?_
      rw [HA.out, Bool.eq_iff_iff]
      simp
      omega
end Go.Proofs.Ytmolhhljodlhaaa
