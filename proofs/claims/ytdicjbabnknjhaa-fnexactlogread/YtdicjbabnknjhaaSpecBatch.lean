/-
  Contract of the specification's l7Batch.
-/
import Derived.Test.YtdicjbabnknjhaaImplLogText
import Derived.Test.YtdicjbabnknjhaaSpecRec
namespace Go.Proofs.Ytdicjbabnknjhaa
open Go.RowKit

open Classical in
/-- A batch of short texts. -/
noncomputable def batB (L : List (Int × ByteArray)) : Bool := @decide (inP L ∧ shortP L) (Classical.propDecidable _)
theorem batB_iff {L : List (Int × ByteArray)} : batB L = true ↔ inP L ∧ shortP L := by unfold batB; exact @decide_eq_true_iff _ (Classical.propDecidable _)
theorem batB_false {L : List (Int × ByteArray)} (h : ¬ (inP L ∧ shortP L)) : batB L = false := by
  cases hb : batB L with
  | false => rfl
  | true => exact absurd (batB_iff.1 hb) h
def putSh (L : List (Int × ByteArray)) (k : Nat) : Prop := putInP L k ∧ ∀ x, L[k]? = some x → x.2.size ≤ 400
theorem batB_yes {L : List (Int × ByteArray)} (hl : L.length ≤ 3) (h : ∀ k, k < L.length → putSh L k) : batB L = true := by
  refine batB_iff.2 ⟨⟨hl, fun k hk => (h k hk).1⟩, fun x hx => ?_⟩
  obtain ⟨j, hj, he⟩ := List.mem_iff_getElem.1 hx
  exact (h j hj).2 x (by rw [List.getElem?_eq_getElem hj, he])
theorem batB_no {L : List (Int × ByteArray)} {k : Nat} (hk : k < L.length) (h : ¬ putSh L k) : batB L = false := by
  refine batB_false ?_
  rintro ⟨h1, h2⟩
  exact h ⟨h1.2 k hk, fun x hx => h2 x (List.mem_of_getElem? hx)⟩
theorem batB_long {L : List (Int × ByteArray)} (hl : ¬ L.length ≤ 3) : batB L = false := by
  refine batB_false ?_
  rintro ⟨h1, h2⟩
  exact hl h1.1

set_option maxRecDepth 100000 in
set_option maxHeartbeats 3200000 in
theorem l7Batch_any (la : Option Addr) (L : List (Int × ByteArray)) (lc : Nat) (w : World) (hr : Rd w la (vsPut L)) (hl : L.length ≤ 1048576) :
    Calls Try.prog 25 #[.slice la L.length lc] w fun e w' => e = .returned (.bool (batB L)) ∧ Below w.heap.size w w' := by
  obtain ⟨R, hR⟩ : ∃ R, R = batB L := ⟨_, rfl⟩
  rw [← hR]
  have HRN : Hid (∀ k, k < L.length → ¬ putSh L k → R = false) := fun k hk h => by rw [hR, batB_no hk h]
  have HRY : Hid ((∀ k, k < L.length → putSh L k) → R = decide ((L.length : Int) ≤ 3)) := fun h => by
    rw [hR]
    by_cases h3 : L.length ≤ 3
    · rw [batB_yes h3 h]; symm; rw [decide_eq_true_iff]; omega
    · rw [batB_long h3]; symm; rw [decide_eq_false_iff_not]; omega
  have HL := hide hr
  clear hR hr
  go_enter Try.func25, Try.ntmps25
  go_wp2_with fail
  go_loopw [3, 4] (fun i _ wr => ∃ k : Nat, k ≤ L.length ∧ i = .int .i64 k ∧ Hid (∀ j, j < k → putSh L j) ∧ Hid (Below w.heap.size w wr)) (fun i _ _ => L.length - (intOf i).toNat)
  case atStart => exact ⟨0, Nat.zero_le _, rfl, fun j hj => by omega, Below.refl _ _⟩
  case round =>
    obtain ⟨k, hk, rfl, hin, hbel⟩ := hrel
    by_cases hlt : k < L.length
    · obtain ⟨b1, o1, x, rfl, h0, h1, HX⟩ := rdPut_at (HL.out.below hbel.out) hlt
      obtain ⟨s, t⟩ := x
      have h0 : wr.cell? ⟨b1, o1 + k * 2, none⟩ = some (.int .i64 s) := h0
      have h1 : wr.cell? ⟨b1, o1 + k * 2 + 1, none⟩ = some (.string t) := h1
      have hki : (k : Int) < (L.length : Int) := by omega
      have HN : Hid (¬ putSh L k → R = false) := fun h => HRN.out k hlt h
      by_cases hs : 0 ≤ s ∧ s ≤ 23
      · have hd : decide (0 ≤ s ∧ s ≤ 23) = true := by simpa using hs
        by_cases h4 : (400 : Int) < (t.size : Int)
        · have HF : Hid (R = false) := HN.out (fun h => by have : t.size ≤ 400 := h.2 _ HX.out; omega)
          clear hin HN
          go_wp2_with (first | (go_at_call 41; refine (in_any _ _ _ _).mono ?_; rw [hd]; rintro e u ⟨rfl, hu⟩; have hu' := hu.symm; subst hu'))
          go_ret
          exact ⟨ret_bool HF.out.symm, hbel.out⟩
        · have HSZ : Hid (∀ x, L[k]? = some x → x.2.size ≤ 400) := fun x hx => by rw [HX.out] at hx; cases hx; show t.size ≤ 400; omega
          have HSB : Hid (0 ≤ s ∧ s ≤ 23) := hs
          clear hs
          go_wp2_with (first | (go_at_call 41; refine (in_any _ _ _ _).mono ?_; rw [hd]; rintro e u ⟨rfl, hu⟩; have hu' := hu.symm; subst hu'))
          go_loopw [4] (fun j wx => ∃ m : Nat, m ≤ k ∧ j = .int .i64 m ∧ Hid (∀ j, j < m → ∀ y, L[j]? = some y → y.1 ≠ s) ∧ Hid (Below w.heap.size w wx)) (fun j _ => k - (intOf j).toNat)
          case atStart => exact ⟨0, Nat.zero_le _, rfl, fun j hj => by omega, hbel⟩
          case round =>
            obtain ⟨m, hm, rfl, hdif, hbx⟩ := hrel
            by_cases hmk : m < k
            · obtain ⟨b2, o2, y, he2, g0, -, HY⟩ := rdPut_at (HL.out.below hbx.out) (show m < L.length by omega)
              obtain ⟨b3, o3, x3, he3, k0, -, HX3⟩ := rdPut_at (HL.out.below hbx.out) hlt
              simp only [Option.some.injEq, Addr.mk.injEq] at he2 he3
              obtain ⟨rfl, rfl, -⟩ := he2
              obtain ⟨rfl, rfl, -⟩ := he3
              obtain ⟨sy, ty⟩ := y
              have hx3 := HX3.out
              rw [HX.out] at hx3
              injection hx3 with hx3
              subst hx3
              have g0 : wr.cell? ⟨b1, o1 + m * 2, none⟩ = some (.int .i64 sy) := g0
              have k0 : wr.cell? ⟨b1, o1 + k * 2, none⟩ = some (.int .i64 s) := k0
              have hmi : (m : Int) < (k : Int) := by omega
              have hml : (m : Int) < (L.length : Int) := by omega
              clear h0 h1 hin HX3
              by_cases he : sy = s
              · have HF : Hid (R = false) := HN.out (fun h => by
                  obtain ⟨z, hz, -, hd⟩ := h.1
                  rw [HX.out] at hz; cases hz
                  exact hd m hmk _ HY.out he)
                have ht : (sy == s) = true := by simp [he]
                clear he hdif
                go_wp2
                go_quiet (fail)
                go_wp2
                go_ret
                exact ⟨ret_bool HF.out.symm, after_drew hbx.out _⟩
              · have HD : Hid (∀ j, j < m + 1 → ∀ y, L[j]? = some y → y.1 ≠ s) := fun j hj y hy => by
                  by_cases hjm : j = m
                  · subst hjm; rw [HY.out] at hy; cases hy; exact he
                  · exact hdif.out j (by omega) y hy
                have ht : (sy == s) = false := by simp [he]
                clear he hdif
                go_wp2
                go_quiet (fail)
                go_wp2
                go_roundw
                case rel => exact ⟨m + 1, by omega, by go_num, HD, after_drew hbx.out _⟩
                case measure => simp [intOf]; omega
            · obtain rfl : m = k := by omega
              have HIN : Hid (∀ j, j < m + 1 → putSh L j) := fun j hj => by
                by_cases hjm : j = m
                · subst hjm; exact ⟨⟨_, HX.out, HSB.out, hdif.out⟩, HSZ.out⟩
                · exact hin.out j (by omega)
              have hmi : ¬ (m : Int) < (m : Int) := by omega
              clear hin hdif
              go_wp2
              go_roundw
              case rel => exact ⟨m + 1, by omega, by go_num, HIN, hbx⟩
              case measure => simp [intOf]; omega
      · have hd : decide (0 ≤ s ∧ s ≤ 23) = false := by simpa using hs
        have HF : Hid (R = false) := HN.out (fun h => putIn_out HX.out hs h.1)
        clear hin HN
        go_wp2_with (first | (go_at_call 41; refine (in_any _ _ _ _).mono ?_; rw [hd]; rintro e u ⟨rfl, hu⟩; have hu' := hu.symm; subst hu'))
        go_ret
        exact ⟨ret_bool HF.out.symm, hbel.out⟩
    · have hki : ¬ (k : Int) < (L.length : Int) := by omega
      have HY := hide (HRY.out (fun j hj => hin.out j (by omega)))
      go_wp2
      go_ret
      exact ⟨ret_bool HY.out.symm, hbel.out⟩

end Go.Proofs.Ytdicjbabnknjhaa
