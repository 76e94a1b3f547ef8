/-
  Contracts of the specification's records: RecOk, RecText.
-/
import Derived.Test.YtdicjbabnknjhaaRecMath
import Derived.Test.YtdicjbabnknjhaaAppendTwo
import Derived.Deep.RegionHeldLaw
namespace Go.Proofs.Ytdicjbabnknjhaa
open Go.RowKit

set_option maxRecDepth 100000 in
set_option maxHeartbeats 1600000 in
theorem specRecOk_any (s q : Int) (d : ByteArray) (w : World) (hd : d.size ≤ maxLen) :
    Calls Try.prog 77 #[.agg #[.int .i64 s, .int .i64 q, .string d]] w fun e w' => e = .returned (.bool (recOkB s q d)) ∧ Below w.heap.size w w' := by
  unfold maxLen at hd
  obtain ⟨W, hW⟩ : ∃ W, W = w.alloc (Obj.cells #[.int .i64 s, .int .i64 q, .string d] 84) := ⟨_, rfl⟩
  have hbW : Below w.heap.size w W := by subst hW; exact (Below.refl _ _).alloc (Nat.le_refl _) _
  have c1 : W.cell? ⟨w.heap.size, 1, none⟩ = some (.int .i64 q) := by subst hW; simp
  have c2 : W.cell? ⟨w.heap.size, 2, none⟩ = some (.string d) := by subst hW; simp
  obtain ⟨B1, hB1⟩ : ∃ B, B = decide (0 ≤ s ∧ s ≤ 25) := ⟨_, rfl⟩
  obtain ⟨B2, hB2⟩ : ∃ B, B = decide (1 ≤ q ∧ q ≤ 1000000000) := ⟨_, rfl⟩
  have HR : Hid (recOkB s q d = (B1 && B2 && decide (d.size ≤ 400))) := by rw [hB1, hB2]; rfl
  go_enter Try.func77, Try.ntmps77
  go_wp2_with fail
  rw [← hW]
  clear hW
  refine (in_any _ _ _ _).mono ?_
  rw [← hB1]
  clear hB1
  rintro e u ⟨rfl, hu⟩
  have hu' := hu.symm
  subst hu'
  cases B1 with
  | false =>
    go_wp2
    go_ret
    exact ⟨ret_bool (by rw [HR.out]; rfl), hbW⟩
  | true =>
    go_wp2_with fail
    refine (in_any _ _ _ _).mono ?_
    rw [← hB2]
    clear hB2
    rintro e u ⟨rfl, hu⟩
    have hu' := hu.symm
    subst hu'
    cases B2 with
    | false =>
      go_wp2
      go_ret
      exact ⟨ret_bool (by rw [HR.out]; rfl), hbW⟩
    | true =>
      by_cases h4 : (d.size : Int) ≤ 400
      · have hd4 : Hid (decide (d.size ≤ 400) = true) := by show _ = _; simp; omega
        go_wp2
        go_ret
        exact ⟨ret_bool (by rw [HR.out, hd4.out]; rfl), hbW⟩
      · have hd4 : Hid (decide (d.size ≤ 400) = false) := by show _ = _; simp; omega
        go_wp2
        go_ret
        exact ⟨ret_bool (by rw [HR.out, hd4.out]; simp; omega), hbW⟩

theorem putB_pos {x : Int} (h0 : 0 ≤ x) (h1 : x ≤ 1000000000) : 0 < (putB x).length := by
  unfold putB
  rw [if_pos ⟨h0, h1⟩]
  exact (numF_len 4 x).1
theorem u8s_app (a b : List Int) : u8s a ++ u8s b = u8s (a ++ b) := by simp [u8s]

set_option maxRecDepth 100000 in
set_option maxHeartbeats 3200000 in
theorem specRecText_any (s q : Int) (d : ByteArray) (w : World) (hd : d.size ≤ maxLen) (hs0 : -9223372036854775808 ≤ s) (hs1 : s ≤ 9223372036854775807) (hq0 : -9223372036854775808 ≤ q) (hq1 : q ≤ 9223372036854775807) :
    Calls Try.prog 71 #[.agg #[.int .i64 s, .int .i64 q, .string d]] w fun e w' => e = .returned (.string (recT s q d)) ∧ Below w.heap.size w w' := by
  obtain ⟨W, hW⟩ : ∃ W, W = w.alloc (Obj.cells #[.int .i64 s, .int .i64 q, .string d] 84) := ⟨_, rfl⟩
  have hbW : Below w.heap.size w W := by subst hW; exact (Below.refl _ _).alloc (Nat.le_refl _) _
  have cW : W.cell? ⟨w.heap.size, 0, none⟩ = some (.int .i64 s) ∧ W.cell? ⟨w.heap.size, 1, none⟩ = some (.int .i64 q) ∧ W.cell? ⟨w.heap.size, 2, none⟩ = some (.string d) := by
    subst hW; refine ⟨?_, ?_, ?_⟩ <;> simp
  have hsW : w.heap.size < W.heap.size := by subst hW; simp
  obtain ⟨R, hR⟩ : ∃ R, R = recT s q d := ⟨_, rfl⟩
  rw [← hR]
  go_enter Try.func71, Try.ntmps71
  go_wp2_with fail
  rw [← hW]
  clear hW
  refine (specRecOk_any s q d W hd).mono ?_
  rintro e w1 ⟨rfl, hb1⟩
  have hbw1 := after hbW hb1
  have hs1' := hb1.size
  cases hok : recOkB s q d with
  | false =>
    have HR : Hid (R = ByteArray.empty) := by show _ = _; rw [hR, recT, recB, hok]; rfl
    clear hR hok hb1 hbW cW
    go_wp2
    go_ret
    exact ⟨by rw [HR.out]; rfl, hbw1⟩
  | true =>
    obtain ⟨⟨a0, a1⟩, ⟨b0, b1⟩, d4⟩ := recOkB_iff.1 hok
    have HR : Hid (R = strOf (putB (sumOf (restB s q d)) ++ restB s q d)) := by show _ = _; rw [hR, recT, recB, if_pos hok]
    have HC : Hid (∀ u, Below w1.heap.size w1 u → u.cell? ⟨w.heap.size, 0, none⟩ = some (.int .i64 s) ∧ u.cell? ⟨w.heap.size, 1, none⟩ = some (.int .i64 q) ∧ u.cell? ⟨w.heap.size, 2, none⟩ = some (.string d)) := by
      intro u hu
      have h := after hb1 hu
      exact ⟨(h.cell (p := ⟨w.heap.size, 0, none⟩) (by show _ < _; exact hsW)).trans cW.1, (h.cell (p := ⟨w.heap.size, 1, none⟩) (by show _ < _; exact hsW)).trans cW.2.1, (h.cell (p := ⟨w.heap.size, 2, none⟩) (by show _ < _; exact hsW)).trans cW.2.2⟩
    obtain ⟨i0, hi, hz0, hz1, hz2⟩ := info_parts info5
    have hdr : Below w1.heap.size w1 w1.drew := after_drew (Below.refl _ _) 1
    obtain ⟨c0, c1, c2⟩ := HC.out w1 (Below.refl _ _)
    have hps := putB_len s
    have hpq := putB_len q
    have hpd := textB_len d
    have hpp := putB_pos (x := q) (by omega) b1
    have HD := hide d4
    obtain ⟨L, hL⟩ : ∃ L, L = putB s ++ putB q := ⟨_, rfl⟩
    have HLQ := hide hL
    have hLl : L.length ≤ 10 := by rw [hL]; simp; omega
    obtain ⟨T, hT⟩ : ∃ T, T = L ++ textB d := ⟨_, rfl⟩
    have HTQ := hide hT
    have hTl : T.length ≤ 415 := by rw [hT]; simp; omega
    have HTR : Hid (T = restB s q d) := by show _ = _; rw [hT, hL]; rfl
    have hTb : IsBytes T := by rw [HTR.out]; exact restB_bytes s q d
    have hsum := sumOf_bd T
    obtain ⟨Z, hZ⟩ : ∃ Z, Z = sumOf T := ⟨_, rfl⟩
    rw [← hZ] at hsum
    have HZ := hide hZ
    have hpz := putB_len Z
    obtain ⟨F, hF⟩ : ∃ F, F = putB Z ++ T := ⟨_, rfl⟩
    have HFQ := hide hF
    have hFb : IsBytes F := by rw [hF]; exact (putB_bytes Z).app hTb
    have hFl : F.length ≤ 420 := by rw [hF]; simp; omega
    have HRF : Hid (R = strOf F) := by show _ = _; rw [HR.out, hF, hZ, HTR.out]
    have HTB := hide hTb
    have HFB := hide hFb
    clear hL hT hZ hF hTb hFb HR
    clear hR hok hb1 hbW cW d4
    go_wp2_with fail
    go_region_held_law (fun w' => w'.cell? ⟨w.heap.size, 0, none⟩ = some (.int .i64 s) ∧ w'.cell? ⟨w.heap.size, 1, none⟩ = some (.int .i64 q) ∧ w'.cell? ⟨w.heap.size, 2, none⟩ = some (.string d))
      (first | assumption | go_keep)
      ((first
        | (refine step_append_two rfl (.tmp 9) (.tmp 12) 54 rfl w1.heap.size w2.heap.size 5 i0 (.int .u8 0) 1 Try.underlying54 hi hz0 hz1 hz2 rfl _ _ _ (by rfl) HO2'.out _ _ _ (by rfl) HO3.out (u8s_one _) hpp (by omega) (by omega) HS3.out.size ?_; intro v4 w4 ho4 hb4; have HS4 : Hid (Below w1.heap.size w1 w4) := HS3.out.trans hb4; have hS4 := HC.out w4 HS4.out; rw [u8s_app, ← List.length_append, ← HLQ.out] at ho4; obtain ⟨a4, k4, hv4, -⟩ := owns_open ho4; subst hv4; have HO4 := hide ho4; clear ho4 hb4)
        | (go_at_call_of 26 (Value.int IntKind.i64 s); refine (specPutNum_any s _ hs0 hs1).mono ?_; rintro e w2 ⟨v2, rfl, ho2, hb2⟩; obtain ⟨a2, k2, hv2, -⟩ := owns_open ho2; subst hv2; have HS2 : Hid (Below w1.heap.size w1 w2) := after hdr hb2; have hS2 := HC.out w2 HS2.out; have HO2 := hide ho2; clear ho2 hb2)
        | (go_at_call_of 26 (Value.int IntKind.i64 q); refine (specPutNum_any q _ hq0 hq1).mono ?_; rintro e w3 ⟨v3, rfl, ho3, hb3⟩; obtain ⟨a3, k3, hv3, -⟩ := owns_open ho3; subst hv3; have HS3 : Hid (Below w1.heap.size w1 w3) := after HS2.out hb3; have hS3 := HC.out w3 HS3.out; have HO2' := hide (owns_below HO2.out hb3); have HO3 := hide ho3; clear ho3 hb3)))
    have hbw4 := after hbw1 HS4.out
    have hs4 : w1.heap.size ≤ w4.heap.size := HS4.out.size
    obtain ⟨-, -, e2⟩ := id hS4
    clear c0 c1 c2 hS2 hS3 hS4 HC HO2 HO2' HO3 HS2 HS3 hdr
    go_wp2_with fail
    refine (specPutText_any d w4 hd).mono ?_
    rintro e w5 ⟨v5, rfl, ho5, hb5⟩
    obtain ⟨a5, k5, rfl, -⟩ := owns_open ho5
    have HO4' := hide (owns_below HO4.out hb5)
    have HO5 := hide ho5
    have hs5 := hb5.size
    have hbw5 := after hbw4 hb5
    clear ho5 hb5 HO4
    go_wp2_with (at_builtin; refine wpList_append_two rfl (.tmp 14) (.tmp 17) 54 rfl w1.heap.size w4.heap.size 5 i0 (.int .u8 0) 1 Try.underlying54 hi hz0 hz1 hz2 rfl _ _ _ rfl HO4'.out _ _ _ rfl HO5.out (u8s_one _) (by omega) (by omega) (by omega) ?_; intro v6 w6 ho6 hb6; rw [u8s_app, ← List.length_append, ← HTQ.out] at ho6; obtain ⟨a6, k6, hv6, hr6⟩ := owns_open ho6; subst hv6; have HO6 := hide ho6; have HR6 := hide hr6; clear ho6 hr6)
    have hbw6 : Below w.heap.size w w6 := hbw5.trans (hb6.mono (by have := hbw1.size; omega))
    have hs6 := hb6.size
    clear hb6 HO4' HO5
    refine (specSum_any a6 T k6 w6 HR6.out HTB.out (by unfold maxLen; omega)).mono ?_
    rw [← HZ.out]
    rintro e u ⟨rfl, hu⟩
    have hu' := hu.symm
    subst hu'
    go_wp2_with fail
    refine (specPutNum_any Z w6 (by omega) (by omega)).mono ?_
    rintro e w7 ⟨v7, rfl, ho7, hb7⟩
    obtain ⟨a7, k7, rfl, -⟩ := owns_open ho7
    have HO6' := hide (owns_below HO6.out hb7)
    have HO7 := hide ho7
    have hs7 := hb7.size
    have hbw7 := after hbw6 hb7
    clear ho7 hb7 HO6 HR6
    go_wp2_with (at_builtin; refine wpList_append_two rfl (.tmp 21) (.tmp 22) 54 rfl w6.heap.size w1.heap.size 5 i0 (.int .u8 0) 1 Try.underlying54 hi hz0 hz1 hz2 rfl _ _ _ rfl HO7.out _ _ _ rfl HO6'.out (u8s_one _) (by omega) (by omega) (by omega) ?_; intro v8 w8 ho8 hb8; rw [u8s_app, ← List.length_append, ← HFQ.out] at ho8; obtain ⟨a8, k8, hv8, -⟩ := owns_open ho8; subst hv8; have hcv := conv_owned HFB.out ho8; clear ho8)
    go_ret
    exact ⟨by rw [HRF.out]; rfl, hbw7.trans (hb8.mono hbw6.size)⟩

end Go.Proofs.Ytdicjbabnknjhaa
