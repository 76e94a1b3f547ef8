/-
  Contract of the specification's LogText.
-/
import Derived.Test.YtdicjbabnknjhaaSpecBatch
namespace Go.Proofs.Ytdicjbabnknjhaa
open Go.RowKit

set_option maxRecDepth 100000 in
set_option maxHeartbeats 6400000 in
theorem specLogText_any (la : Option Addr) (L : List (Int × ByteArray)) (lc : Nat) (w : World) (hr : Rd w la (vsPut L)) (hl : L.length ≤ 1048576) (hLb : ∀ x ∈ L, x.2.size ≤ maxLen ∧ -9223372036854775808 ≤ x.1 ∧ x.1 ≤ 9223372036854775807) :
    Calls Try.prog 7 #[.slice la L.length lc] w fun e w' => e = .returned (.string (logT L)) ∧ Below w.heap.size w w' := by
  obtain ⟨R, hR⟩ : ∃ R, R = logT L := ⟨_, rfl⟩
  rw [← hR]
  have HIB := hide (l7Batch_any la L lc w hr hl)
  cases hb : batB L with
  | false =>
    rw [hb] at HIB
    have HR : Hid (R = ByteArray.empty) := by
      show _ = _
      rw [hR, logT_no (fun h => ?_)]
      rw [batB_iff.2 ⟨h.1, h.2.1⟩] at hb
      cases hb
    clear hR hr hb
    go_enter Try.func7, Try.ntmps7
    go_wp2_with (refine HIB.out.mono ?_; rintro e w1 ⟨rfl, hb1⟩; have HB1 := hide hb1; clear hb1)
    go_ret
    exact ⟨by rw [HR.out]; rfl, HB1.out⟩
  | true =>
    rw [hb] at HIB
    have hbb : inP L ∧ shortP L := batB_iff.1 hb
    have hl3 : L.length ≤ 3 := hbb.1.1
    by_cases h0 : L.length = 0
    · have HR : Hid (R = ByteArray.empty) := by show _ = _; rw [hR, logT_no (fun h => h.2.2.1 (List.eq_nil_of_length_eq_zero h0))]
      have h0' : ((L.length : Int) == 0) = true := by rw [h0]; rfl
      clear hR hr hb hbb h0
      go_enter Try.func7, Try.ntmps7
      go_wp2_with (refine HIB.out.mono ?_; rintro e w1 ⟨rfl, hb1⟩; have HB1 := hide hb1; clear hb1)
      go_ret
      exact ⟨by rw [HR.out]; rfl, HB1.out⟩
    · have h0' : ((L.length : Int) == 0) = false := beq_false_of_ne (by omega)
      have hR' : ((logFull L).length ≤ 400 → R = strOf (logFull L)) ∧ (¬ (logFull L).length ≤ 400 → R = ByteArray.empty) := by
        refine ⟨fun h2 => ?_, fun h => ?_⟩
        · rw [hR, logT_yes ⟨hbb.1, hbb.2, by rintro rfl; simp at h0, h2⟩]
        · rw [hR, logT_no (fun h' => h h'.2.2.2)]
      have HR := hide hR'
      have HL := hide hr
      have HLB := hide hLb
      obtain ⟨i0, hi, hz0, hz1, hz2⟩ := info_parts info5
      have hpl := putB_len (L.length : Int)
      clear hR hR' hr h0 hb hbb hLb
      go_enter Try.func7, Try.ntmps7
      go_wp2_with (refine HIB.out.mono ?_; rintro e w1 ⟨rfl, hb1⟩; have HB1 := hide hb1; clear hb1)
      refine (specPutNum_any (L.length : Int) w1 (by omega) (by omega)).mono ?_
      rintro e w2 ⟨v2, rfl, ho2, hb2⟩
      have ho2' := owns_mono ho2 HB1.out.size
      have hst : ∃ acc : List Int, Hid (acc = putB (L.length : Int) ++ putsB (L.take 0)) ∧ acc.length ≤ 5 + 410 * 0 ∧ w2.ownsRow w.heap.size 5 1 v2 acc.length (u8s acc) := ⟨putB (L.length : Int), by show _ = _; simp [putsB], hpl, ho2'⟩
      have HST := hide hst
      have HB2 := hide (after HB1.out hb2)
      clear ho2 ho2' hb2 HIB hst hpl HB1
      go_wp2_with fail
      go_loopw [3, 4] (fun v i wr => ∃ k : Nat, k ≤ L.length ∧ i = .int .i64 k ∧ Hid (∃ acc : List Int, Hid (acc = putB (L.length : Int) ++ putsB (L.take k)) ∧ acc.length ≤ 5 + 410 * k ∧ wr.ownsRow w.heap.size 5 1 v acc.length (u8s acc)) ∧ Hid (Below w.heap.size w wr)) (fun _ i _ => L.length - (intOf i).toNat)
      case atStart => exact ⟨0, Nat.zero_le _, rfl, HST, HB2⟩
      case round =>
        obtain ⟨k, hk, rfl, hacc, hbel⟩ := hrel
        clear HST HB2
        by_cases hlt : k < L.length
        · obtain ⟨b1, o1, x, rfl, h0, h1, HX⟩ := rdPut_at (HL.out.below hbel.out) hlt
          obtain ⟨s, t⟩ := x
          obtain ⟨ht0, hs0, hs1⟩ := HLB.out _ (List.mem_of_getElem? HX.out)
          have ht0 : t.size ≤ maxLen := ht0
          have hs0 : -9223372036854775808 ≤ s := hs0
          have hs1 : s ≤ 9223372036854775807 := hs1
          have h0 : wr.cell? ⟨b1, o1 + k * 2, none⟩ = some (.int .i64 s) := h0
          have h1 : wr.cell? ⟨b1, o1 + k * 2 + 1, none⟩ = some (.string t) := h1
          have hki : (k : Int) < (L.length : Int) := by omega
          have HRDL : Hid (∀ u, Below w.heap.size w u → u.cell? ⟨b1, o1 + k * 2 + 1, none⟩ = some (.string t)) := fun u hu => by
            obtain ⟨b3, o3, x3, he3, k0, k1, HX3⟩ := rdPut_at (HL.out.below hu) hlt
            simp only [Option.some.injEq, Addr.mk.injEq] at he3
            obtain ⟨rfl, rfl, -⟩ := he3
            have hx3 := HX3.out
            rw [HX.out] at hx3
            injection hx3 with hx3
            subst hx3
            exact k1
          obtain ⟨acc, HA, hal, hown⟩ := hacc.out
          have hps := putB_len s
          have hpt := textB_len t
          have HS := hide hs0
          have HS' := hide hs1
          have HT := hide ht0
          have hbase : w.heap.size ≤ wr.heap.size := hbel.out.size
          clear hacc hs0 hs1 ht0
          go_wp2_with fail
          refine (specPutNum_any s wr HS.out HS'.out).mono ?_
          rintro e w3 ⟨v3, rfl, ho3, hb3⟩
          have hown3 := owns_below hown hb3
          have hs3 := hb3.size
          have HB3 := hide (after hbel.out hb3)
          clear h0 h1 hown hb3 hbel
          go_wp2_with (at_builtin; refine wpList_append_two rfl (.tmp 23) (.tmp 29) 54 rfl w.heap.size wr.heap.size 5 i0 (.int .u8 0) 1 Try.underlying54 hi hz0 hz1 hz2 rfl _ _ _ rfl hown3 _ _ _ rfl ho3 (u8s_one _) (by omega) (by omega) (by omega) ?_; intro v4 w4 ho4 hb4; have e1 := HRDL.out w4 (HB3.out.trans hb4))
          have HB4 : Hid (Below w.heap.size w w4) := HB3.out.trans hb4
          have hs4 := HB4.out.size
          rw [u8s_app, ← List.length_append] at ho4
          obtain ⟨T1, hT1⟩ : ∃ T, T = acc ++ putB s := ⟨_, rfl⟩
          have hT1l : T1.length ≤ 10 + 410 * k := by rw [hT1, List.length_append]; omega
          rw [← hT1] at ho4
          have HT1 := hide hT1
          clear hown3 ho3 hb4 hT1
          go_wp2_with fail
          refine (specPutText_any t w4 HT.out).mono ?_
          rintro e w5 ⟨v5, rfl, ho5, hb5⟩
          have ho4' := owns_below ho4 hb5
          have hs5 := hb5.size
          have HB5 := hide (after HB4.out hb5)
          clear ho4 hb5 e1
          go_wp2_with (at_builtin; refine wpList_append_two rfl (.tmp 31) (.tmp 37) 54 rfl w.heap.size w4.heap.size 5 i0 (.int .u8 0) 1 Try.underlying54 hi hz0 hz1 hz2 rfl _ _ _ rfl ho4' _ _ _ rfl ho5 (u8s_one _) (by omega) (by omega) (by omega) ?_; intro v6 w6 ho6 hb6)
          have HB6 : Hid (Below w.heap.size w w6) := HB5.out.trans hb6
          rw [u8s_app, ← List.length_append] at ho6
          have HACC : Hid (∃ acc : List Int, Hid (acc = putB (L.length : Int) ++ putsB (L.take (k + 1))) ∧ acc.length ≤ 5 + 410 * (k + 1) ∧ w6.ownsRow w.heap.size 5 1 v6 acc.length (u8s acc)) := by
            refine ⟨T1 ++ textB t, ?_, by rw [List.length_append]; omega, ho6⟩
            show _ = _
            rw [HT1.out, HA.out, putsB_take HX.out]
            simp
          clear ho4' hb6 ho6 ho5
          go_roundw
          case rel => exact ⟨k + 1, by omega, by go_num, HACC, HB6⟩
          case measure => simp [intOf]; omega
        · have hki : ¬ (k : Int) < (L.length : Int) := by omega
          have hkl : k = L.length := by omega
          obtain ⟨T, hTQ, hTl, hown⟩ := hacc.out
          have HTR : Hid (T = logRest L) := by show _ = _; rw [hTQ.out, hkl, List.take_length]; rfl
          have HTB : Hid (IsBytes T) := by show IsBytes T; rw [HTR.out]; exact logRest_bytes L
          have hsum := sumOf_bd T
          obtain ⟨Z, hZ⟩ : ∃ Z, Z = sumOf T := ⟨_, rfl⟩
          rw [← hZ] at hsum
          have HZ := hide hZ
          have hpz := putB_len Z
          obtain ⟨F, hF⟩ : ∃ F, F = putB Z ++ T := ⟨_, rfl⟩
          have HFQ := hide hF
          have HFB : Hid (IsBytes F) := by show IsBytes F; rw [hF]; exact (putB_bytes Z).app HTB.out
          have hFl : F.length ≤ 1300 := by rw [hF, List.length_append]; omega
          have HFF : Hid (F = logFull L) := by show _ = _; rw [hF, hZ, HTR.out]; rfl
          obtain ⟨a6, k6, rfl, hr6⟩ := owns_open hown
          have HOW := hide hown
          have HR6 := hide hr6
          have hbs := hbel.out.size
          clear hacc hZ hF hown hr6 hkl
          go_wp2_with fail
          refine (specSum_any a6 T k6 wr HR6.out HTB.out (by unfold maxLen; omega)).mono ?_
          rw [← HZ.out]
          rintro e u ⟨rfl, hu⟩
          have hu' := hu.symm
          subst hu'
          go_wp2_with fail
          refine (specPutNum_any Z wr (by omega) (by omega)).mono ?_
          rintro e w7 ⟨v7, rfl, ho7, hb7⟩
          have HO6' := hide (owns_below HOW.out hb7)
          have hs7 := hb7.size
          have HB7 := hide (after hbel.out hb7)
          clear hb7 HOW HR6
          by_cases h4 : (400 : Int) < (F.length : Int)
          · have HN : Hid (R = ByteArray.empty) := HR.out.2 (by rw [← HFF.out]; omega)
            go_wp2_with (at_builtin; refine wpList_append_two rfl (.tmp 41) (.tmp 42) 54 rfl wr.heap.size w.heap.size 5 i0 (.int .u8 0) 1 Try.underlying54 hi hz0 hz1 hz2 rfl _ _ _ rfl ho7 _ _ _ rfl HO6'.out (u8s_one _) (by omega) (by omega) (by omega) ?_; intro v8 w8 ho8 hb8; rw [u8s_app, ← List.length_append, ← HFQ.out] at ho8; obtain ⟨a8, k8, hv8, -⟩ := owns_open ho8; subst hv8; have HO8 := hide ho8; have HB8 : Hid (Below w.heap.size w w8) := HB7.out.trans (hb8.mono hbs); clear ho8 hb8)
            go_ret
            exact ⟨by rw [HN.out]; rfl, HB8.out⟩
          · have HY : Hid (R = strOf F) := by show _ = _; rw [HR.out.1 (by rw [← HFF.out]; omega), HFF.out]
            go_wp2_with (at_builtin; refine wpList_append_two rfl (.tmp 41) (.tmp 42) 54 rfl wr.heap.size w.heap.size 5 i0 (.int .u8 0) 1 Try.underlying54 hi hz0 hz1 hz2 rfl _ _ _ rfl ho7 _ _ _ rfl HO6'.out (u8s_one _) (by omega) (by omega) (by omega) ?_; intro v8 w8 ho8 hb8; rw [u8s_app, ← List.length_append, ← HFQ.out] at ho8; obtain ⟨a8, k8, hv8, -⟩ := owns_open ho8; subst hv8; have HO8 := hide ho8; have HB8 : Hid (Below w.heap.size w w8) := HB7.out.trans (hb8.mono hbs); clear ho8 hb8; have hcv := conv_owned HFB.out HO8.out)
            go_ret
            exact ⟨by rw [HY.out]; rfl, HB8.out⟩
end Go.Proofs.Ytdicjbabnknjhaa
