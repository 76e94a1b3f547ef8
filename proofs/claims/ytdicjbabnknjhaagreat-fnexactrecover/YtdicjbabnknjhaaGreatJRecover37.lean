/-
  Contract of the specification's LogText.
  Contract of the specification's LogRead.
  Contracts of the program's takePut, putsOf and LogRead.
-/
import Derived.Test.YtdicjbabnknjhaaGreatJRecover36
import Derived.Test.YtdicjbabnknjhaaGreatJRecover8
import Derived.Test.YtdicjbabnknjhaaGreatJRecover34
import Derived.Test.YtdicjbabnknjhaaGreatJRecover5
import Derived.Test.YtdicjbabnknjhaaGreatJRecover23
import Derived.Test.YtdicjbabnknjhaaGreatJRecover9
namespace Go.Proofs.YtdicjbabnknjhaaGreat
open Go.RowKit

set_option maxRecDepth 100000 in
set_option maxHeartbeats 6400000 in
theorem specLogText_any (la : Option Addr) (L : List (Int × ByteArray)) (lc : Nat) (w : World) (hr : Rd w la (vsPut L)) (hl : L.length ≤ 1048576) (hLb : ∀ x ∈ L, x.2.size ≤ maxLen ∧ -9223372036854775808 ≤ x.1 ∧ x.1 ≤ 9223372036854775807) :
    Calls Tryz.prog 25 #[.slice la L.length lc] w fun e w' => e = .returned (.string (logT L)) ∧ Below w.heap.size w w' := by
  obtain ⟨R, hR⟩ : ∃ R, R = logT L := ⟨_, rfl⟩
  rw [← hR]
  have HIB := hide (l7Batch_any la L lc w hr hl)
  cases hb : batB L with
  | false =>
    rw [hb] at HIB
    have HR : Hid (R = ByteArray.empty) := by
      show _ = _
      rw [hR, logT_no (fun h => ?_)]
      rw [batB_iff.2 ⟨h.1, h.2.1⟩] at hb
      cases hb
    clear hR hr hb
    go_enter Tryz.func25, Tryz.ntmps25
    go_wp2_with (refine HIB.out.mono ?_; rintro e w1 ⟨rfl, hb1⟩; have HB1 := hide hb1; clear hb1)
    go_ret
    exact ⟨by rw [HR.out]; rfl, HB1.out⟩
  | true =>
    rw [hb] at HIB
    have hbb : inP L ∧ shortP L := batB_iff.1 hb
    have hl3 : L.length ≤ 3 := hbb.1.1
    by_cases h0 : L.length = 0
    · have HR : Hid (R = ByteArray.empty) := by show _ = _; rw [hR, logT_no (fun h => h.2.2.1 (List.eq_nil_of_length_eq_zero h0))]
      have h0' : ((L.length : Int) == 0) = true := by rw [h0]; rfl
      clear hR hr hb hbb h0
      go_enter Tryz.func25, Tryz.ntmps25
      go_wp2_with (refine HIB.out.mono ?_; rintro e w1 ⟨rfl, hb1⟩; have HB1 := hide hb1; clear hb1)
      go_ret
      exact ⟨by rw [HR.out]; rfl, HB1.out⟩
    · have h0' : ((L.length : Int) == 0) = false := beq_false_of_ne (by omega)
      have hR' : ((logFull L).length ≤ 400 → R = strOf (logFull L)) ∧ (¬ (logFull L).length ≤ 400 → R = ByteArray.empty) := by
        refine ⟨fun h2 => ?_, fun h => ?_⟩
        · rw [hR, logT_yes ⟨hbb.1, hbb.2, by rintro rfl; simp at h0, h2⟩]
        · rw [hR, logT_no (fun h' => h h'.2.2.2)]
      have HR := hide hR'
      have HL := hide hr
      have HLB := hide hLb
      obtain ⟨i0, hi, hz0, hz1, hz2⟩ := info_parts info5
      have hpl := putB_len (L.length : Int)
      clear hR hR' hr h0 hb hbb hLb
      go_enter Tryz.func25, Tryz.ntmps25
      go_wp2_with (refine HIB.out.mono ?_; rintro e w1 ⟨rfl, hb1⟩; have HB1 := hide hb1; clear hb1)
      refine (specPutNum_any (L.length : Int) w1 (by omega) (by omega)).mono ?_
      rintro e w2 ⟨v2, rfl, ho2, hb2⟩
      have ho2' := owns_mono ho2 HB1.out.size
      have hst : ∃ acc : List Int, Hid (acc = putB (L.length : Int) ++ putsB (L.take 0)) ∧ acc.length ≤ 5 + 410 * 0 ∧ w2.ownsRow w.heap.size 5 1 v2 acc.length (u8s acc) := ⟨putB (L.length : Int), by show _ = _; simp [putsB], hpl, ho2'⟩
      have HST := hide hst
      have HB2 := hide (after HB1.out hb2)
      clear ho2 ho2' hb2 HIB hst hpl HB1
      go_wp2_with fail
      go_loopw [3, 4] (fun v i wr => ∃ k : Nat, k ≤ L.length ∧ i = .int .i64 k ∧ Hid (∃ acc : List Int, Hid (acc = putB (L.length : Int) ++ putsB (L.take k)) ∧ acc.length ≤ 5 + 410 * k ∧ wr.ownsRow w.heap.size 5 1 v acc.length (u8s acc)) ∧ Hid (Below w.heap.size w wr)) (fun _ i _ => L.length - (intOf i).toNat)
      case atStart => exact ⟨0, Nat.zero_le _, rfl, HST, HB2⟩
      case round =>
        obtain ⟨k, hk, rfl, hacc, hbel⟩ := hrel
        clear HST HB2
        by_cases hlt : k < L.length
        · obtain ⟨b1, o1, x, rfl, h0, h1, HX⟩ := rdPut_at (HL.out.below hbel.out) hlt
          obtain ⟨s, t⟩ := x
          obtain ⟨ht0, hs0, hs1⟩ := HLB.out _ (List.mem_of_getElem? HX.out)
          have ht0 : t.size ≤ maxLen := ht0
          have hs0 : -9223372036854775808 ≤ s := hs0
          have hs1 : s ≤ 9223372036854775807 := hs1
          have h0 : wr.cell? ⟨b1, o1 + k * 2, none⟩ = some (.int .i64 s) := h0
          have h1 : wr.cell? ⟨b1, o1 + k * 2 + 1, none⟩ = some (.string t) := h1
          have hki : (k : Int) < (L.length : Int) := by omega
          have HRDL : Hid (∀ u, Below w.heap.size w u → u.cell? ⟨b1, o1 + k * 2 + 1, none⟩ = some (.string t)) := fun u hu => by
            obtain ⟨b3, o3, x3, he3, k0, k1, HX3⟩ := rdPut_at (HL.out.below hu) hlt
            simp only [Option.some.injEq, Addr.mk.injEq] at he3
            obtain ⟨rfl, rfl, -⟩ := he3
            have hx3 := HX3.out
            rw [HX.out] at hx3
            injection hx3 with hx3
            subst hx3
            exact k1
          obtain ⟨acc, HA, hal, hown⟩ := hacc.out
          have hps := putB_len s
          have hpt := textB_len t
          have HS := hide hs0
          have HS' := hide hs1
          have HT := hide ht0
          have hbase : w.heap.size ≤ wr.heap.size := hbel.out.size
          clear hacc hs0 hs1 ht0
          go_wp2_with fail
          refine (specPutNum_any s wr HS.out HS'.out).mono ?_
          rintro e w3 ⟨v3, rfl, ho3, hb3⟩
          have hown3 := owns_below hown hb3
          have hs3 := hb3.size
          have HB3 := hide (after hbel.out hb3)
          clear h0 h1 hown hb3 hbel
          go_wp2_with (at_builtin; refine wpList_append_two rfl (.tmp 23) (.tmp 29) 82 rfl w.heap.size wr.heap.size 5 i0 (.int .u8 0) 1 Tryz.underlying82 hi hz0 hz1 hz2 rfl _ _ _ rfl hown3 _ _ _ rfl ho3 (u8s_one _) (by omega) (by omega) (by omega) ?_; intro v4 w4 ho4 hb4; have e1 := HRDL.out w4 (HB3.out.trans hb4))
          have HB4 : Hid (Below w.heap.size w w4) := HB3.out.trans hb4
          have hs4 := HB4.out.size
          rw [u8s_app, ← List.length_append] at ho4
          obtain ⟨T1, hT1⟩ : ∃ T, T = acc ++ putB s := ⟨_, rfl⟩
          have hT1l : T1.length ≤ 10 + 410 * k := by rw [hT1, List.length_append]; omega
          rw [← hT1] at ho4
          have HT1 := hide hT1
          clear hown3 ho3 hb4 hT1
          go_wp2_with fail
          refine (specPutText_any t w4 HT.out).mono ?_
          rintro e w5 ⟨v5, rfl, ho5, hb5⟩
          have ho4' := owns_below ho4 hb5
          have hs5 := hb5.size
          have HB5 := hide (after HB4.out hb5)
          clear ho4 hb5 e1
          go_wp2_with (at_builtin; refine wpList_append_two rfl (.tmp 31) (.tmp 37) 82 rfl w.heap.size w4.heap.size 5 i0 (.int .u8 0) 1 Tryz.underlying82 hi hz0 hz1 hz2 rfl _ _ _ rfl ho4' _ _ _ rfl ho5 (u8s_one _) (by omega) (by omega) (by omega) ?_; intro v6 w6 ho6 hb6)
          have HB6 : Hid (Below w.heap.size w w6) := HB5.out.trans hb6
          rw [u8s_app, ← List.length_append] at ho6
          have HACC : Hid (∃ acc : List Int, Hid (acc = putB (L.length : Int) ++ putsB (L.take (k + 1))) ∧ acc.length ≤ 5 + 410 * (k + 1) ∧ w6.ownsRow w.heap.size 5 1 v6 acc.length (u8s acc)) := by
            refine ⟨T1 ++ textB t, ?_, by rw [List.length_append]; omega, ho6⟩
            show _ = _
            rw [HT1.out, HA.out, putsB_take HX.out]
            simp
          clear ho4' hb6 ho6 ho5
          go_roundw
          case rel => exact ⟨k + 1, by omega, by go_num, HACC, HB6⟩
          case measure => simp [intOf]; omega
        · have hki : ¬ (k : Int) < (L.length : Int) := by omega
          have hkl : k = L.length := by omega
          obtain ⟨T, hTQ, hTl, hown⟩ := hacc.out
          have HTR : Hid (T = logRest L) := by show _ = _; rw [hTQ.out, hkl, List.take_length]; rfl
          have HTB : Hid (IsBytes T) := by show IsBytes T; rw [HTR.out]; exact logRest_bytes L
          have hsum := sumOf_bd T
          obtain ⟨Z, hZ⟩ : ∃ Z, Z = sumOf T := ⟨_, rfl⟩
          rw [← hZ] at hsum
          have HZ := hide hZ
          have hpz := putB_len Z
          obtain ⟨F, hF⟩ : ∃ F, F = putB Z ++ T := ⟨_, rfl⟩
          have HFQ := hide hF
          have HFB : Hid (IsBytes F) := by show IsBytes F; rw [hF]; exact (putB_bytes Z).app HTB.out
          have hFl : F.length ≤ 1300 := by rw [hF, List.length_append]; omega
          have HFF : Hid (F = logFull L) := by show _ = _; rw [hF, hZ, HTR.out]; rfl
          obtain ⟨a6, k6, rfl, hr6⟩ := owns_open hown
          have HOW := hide hown
          have HR6 := hide hr6
          have hbs := hbel.out.size
          clear hacc hZ hF hown hr6 hkl
          go_wp2_with fail
          refine (specSum_any a6 T k6 wr HR6.out HTB.out (by unfold maxLen; omega)).mono ?_
          rw [← HZ.out]
          rintro e u ⟨rfl, hu⟩
          have hu' := hu.symm
          subst hu'
          go_wp2_with fail
          refine (specPutNum_any Z wr (by omega) (by omega)).mono ?_
          rintro e w7 ⟨v7, rfl, ho7, hb7⟩
          have HO6' := hide (owns_below HOW.out hb7)
          have hs7 := hb7.size
          have HB7 := hide (after hbel.out hb7)
          clear hb7 HOW HR6
          by_cases h4 : (400 : Int) < (F.length : Int)
          · have HN : Hid (R = ByteArray.empty) := HR.out.2 (by rw [← HFF.out]; omega)
            go_wp2_with (at_builtin; refine wpList_append_two rfl (.tmp 41) (.tmp 42) 82 rfl wr.heap.size w.heap.size 5 i0 (.int .u8 0) 1 Tryz.underlying82 hi hz0 hz1 hz2 rfl _ _ _ rfl ho7 _ _ _ rfl HO6'.out (u8s_one _) (by omega) (by omega) (by omega) ?_; intro v8 w8 ho8 hb8; rw [u8s_app, ← List.length_append, ← HFQ.out] at ho8; obtain ⟨a8, k8, hv8, -⟩ := owns_open ho8; subst hv8; have HO8 := hide ho8; have HB8 : Hid (Below w.heap.size w w8) := HB7.out.trans (hb8.mono hbs); clear ho8 hb8)
            go_ret
            exact ⟨by rw [HN.out]; rfl, HB8.out⟩
          · have HY : Hid (R = strOf F) := by show _ = _; rw [HR.out.1 (by rw [← HFF.out]; omega), HFF.out]
            go_wp2_with (at_builtin; refine wpList_append_two rfl (.tmp 41) (.tmp 42) 82 rfl wr.heap.size w.heap.size 5 i0 (.int .u8 0) 1 Tryz.underlying82 hi hz0 hz1 hz2 rfl _ _ _ rfl ho7 _ _ _ rfl HO6'.out (u8s_one _) (by omega) (by omega) (by omega) ?_; intro v8 w8 ho8 hb8; rw [u8s_app, ← List.length_append, ← HFQ.out] at ho8; obtain ⟨a8, k8, hv8, -⟩ := owns_open ho8; subst hv8; have HO8 := hide ho8; have HB8 : Hid (Below w.heap.size w w8) := HB7.out.trans (hb8.mono hbs); clear ho8 hb8; have hcv := conv_owned HFB.out HO8.out)
            go_ret
            exact ⟨by rw [HY.out]; rfl, HB8.out⟩
end Go.Proofs.YtdicjbabnknjhaaGreat

namespace Go.Proofs.YtdicjbabnknjhaaGreat
open Go.RowKit

theorem logR_no1 {t : ByteArray} (h : getN (strB t) 0 = none) : logR t = none := by unfold logR; rw [h]
theorem logR_no2 {t : ByteArray} {x : Int} {i : Nat} (h : getN (strB t) 0 = some (x, i)) (h2 : getN (strB t) (i : Int) = none) : logR t = none := by unfold logR; rw [h]; simp only []; rw [h2]
theorem logR_no3 {t : ByteArray} {x n : Int} {i j : Nat} (h : getN (strB t) 0 = some (x, i)) (h2 : getN (strB t) (i : Int) = some (n, j)) (h3 : 3 < n) : logR t = none := by unfold logR; rw [h]; simp only []; rw [h2]; simp only []; rw [if_pos h3]
theorem logR_no4 {t : ByteArray} {x n : Int} {i j : Nat} (h : getN (strB t) 0 = some (x, i)) (h2 : getN (strB t) (i : Int) = some (n, j)) (h3 : ¬ 3 < n) (h4 : getL (strB t) n.toNat j [] = none) : logR t = none := by unfold logR; rw [h]; simp only []; rw [h2]; simp only []; rw [if_neg h3, h4]
theorem logR_end {t : ByteArray} {x n : Int} {i j : Nat} {L : List (Int × ByteArray)} (h : getN (strB t) 0 = some (x, i)) (h2 : getN (strB t) (i : Int) = some (n, j)) (h3 : ¬ 3 < n) (h4 : getL (strB t) n.toNat j [] = some L) :
    (t ≠ ByteArray.empty ∧ logT L = t → logR t = some L) ∧ (¬ (t ≠ ByteArray.empty ∧ logT L = t) → logR t = none) := by
  refine ⟨fun h5 => ?_, fun h5 => ?_⟩
  · unfold logR; rw [h]; simp only []; rw [h2]; simp only []; rw [if_neg h3, h4]; simp only []; rw [if_pos h5]
  · unfold logR; rw [h]; simp only []; rw [h2]; simp only []; rw [if_neg h3, h4]; simp only []; rw [if_neg h5]

theorem put_one (x : Int) (t : ByteArray) : ∀ u ∈ ([.int .i64 x, .string t] : List Value), u.oneCell' = true := by
  intro u hu
  simp at hu
  rcases hu with rfl | rfl <;> rfl
/-- What LogRead answers. -/
def ReadIs (w w' : World) (e : Ending) (R : Option (List (Int × ByteArray))) : Prop := ∃ v, e = .returned (.tuple #[v, .bool R.isSome]) ∧ PutsOwn w' w.heap.size v (R.getD []) ∧ Below w.heap.size w w'

set_option maxRecDepth 100000 in
set_option maxHeartbeats 6400000 in
theorem specLogRead_any (t : ByteArray) (w : World) (ht : t.size ≤ 1048576) :
    Calls Tryz.prog 47 #[.string t] w fun e w' => ReadIs w w' e (logR t) := by
  have hcv := fun w => run_bytes_of_string (P := Tryz.prog) w 9 82 5 t Tryz.underlying9 Tryz.underlying82 Tryz.underlying5
  obtain ⟨i2, hi2, hz0, hz1, hz2⟩ := info_parts infoPut
  obtain ⟨R, hR⟩ : ∃ R, R = logR t := ⟨_, rfl⟩
  rw [← hR]
  have HR := hide hR
  clear hR
  obtain ⟨A, hA⟩ : ∃ A, A = w.alloc (Obj.cells #[] 58) := ⟨_, rfl⟩
  have hsA : A.heap.size = w.heap.size + 1 := by rw [hA]; simp
  obtain ⟨C, hC⟩ : ∃ C, C = grownCap A t.size 0 5 := ⟨_, rfl⟩
  have hcap : t.size ≤ C := by rw [hC]; exact grownCap_ge _ _ _ _
  obtain ⟨X, hX⟩ : ∃ X, X = Obj.cells (bytesRow t C) 5 ((bytesRow t C).size, (bytesRow t C).size + 1) := ⟨_, rfl⟩
  obtain ⟨W, hW⟩ : ∃ W, W = (A.alloc X).drew := ⟨_, rfl⟩
  have hbA : Below w.heap.size w A := by rw [hA]; exact (Below.refl _ _).alloc (Nat.le_refl _) _
  have hbX : Below A.heap.size A W := by rw [hW]; exact after_drew ((Below.refl _ _).alloc (Nat.le_refl _) _) 1
  have hbW : Below w.heap.size w W := after hbA hbX
  have hrd : Rd W (some ⟨w.heap.size + 1, 0, none⟩) (u8s (strB t)) := by
    have := (rd_bytes t A C)
    rw [← hX, hsA] at this
    rw [hW]; exact this
  have hnil : PutsOwn W w.heap.size (.slice (some ⟨w.heap.size, 0, none⟩) 0 0) [] := by
    have h0 : A.ownsRow w.heap.size 58 2 (.slice (some ⟨w.heap.size, 0, none⟩) 0 0) 0 [] := by rw [hA]; exact World.ownsRow_made w #[] 0 (Nat.le_refl _) (Nat.zero_le _) rfl
    exact owns_below h0 hbX
  have GN : Hid (∀ (u : World) (i : Int), Below W.heap.size W u → i ≤ 1048576 → Calls Tryz.prog 75 #[.slice (some ⟨w.heap.size + 1, 0, none⟩) t.size C, .int .i64 i] u fun e w' => (getN (strB t) i = none → e = .returned (.tuple #[.int .i64 0, .int .i64 0, .bool false])) ∧ (∀ n j, getN (strB t) i = some (n, j) → e = .returned (.tuple #[.int .i64 n, .int .i64 (j : Nat), .bool true])) ∧ w' = u) := by
    intro u i hu hi
    have := specGetNum_any (some ⟨w.heap.size + 1, 0, none⟩) (strB t) C i u (hrd.below hu) (strB_bytes t) (by rw [strB_len]; exact ht) (by omega)
    rw [strB_len] at this
    exact this
  have GT : Hid (∀ (u : World) (i : Int), Below W.heap.size W u → i ≤ 1048576 → Calls Tryz.prog 76 #[.slice (some ⟨w.heap.size + 1, 0, none⟩) t.size C, .int .i64 i] u fun e w' => (getT (strB t) i = none → e = .returned (.tuple #[.string ByteArray.empty, .int .i64 0, .bool false])) ∧ (∀ ys j, getT (strB t) i = some (ys, j) → e = .returned (.tuple #[.string (strOf ys), .int .i64 (j : Nat), .bool true])) ∧ w' = u) := by
    intro u i hu hi
    have := specGetText_any (some ⟨w.heap.size + 1, 0, none⟩) (strB t) C i u (hrd.below hu) (strB_bytes t) (by rw [strB_len]; exact ht) (by rw [strB_len]; exact hcap) (by omega)
    rw [strB_len] at this
    exact this
  have hzl := strB_len t
  have HNIL := hide hnil
  have HBW := hide hbW
  have HFAIL : Hid (∀ u, Below W.heap.size W u → R = none → ReadIs w u (.returned (.tuple #[.slice (some ⟨w.heap.size, 0, none⟩) 0 0, .bool false])) R) := by
    intro u hu hn
    rw [hn]
    exact ⟨_, rfl, PutsOwn.below hnil hu, after hbW hu⟩
  clear hbA hbX hrd hsA hnil hbW
  go_enter Tryz.func47, Tryz.ntmps47
  go_wp2_with fail
  rw [← hA]
  rw [← hC]
  rw [← hX]
  rw [← hW]
  clear hA hC hX hW hcv
  refine (GN.out W 0 (Below.refl _ _) (by decide)).mono ?_
  rintro e u ⟨hno, hyes, hu⟩
  have hu' := hu.symm
  subst hu'
  cases hg0 : getN (strB t) 0 with
  | none =>
    obtain rfl := hno hg0
    have HN := hide (HFAIL.out W (Below.refl _ _) (by rw [HR.out, logR_no1 hg0]))
    clear hno hyes hg0 GN GT
    go_wp2
    exact bodyPost_ret (v := .tuple #[.slice (some ⟨w.heap.size, 0, none⟩) 0 0, .bool false]) (by simp [results, Tryz.results47, go_sem]) rfl HN.out
  | some r0 =>
    obtain ⟨x0, i0⟩ := r0
    obtain rfl := hyes x0 i0 hg0
    have b0 := getN_bd (strB_bytes t) hg0
    have H0 := hide hg0
    clear hno hyes hg0
    go_wp2_with fail
    refine (GN.out W (i0 : Int) (Below.refl _ _) (by omega)).mono ?_
    rintro e u ⟨hno, hyes, hu⟩
    have hu' := hu.symm
    subst hu'
    cases hg1 : getN (strB t) (i0 : Int) with
    | none =>
      obtain rfl := hno hg1
      have HN := hide (HFAIL.out W (Below.refl _ _) (by rw [HR.out, logR_no2 H0.out hg1]))
      clear hno hyes hg1 GN GT
      go_wp2
      exact bodyPost_ret (v := .tuple #[.slice (some ⟨w.heap.size, 0, none⟩) 0 0, .bool false]) (by simp [results, Tryz.results47, go_sem]) rfl HN.out
    | some r1 =>
      obtain ⟨n, j0⟩ := r1
      obtain rfl := hyes n j0 hg1
      have b1 := getN_bd (strB_bytes t) hg1
      have H1 := hide hg1
      clear hno hyes hg1
      by_cases h3 : 3 < n
      · have HN := hide (HFAIL.out W (Below.refl _ _) (by rw [HR.out, logR_no3 H0.out H1.out h3]))
        clear GN GT
        go_wp2
        exact bodyPost_ret (v := .tuple #[.slice (some ⟨w.heap.size, 0, none⟩) 0 0, .bool false]) (by simp [results, Tryz.results47, go_sem]) rfl HN.out
      · obtain ⟨N, rfl⟩ : ∃ N : Nat, n = N := ⟨n.toNat, by omega⟩
        have H3 := hide h3
        have hN3 : N ≤ 3 := by omega
        have HIN : Hid (∀ L, getL (strB t) N j0 [] = L → (L = none → R = none) ∧ (∀ l, L = some l → (t ≠ ByteArray.empty ∧ logT l = t → R = some l) ∧ (¬ (t ≠ ByteArray.empty ∧ logT l = t) → R = none))) := by
          intro L hL
          refine ⟨fun h => ?_, fun l h => ?_⟩
          · rw [HR.out, logR_no4 H0.out H1.out H3.out (by rw [Int.toNat_natCast, hL, h])]
          · rw [HR.out]; exact logR_end H0.out H1.out H3.out (by rw [Int.toNat_natCast, hL, h])
        obtain ⟨Z, hZ⟩ : ∃ Z, Z = getL (strB t) N j0 [] := ⟨_, rfl⟩
        have HZ := hide (HIN.out Z hZ.symm)
        have HZ0 : Hid (getL (strB t) (N - 0) j0 [] = Z) := hZ.symm
        clear hZ HIN
        obtain ⟨V, hV⟩ : ∃ V, V = W.alloc (Obj.cells #[] 58) := ⟨_, rfl⟩
        have hbV : Below W.heap.size W V := by rw [hV]; exact (Below.refl _ _).alloc (Nat.le_refl _) _
        have hVo : PutsOwn V W.heap.size (.slice (some ⟨W.heap.size, 0, none⟩) 0 0) [] := by rw [hV]; exact World.ownsRow_made W #[] 0 (Nat.le_refl _) (Nat.zero_le _) rfl
        have HVO := hide hVo
        have HBV := hide hbV
        have hj0 : j0 ≤ 1048576 := by omega
        clear hVo hbV h3 b0 b1
        go_wp2_with fail
        rw [← hV]
        clear hV
        go_loopw [10, 12, 13] (fun x v i wr => ∃ (k j : Nat) (acc : List (Int × ByteArray)), k ≤ N ∧ j ≤ 1048576 ∧ x = .int .i64 j ∧ i = .int .i64 k ∧ acc.length = k ∧ Hid (getL (strB t) (N - k) j acc = Z) ∧ PutsOwn wr W.heap.size v acc ∧ Hid (∀ y ∈ acc, y.2.size ≤ 400 ∧ 0 ≤ y.1 ∧ y.1 ≤ 1000000000) ∧ Hid (Below W.heap.size W wr)) (fun _ _ i _ => N - (intOf i).toNat)
        case atStart => exact ⟨0, j0, [], Nat.zero_le _, hj0, rfl, rfl, rfl, HZ0, HVO.out, fun y hy => by simp at hy, HBV⟩
        case round =>
          obtain ⟨k, j, acc, hk, hj, rfl, rfl, hal, hgl, hown, hshort, hbel⟩ := hrel
          clear HZ0 HVO HBV
          by_cases hlt : k < N
          · have hki : (k : Int) < (N : Int) := by omega
            have HAL := hide hal
            have hacl : acc.length ≤ 3 := by omega
            have HGN := hide (GN.out wr (j : Int) hbel.out (by omega))
            have HST : Hid (N - k = (N - (k + 1)) + 1) := by show _ = _; omega
            clear hal
            go_wp2_with fail
            refine HGN.out.mono ?_
            rintro e u ⟨hno, hyes, hu⟩
            have hu' := hu.symm
            subst hu'
            clear HGN
            cases hg2 : getN (strB t) (j : Int) with
            | none =>
              obtain rfl := hno hg2
              have HN := hide (HFAIL.out wr hbel.out (HZ.out.1 (by rw [← hgl.out, HST.out, getL_no (getP_no1 hg2)])))
              clear hno hyes hg2 GN GT
              go_wp2
              exact bodyPost_ret (v := .tuple #[.slice (some ⟨w.heap.size, 0, none⟩) 0 0, .bool false]) (by simp [results, Tryz.results47, go_sem]) rfl HN.out
            | some r2 =>
              obtain ⟨s, j1⟩ := r2
              obtain rfl := hyes s j1 hg2
              have b2 := getN_bd (strB_bytes t) hg2
              have H2 := hide hg2
              have HGT := hide (GT.out wr (j1 : Int) hbel.out (by omega))
              clear hno hyes hg2
              go_wp2_with fail
              refine HGT.out.mono ?_
              rintro e u ⟨hno, hyes, hu⟩
              have hu' := hu.symm
              subst hu'
              clear HGT
              cases hg3 : getT (strB t) (j1 : Int) with
              | none =>
                obtain rfl := hno hg3
                have HN := hide (HFAIL.out wr hbel.out (HZ.out.1 (by rw [← hgl.out, HST.out, getL_no (getP_no2 H2.out hg3)])))
                clear hno hyes hg3 GN GT
                go_wp2
                exact bodyPost_ret (v := .tuple #[.slice (some ⟨w.heap.size, 0, none⟩) 0 0, .bool false]) (by simp [results, Tryz.results47, go_sem]) rfl HN.out
              | some r3 =>
                obtain ⟨ys, j2⟩ := r3
                obtain rfl := hyes ys j2 hg3
                have b3 := getT_inv (strB_bytes t) hg3
                have b4 := getT_len hg3
                have hj2 : j2 ≤ 1048576 := by omega
                have HGL : Hid (getL (strB t) (N - (k + 1)) j2 (acc ++ [(s, strOf ys)]) = Z) := by show _ = _; rw [← hgl.out, HST.out, getL_yes (getP_yes H2.out hg3)]
                have HSH : Hid (∀ y ∈ acc ++ [(s, strOf ys)], y.2.size ≤ 400 ∧ 0 ≤ y.1 ∧ y.1 ≤ 1000000000) := fun y hy => by
                  rcases List.mem_append.1 hy with hy | hy
                  · exact hshort.out y hy
                  · simp at hy; subst hy; exact ⟨by show (strOf ys).size ≤ 400; rw [strOf_size]; exact b4, b2.1, b2.2.1⟩
                have hbs := hbel.out.size
                have HOW := hide hown
                clear hno hyes hg3 b2 b3 b4 hown
                go_wp2_with (at_builtin; go_must (refine wpList_append_row rfl _ _ 38 rfl W.heap.size 58 i2 (.agg #[.int .i64 0, .string ⟨#[]⟩]) 2 24 Tryz.underlying38 hi2 hz0 hz1 hz2 rfl (by decide) _ _ _ [.int .i64 s, .string (strOf ys)] rfl HOW.out rfl (put_one _ _) rfl (by omega) (by omega) hbs rfl ?_); intro v' u4 ho4 hg4; have HO4 : Hid (PutsOwn u4 W.heap.size v' (acc ++ [(s, strOf ys)])) := (by show World.ownsRow _ _ _ _ _ _ _; rw [← vsPut_snoc, List.length_append, List.length_singleton]; exact ho4); have HB4 : Hid (Below W.heap.size W u4) := hbel.out.trans (grown_below HOW.out hg4 hbs); clear ho4 hg4)
                go_roundw
                case rel => exact ⟨k + 1, j2, acc ++ [(s, strOf ys)], by omega, hj2, rfl, by go_num, by rw [List.length_append, HAL.out]; rfl, HGL, HO4.out, HSH, HB4⟩
                case measure => simp [intOf]; omega
          · obtain rfl : k = N := by omega
            have hki : ¬ ((k : Nat) : Int) < (k : Int) := by omega
            have HZA : Hid (Z = some acc) := by show _ = _; rw [← hgl.out, Nat.sub_self]; rfl
            have HE := hide (HZ.out.2 acc HZA.out)
            have hacl : acc.length ≤ 3 := by omega
            have HOW := hide hown
            clear hgl hal GN GT hown
            by_cases h0 : t = ByteArray.empty
            · have hem : t.toList.isEmpty = true := by rw [h0, ByteArray.toList_eq]; rfl
              have HN := hide (HFAIL.out wr hbel.out (HE.out.2 (fun h => h.1 h0)))
              clear h0
              go_wp2
              exact bodyPost_ret (v := .tuple #[.slice (some ⟨w.heap.size, 0, none⟩) 0 0, .bool false]) (by simp [results, Tryz.results47, go_sem]) rfl HN.out
            · have hem := isEmpty_str h0
              have H0E := hide h0
              obtain ⟨a6, c6, rfl⟩ := HOW.out.shape
              obtain ⟨_, _, he6, hr6⟩ := HOW.out.rd
              injection he6 with e1 _ e3
              subst e1 e3
              have HLT := hide (specLogText_any a6 acc c6 wr hr6 (by omega) (fun y hy => ⟨by have := (hshort.out y hy).1; unfold maxLen; omega, by have := (hshort.out y hy).2; omega⟩))
              obtain ⟨U, hU⟩ : ∃ U, U = logT acc := ⟨_, rfl⟩
              rw [← hU] at HLT HE
              clear h0 hr6 hU
              by_cases heq : U = t
              · have HY := hide (HE.out.1 ⟨H0E.out, heq⟩)
                subst heq
                have hne : (U.toList == U.toList) = true := by simp
                go_wp2_with (refine HLT.out.mono ?_; rintro e u5 ⟨rfl, hb5⟩; have HB5 := hide hb5; clear hb5)
                exact bodyPost_ret (v := .tuple #[.slice a6 acc.length c6, .bool true]) (by simp [results, Tryz.results47, go_sem]) rfl (by rw [HY.out]; exact ⟨_, rfl, owns_mono (owns_below HOW.out HB5.out) HBW.out.size, after (after HBW.out hbel.out) HB5.out⟩)
              · have HN := HE.out.2 (fun h => heq h.2)
                have hne : (U.toList == t.toList) = false := by simpa using fun h => heq (text_inj h)
                have HF : Hid (∀ u, Below W.heap.size W u → ReadIs w u (.returned (.tuple #[.slice (some ⟨w.heap.size, 0, none⟩) 0 0, .bool false])) R) := fun u hu => HFAIL.out u hu HN
                clear heq
                go_wp2_with (refine HLT.out.mono ?_; rintro e u5 ⟨rfl, hb5⟩; have HB5 := hide hb5; clear hb5)
                exact bodyPost_ret (v := .tuple #[.slice (some ⟨w.heap.size, 0, none⟩) 0 0, .bool false]) (by simp [results, Tryz.results47, go_sem]) rfl (HF.out _ (after hbel.out HB5.out))
end Go.Proofs.YtdicjbabnknjhaaGreat

namespace Go.Proofs.YtdicjbabnknjhaaGreat
open Go.RowKit

/-- How taking a put ends. -/
def TookP (pb : Nat) (r : Option (Int × List Int × Nat)) (e : Ending) (w' : World) : Prop :=
  match r with
  | none => ∃ s, e = .panicked [{ v := .iface 9 (.string s), recovered := false }]
  | some (s, ys, l) => e = .returned (.agg #[.int .i64 s, .string (strOf ys)]) ∧ w'.cell? ⟨pb, 0, none⟩ = some (.int .i64 l) ∧ w'.frozen? ⟨pb, 0, none⟩ = false
theorem tookP_no {pb : Nat} {r : Option (Int × List Int × Nat)} {e : Ending} {w' : World} {s : ByteArray} (h : r = none) (he : e = .panicked [{ v := .iface 9 (.string s), recovered := false }]) : TookP pb r e w' := by subst h; exact ⟨s, he⟩
theorem tookP_yes {pb : Nat} {r : Option (Int × List Int × Nat)} {e : Ending} {w' : World} {s : Int} {ys : List Int} {l : Nat} (h : r = some (s, ys, l)) (he : e = .returned (.agg #[.int .i64 s, .string (strOf ys)])) (hc : w'.cell? ⟨pb, 0, none⟩ = some (.int .i64 l)) (hf : w'.frozen? ⟨pb, 0, none⟩ = false) : TookP pb r e w' := by subst h; exact ⟨he, hc, hf⟩
theorem frozen_grown {w w' : World} {row : Option Nat} (hg : w.grownBy w' row) {p o : Nat} {v : Bool} (hlt : p < w.heap.size) (hc : w.frozen? ⟨p, o, none⟩ = v) (hne : row ≠ some p) : w'.frozen? ⟨p, o, none⟩ = v := (World.frozen?_of_block (hg.block p hlt (fun e => hne e.symm))).trans hc
theorem CV.grown {u u' : World} {p : Nat} {xs : List Value} {row : Option Nat} (h : CV u p xs) (hg : u.grownBy u' row) (hne : row ≠ some p) : CV u' p xs :=
  ⟨Nat.lt_of_lt_of_le h.1 hg.size, fun i v hv => grown_cell hg (h.2.1 i v hv) hne, fun j => frozen_grown hg h.1 (h.2.2 j) hne⟩

set_option maxRecDepth 100000 in
set_option maxHeartbeats 1600000 in
theorem takePut_any (a : Option Addr) (zs : List Int) (cap pb i0 : Nat) (w : World) (hr : ∀ w', Below pb w w' → Rd w' a (u8s zs)) (hb : IsBytes zs) (hm : zs.length ≤ 1048576) (hcap : zs.length ≤ cap) (hp : w.cell? ⟨pb, 0, none⟩ = some (.int .i64 i0)) (hf : w.frozen? ⟨pb, 0, none⟩ = false) :
    Calls Tryz.prog 99 #[.slice a zs.length cap, .pointer (some ⟨pb, 0, none⟩)] w fun e w' => w.grownBy w' (some pb) ∧ TookP pb (getP zs i0) e w' := by
  have hpb : pb < w.heap.size := lt_of_cell hp
  obtain ⟨W, hW⟩ : ∃ W, W = w.alloc (Obj.cells #[.int .i64 0, .string ⟨#[]⟩] 58) := ⟨_, rfl⟩
  have hbW : Below w.heap.size w W := by rw [hW]; exact (Below.refl _ _).alloc (Nat.le_refl _) _
  have hgW : w.grownBy W (some pb) := grown_of_below hbW
  have hbp : Below pb w W := hbW.mono (by omega)
  have k0 : CV W w.heap.size [.int .i64 0, .string ⟨#[]⟩] := by rw [hW]; exact cv_new _ _ _
  have p0 : W.cell? ⟨pb, 0, none⟩ = some (.int .i64 i0) := (hbW.cell (p := ⟨pb, 0, none⟩) hpb).trans hp
  have f0 : W.frozen? ⟨pb, 0, none⟩ = false := (hbW.frozen (p := ⟨pb, 0, none⟩) hpb).trans hf
  have hne : (some pb : Option Nat) ≠ some w.heap.size := by simp; omega
  have hsW := k0.1
  clear hp hf hbW
  go_enter Tryz.func99, Tryz.ntmps99
  go_wp2_with fail
  rw [← hW]
  clear hW
  refine (takeNum_grown a zs cap pb i0 W (fun u hu => hr u (hbp.trans hu)) hb hm p0 f0).mono ?_
  rintro e w1 ⟨hg1, ht⟩
  have hb1 := hbp.trans (belowGrown hg1 (by omega))
  have hG1 := grown_trans hgW hg1
  have k1 := k0.grown hg1 hne
  cases hg : getN zs (i0 : Int) with
  | none =>
    rw [hg] at ht
    obtain ⟨s, rfl⟩ := ht
    have hT := hide (getP_no1 hg)
    clear hg hr p0 f0 k0 k1
    go_wp2
    exact ⟨rfl, hG1, tookP_no hT.out rfl⟩
  | some r =>
    obtain ⟨n, j⟩ := r
    rw [hg] at ht
    obtain ⟨rfl, p1, f1⟩ := ht
    have H1 := hide hg
    clear hg p0 f0 k0 hg1
    go_wp2_with fail
    refine (takeText_grown a zs cap pb j w1 (fun u hu => hr u (hb1.trans hu)) hb hm hcap p1 f1).mono ?_
    rintro e w3 ⟨hg3, ht⟩
    have hG3 := grown_trans hG1 hg3
    have k3 := k1.grown hg3 hne
    cases hg : getT zs (j : Int) with
    | none =>
      rw [hg] at ht
      obtain ⟨s, rfl⟩ := ht
      have hT := hide (getP_no2 H1.out hg)
      clear hg hr p1 f1 k1 k3
      go_wp2
      exact ⟨rfl, hG3, tookP_no hT.out rfl⟩
    | some r =>
      obtain ⟨ys, l⟩ := r
      rw [hg] at ht
      obtain ⟨rfl, p3, f3⟩ := ht
      have hT := hide (getP_yes H1.out hg)
      have c0 := k3.2.1 0 _ rfl
      have c1 := k3.2.1 1 _ rfl
      have g0 := k3.2.2 0
      have g1 := k3.2.2 1
      have hne' : pb ≠ w.heap.size := by omega
      have HG3 := hide hG3
      clear hg hr p1 f1 k1 hg3 k3 hG3 hG1
      go_wp2
      refine bodyPost_ret (v := .agg #[.int .i64 n, .string (strOf ys)]) (by simp [results, Tryz.results99, go_sem, c0, c1]) rfl ⟨?_, tookP_yes hT.out rfl (cell_aside (cell_aside p3 (by omega)) (by omega)) (by simpa using f3)⟩
      refine ⟨HG3.out.os, HG3.out.tape, HG3.out.output, by simpa [World.setCell] using HG3.out.size, fun i hi hn => ?_⟩
      rw [Below.heap_setCell _ _ _ _ (by show i ≠ w.heap.size; omega), Below.heap_setCell _ _ _ _ (by show i ≠ w.heap.size; omega)]
      exact HG3.out.block i hi hn

set_option maxRecDepth 100000 in
set_option maxHeartbeats 800000 in
theorem putsOf1_panicking (B : Nat) (x0 : Value) (u : TypeId) (pv : Value) (older : List PanicEntry) (w : World) (h1 : w.cell? ⟨B, 0, none⟩ = some x0) (f1 : w.frozen? ⟨B, 0, none⟩ = false) :
    CallsD Tryz.prog 97 #[.pointer (some ⟨B, 0, none⟩)] (.panicking ({ v := .iface u pv, recovered := false } :: older)) w fun e u' w' =>
      e = .returned (.tuple #[]) ∧ u' = .panicking ({ v := .iface u pv, recovered := true } :: older) ∧ w' = w.setCell ⟨B, 0, none⟩ (.slice none 0 0) := by
  refine callsD_of_wpS Tryz.func97 rfl fun c₀ cs hu => ?_
  apply wpS_seq
  apply wpS_region
  simp [wpOpsS, go_sem, recoverD, hu, Tryz.ntmps97, Exit.thenS]
  refine wpS_cond (t := true) (by simp [Act.eval, Array.replicate]) ?_
  simp only [if_true]
  apply wpS_region
  simp [wpOpsS, go_sem, h1, f1, bodyPostS, results, Tryz.results97]

theorem putsOf1_idle (B : Nat) (w : World) :
    CallsD Tryz.prog 97 #[.pointer (some ⟨B, 0, none⟩)] .returning w fun e u' w' => e = .returned (.tuple #[]) ∧ u' = .returning ∧ w' = w := by
  refine callsD_of_wpS Tryz.func97 rfl fun c₀ cs hu => ?_
  apply wpS_seq
  apply wpS_region
  simp [wpOpsS, go_sem, recoverD, hu, Tryz.ntmps97, Exit.thenS]
  refine wpS_cond (t := false) (by simp [Act.eval, Array.replicate]) ?_
  simp only [Bool.false_eq_true, if_false]
  refine wpS_of_wp (wp_skip ?_)
  cases c₀
  simp_all [bodyPostS, results, Tryz.results97]
end Go.Proofs.YtdicjbabnknjhaaGreat
