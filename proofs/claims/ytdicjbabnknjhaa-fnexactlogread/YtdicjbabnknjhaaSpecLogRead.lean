/-
  Contract of the specification's LogRead.
-/
import Derived.Test.YtdicjbabnknjhaaSpecLogText
import Derived.Test.YtdicjbabnknjhaaSpecRead
import Derived.Test.YtdicjbabnknjhaaRowApp
import Derived.Test.YtdicjbabnknjhaaGetText
namespace Go.Proofs.Ytdicjbabnknjhaa
open Go.RowKit

theorem logR_no1 {t : ByteArray} (h : getN (strB t) 0 = none) : logR t = none := by unfold logR; rw [h]
theorem logR_no2 {t : ByteArray} {x : Int} {i : Nat} (h : getN (strB t) 0 = some (x, i)) (h2 : getN (strB t) (i : Int) = none) : logR t = none := by unfold logR; rw [h]; simp only []; rw [h2]
theorem logR_no3 {t : ByteArray} {x n : Int} {i j : Nat} (h : getN (strB t) 0 = some (x, i)) (h2 : getN (strB t) (i : Int) = some (n, j)) (h3 : 3 < n) : logR t = none := by unfold logR; rw [h]; simp only []; rw [h2]; simp only []; rw [if_pos h3]
theorem logR_no4 {t : ByteArray} {x n : Int} {i j : Nat} (h : getN (strB t) 0 = some (x, i)) (h2 : getN (strB t) (i : Int) = some (n, j)) (h3 : ¬ 3 < n) (h4 : getL (strB t) n.toNat j [] = none) : logR t = none := by unfold logR; rw [h]; simp only []; rw [h2]; simp only []; rw [if_neg h3, h4]
theorem logR_end {t : ByteArray} {x n : Int} {i j : Nat} {L : List (Int × ByteArray)} (h : getN (strB t) 0 = some (x, i)) (h2 : getN (strB t) (i : Int) = some (n, j)) (h3 : ¬ 3 < n) (h4 : getL (strB t) n.toNat j [] = some L) :
    (t ≠ ByteArray.empty ∧ logT L = t → logR t = some L) ∧ (¬ (t ≠ ByteArray.empty ∧ logT L = t) → logR t = none) := by
  refine ⟨fun h5 => ?_, fun h5 => ?_⟩
  · unfold logR; rw [h]; simp only []; rw [h2]; simp only []; rw [if_neg h3, h4]; simp only []; rw [if_pos h5]
  · unfold logR; rw [h]; simp only []; rw [h2]; simp only []; rw [if_neg h3, h4]; simp only []; rw [if_neg h5]

theorem put_one (x : Int) (t : ByteArray) : ∀ u ∈ ([.int .i64 x, .string t] : List Value), u.oneCell' = true := by
  intro u hu
  simp at hu
  rcases hu with rfl | rfl <;> rfl
/-- What LogRead answers. -/
def ReadIs (w w' : World) (e : Ending) (R : Option (List (Int × ByteArray))) : Prop := ∃ v, e = .returned (.tuple #[v, .bool R.isSome]) ∧ PutsOwn w' w.heap.size v (R.getD []) ∧ Below w.heap.size w w'

set_option maxRecDepth 100000 in
set_option maxHeartbeats 6400000 in
theorem specLogRead_any (t : ByteArray) (w : World) (ht : t.size ≤ 1048576) :
    Calls Try.prog 11 #[.string t] w fun e w' => ReadIs w w' e (logR t) := by
  have hcv := fun w => run_bytes_of_string (P := Try.prog) w 9 54 5 t Try.underlying9 Try.underlying54 Try.underlying5
  obtain ⟨i2, hi2, hz0, hz1, hz2⟩ := info_parts infoPut
  obtain ⟨R, hR⟩ : ∃ R, R = logR t := ⟨_, rfl⟩
  rw [← hR]
  have HR := hide hR
  clear hR
  obtain ⟨A, hA⟩ : ∃ A, A = w.alloc (Obj.cells #[] 56) := ⟨_, rfl⟩
  have hsA : A.heap.size = w.heap.size + 1 := by rw [hA]; simp
  obtain ⟨C, hC⟩ : ∃ C, C = grownCap A t.size 0 5 := ⟨_, rfl⟩
  have hcap : t.size ≤ C := by rw [hC]; exact grownCap_ge _ _ _ _
  obtain ⟨X, hX⟩ : ∃ X, X = Obj.cells (bytesRow t C) 5 ((bytesRow t C).size, (bytesRow t C).size + 1) := ⟨_, rfl⟩
  obtain ⟨W, hW⟩ : ∃ W, W = (A.alloc X).drew := ⟨_, rfl⟩
  have hbA : Below w.heap.size w A := by rw [hA]; exact (Below.refl _ _).alloc (Nat.le_refl _) _
  have hbX : Below A.heap.size A W := by rw [hW]; exact after_drew ((Below.refl _ _).alloc (Nat.le_refl _) _) 1
  have hbW : Below w.heap.size w W := after hbA hbX
  have hrd : Rd W (some ⟨w.heap.size + 1, 0, none⟩) (u8s (strB t)) := by
    have := (rd_bytes t A C)
    rw [← hX, hsA] at this
    rw [hW]; exact this
  have hnil : PutsOwn W w.heap.size (.slice (some ⟨w.heap.size, 0, none⟩) 0 0) [] := by
    have h0 : A.ownsRow w.heap.size 56 2 (.slice (some ⟨w.heap.size, 0, none⟩) 0 0) 0 [] := by rw [hA]; exact World.ownsRow_made w #[] 0 (Nat.le_refl _) (Nat.zero_le _) rfl
    exact owns_below h0 hbX
  have GN : Hid (∀ (u : World) (i : Int), Below W.heap.size W u → i ≤ 1048576 → Calls Try.prog 35 #[.slice (some ⟨w.heap.size + 1, 0, none⟩) t.size C, .int .i64 i] u fun e w' => (getN (strB t) i = none → e = .returned (.tuple #[.int .i64 0, .int .i64 0, .bool false])) ∧ (∀ n j, getN (strB t) i = some (n, j) → e = .returned (.tuple #[.int .i64 n, .int .i64 (j : Nat), .bool true])) ∧ w' = u) := by
    intro u i hu hi
    have := specGetNum_any (some ⟨w.heap.size + 1, 0, none⟩) (strB t) C i u (hrd.below hu) (strB_bytes t) (by rw [strB_len]; exact ht) (by omega)
    rw [strB_len] at this
    exact this
  have GT : Hid (∀ (u : World) (i : Int), Below W.heap.size W u → i ≤ 1048576 → Calls Try.prog 36 #[.slice (some ⟨w.heap.size + 1, 0, none⟩) t.size C, .int .i64 i] u fun e w' => (getT (strB t) i = none → e = .returned (.tuple #[.string ByteArray.empty, .int .i64 0, .bool false])) ∧ (∀ ys j, getT (strB t) i = some (ys, j) → e = .returned (.tuple #[.string (strOf ys), .int .i64 (j : Nat), .bool true])) ∧ w' = u) := by
    intro u i hu hi
    have := specGetText_any (some ⟨w.heap.size + 1, 0, none⟩) (strB t) C i u (hrd.below hu) (strB_bytes t) (by rw [strB_len]; exact ht) (by rw [strB_len]; exact hcap) (by omega)
    rw [strB_len] at this
    exact this
  have hzl := strB_len t
  have HNIL := hide hnil
  have HBW := hide hbW
  have HFAIL : Hid (∀ u, Below W.heap.size W u → R = none → ReadIs w u (.returned (.tuple #[.slice (some ⟨w.heap.size, 0, none⟩) 0 0, .bool false])) R) := by
    intro u hu hn
    rw [hn]
    exact ⟨_, rfl, PutsOwn.below hnil hu, after hbW hu⟩
  clear hbA hbX hrd hsA hnil hbW
  go_enter Try.func11, Try.ntmps11
  go_wp2_with fail
  rw [← hA]
  rw [← hC]
  rw [← hX]
  rw [← hW]
  clear hA hC hX hW hcv
  refine (GN.out W 0 (Below.refl _ _) (by decide)).mono ?_
  rintro e u ⟨hno, hyes, hu⟩
  have hu' := hu.symm
  subst hu'
  cases hg0 : getN (strB t) 0 with
  | none =>
    obtain rfl := hno hg0
    have HN := hide (HFAIL.out W (Below.refl _ _) (by rw [HR.out, logR_no1 hg0]))
    clear hno hyes hg0 GN GT
    go_wp2
    exact bodyPost_ret (v := .tuple #[.slice (some ⟨w.heap.size, 0, none⟩) 0 0, .bool false]) (by simp [results, Try.results11, go_sem]) rfl HN.out
  | some r0 =>
    obtain ⟨x0, i0⟩ := r0
    obtain rfl := hyes x0 i0 hg0
    have b0 := getN_bd (strB_bytes t) hg0
    have H0 := hide hg0
    clear hno hyes hg0
    go_wp2_with fail
    refine (GN.out W (i0 : Int) (Below.refl _ _) (by omega)).mono ?_
    rintro e u ⟨hno, hyes, hu⟩
    have hu' := hu.symm
    subst hu'
    cases hg1 : getN (strB t) (i0 : Int) with
    | none =>
      obtain rfl := hno hg1
      have HN := hide (HFAIL.out W (Below.refl _ _) (by rw [HR.out, logR_no2 H0.out hg1]))
      clear hno hyes hg1 GN GT
      go_wp2
      exact bodyPost_ret (v := .tuple #[.slice (some ⟨w.heap.size, 0, none⟩) 0 0, .bool false]) (by simp [results, Try.results11, go_sem]) rfl HN.out
    | some r1 =>
      obtain ⟨n, j0⟩ := r1
      obtain rfl := hyes n j0 hg1
      have b1 := getN_bd (strB_bytes t) hg1
      have H1 := hide hg1
      clear hno hyes hg1
      by_cases h3 : 3 < n
      · have HN := hide (HFAIL.out W (Below.refl _ _) (by rw [HR.out, logR_no3 H0.out H1.out h3]))
        clear GN GT
        go_wp2
        exact bodyPost_ret (v := .tuple #[.slice (some ⟨w.heap.size, 0, none⟩) 0 0, .bool false]) (by simp [results, Try.results11, go_sem]) rfl HN.out
      · obtain ⟨N, rfl⟩ : ∃ N : Nat, n = N := ⟨n.toNat, by omega⟩
        have H3 := hide h3
        have hN3 : N ≤ 3 := by omega
        have HIN : Hid (∀ L, getL (strB t) N j0 [] = L → (L = none → R = none) ∧ (∀ l, L = some l → (t ≠ ByteArray.empty ∧ logT l = t → R = some l) ∧ (¬ (t ≠ ByteArray.empty ∧ logT l = t) → R = none))) := by
          intro L hL
          refine ⟨fun h => ?_, fun l h => ?_⟩
          · rw [HR.out, logR_no4 H0.out H1.out H3.out (by rw [Int.toNat_natCast, hL, h])]
          · rw [HR.out]; exact logR_end H0.out H1.out H3.out (by rw [Int.toNat_natCast, hL, h])
        obtain ⟨Z, hZ⟩ : ∃ Z, Z = getL (strB t) N j0 [] := ⟨_, rfl⟩
        have HZ := hide (HIN.out Z hZ.symm)
        have HZ0 : Hid (getL (strB t) (N - 0) j0 [] = Z) := hZ.symm
        clear hZ HIN
        obtain ⟨V, hV⟩ : ∃ V, V = W.alloc (Obj.cells #[] 56) := ⟨_, rfl⟩
        have hbV : Below W.heap.size W V := by rw [hV]; exact (Below.refl _ _).alloc (Nat.le_refl _) _
        have hVo : PutsOwn V W.heap.size (.slice (some ⟨W.heap.size, 0, none⟩) 0 0) [] := by rw [hV]; exact World.ownsRow_made W #[] 0 (Nat.le_refl _) (Nat.zero_le _) rfl
        have HVO := hide hVo
        have HBV := hide hbV
        have hj0 : j0 ≤ 1048576 := by omega
        clear hVo hbV h3 b0 b1
        go_wp2_with fail
        rw [← hV]
        clear hV
        go_loopw [10, 12, 13] (fun x v i wr => ∃ (k j : Nat) (acc : List (Int × ByteArray)), k ≤ N ∧ j ≤ 1048576 ∧ x = .int .i64 j ∧ i = .int .i64 k ∧ acc.length = k ∧ Hid (getL (strB t) (N - k) j acc = Z) ∧ PutsOwn wr W.heap.size v acc ∧ Hid (∀ y ∈ acc, y.2.size ≤ 400 ∧ 0 ≤ y.1 ∧ y.1 ≤ 1000000000) ∧ Hid (Below W.heap.size W wr)) (fun _ _ i _ => N - (intOf i).toNat)
        case atStart => exact ⟨0, j0, [], Nat.zero_le _, hj0, rfl, rfl, rfl, HZ0, HVO.out, fun y hy => by simp at hy, HBV⟩
        case round =>
          obtain ⟨k, j, acc, hk, hj, rfl, rfl, hal, hgl, hown, hshort, hbel⟩ := hrel
          clear HZ0 HVO HBV
          by_cases hlt : k < N
          · have hki : (k : Int) < (N : Int) := by omega
            have HAL := hide hal
            have hacl : acc.length ≤ 3 := by omega
            have HGN := hide (GN.out wr (j : Int) hbel.out (by omega))
            have HST : Hid (N - k = (N - (k + 1)) + 1) := by show _ = _; omega
            clear hal
            go_wp2_with fail
            refine HGN.out.mono ?_
            rintro e u ⟨hno, hyes, hu⟩
            have hu' := hu.symm
            subst hu'
            clear HGN
            cases hg2 : getN (strB t) (j : Int) with
            | none =>
              obtain rfl := hno hg2
              have HN := hide (HFAIL.out wr hbel.out (HZ.out.1 (by rw [← hgl.out, HST.out, getL_no (getP_no1 hg2)])))
              clear hno hyes hg2 GN GT
              go_wp2
              exact bodyPost_ret (v := .tuple #[.slice (some ⟨w.heap.size, 0, none⟩) 0 0, .bool false]) (by simp [results, Try.results11, go_sem]) rfl HN.out
            | some r2 =>
              obtain ⟨s, j1⟩ := r2
              obtain rfl := hyes s j1 hg2
              have b2 := getN_bd (strB_bytes t) hg2
              have H2 := hide hg2
              have HGT := hide (GT.out wr (j1 : Int) hbel.out (by omega))
              clear hno hyes hg2
              go_wp2_with fail
              refine HGT.out.mono ?_
              rintro e u ⟨hno, hyes, hu⟩
              have hu' := hu.symm
              subst hu'
              clear HGT
              cases hg3 : getT (strB t) (j1 : Int) with
              | none =>
                obtain rfl := hno hg3
                have HN := hide (HFAIL.out wr hbel.out (HZ.out.1 (by rw [← hgl.out, HST.out, getL_no (getP_no2 H2.out hg3)])))
                clear hno hyes hg3 GN GT
                go_wp2
                exact bodyPost_ret (v := .tuple #[.slice (some ⟨w.heap.size, 0, none⟩) 0 0, .bool false]) (by simp [results, Try.results11, go_sem]) rfl HN.out
              | some r3 =>
                obtain ⟨ys, j2⟩ := r3
                obtain rfl := hyes ys j2 hg3
                have b3 := getT_inv (strB_bytes t) hg3
                have b4 := getT_len hg3
                have hj2 : j2 ≤ 1048576 := by omega
                have HGL : Hid (getL (strB t) (N - (k + 1)) j2 (acc ++ [(s, strOf ys)]) = Z) := by show _ = _; rw [← hgl.out, HST.out, getL_yes (getP_yes H2.out hg3)]
                have HSH : Hid (∀ y ∈ acc ++ [(s, strOf ys)], y.2.size ≤ 400 ∧ 0 ≤ y.1 ∧ y.1 ≤ 1000000000) := fun y hy => by
                  rcases List.mem_append.1 hy with hy | hy
                  · exact hshort.out y hy
                  · simp at hy; subst hy; exact ⟨by show (strOf ys).size ≤ 400; rw [strOf_size]; exact b4, b2.1, b2.2.1⟩
                have hbs := hbel.out.size
                have HOW := hide hown
                clear hno hyes hg3 b2 b3 b4 hown
                go_wp2_with (at_builtin; go_must (refine wpList_append_row rfl _ _ 25 rfl W.heap.size 56 i2 (.agg #[.int .i64 0, .string ⟨#[]⟩]) 2 24 Try.underlying25 hi2 hz0 hz1 hz2 rfl (by decide) _ _ _ [.int .i64 s, .string (strOf ys)] rfl HOW.out rfl (put_one _ _) rfl (by omega) (by omega) hbs rfl ?_); intro v' u4 ho4 hg4; have HO4 : Hid (PutsOwn u4 W.heap.size v' (acc ++ [(s, strOf ys)])) := (by show World.ownsRow _ _ _ _ _ _ _; rw [← vsPut_snoc, List.length_append, List.length_singleton]; exact ho4); have HB4 : Hid (Below W.heap.size W u4) := hbel.out.trans (grown_below HOW.out hg4 hbs); clear ho4 hg4)
                go_roundw
                case rel => exact ⟨k + 1, j2, acc ++ [(s, strOf ys)], by omega, hj2, rfl, by go_num, by rw [List.length_append, HAL.out]; rfl, HGL, HO4.out, HSH, HB4⟩
                case measure => simp [intOf]; omega
          · obtain rfl : k = N := by omega
            have hki : ¬ ((k : Nat) : Int) < (k : Int) := by omega
            have HZA : Hid (Z = some acc) := by show _ = _; rw [← hgl.out, Nat.sub_self]; rfl
            have HE := hide (HZ.out.2 acc HZA.out)
            have hacl : acc.length ≤ 3 := by omega
            have HOW := hide hown
            clear hgl hal GN GT hown
            by_cases h0 : t = ByteArray.empty
            · have hem : t.toList.isEmpty = true := by rw [h0, ByteArray.toList_eq]; rfl
              have HN := hide (HFAIL.out wr hbel.out (HE.out.2 (fun h => h.1 h0)))
              clear h0
              go_wp2
              exact bodyPost_ret (v := .tuple #[.slice (some ⟨w.heap.size, 0, none⟩) 0 0, .bool false]) (by simp [results, Try.results11, go_sem]) rfl HN.out
            · have hem := isEmpty_str h0
              have H0E := hide h0
              obtain ⟨a6, c6, rfl⟩ := HOW.out.shape
              obtain ⟨_, _, he6, hr6⟩ := HOW.out.rd
              injection he6 with e1 _ e3
              subst e1 e3
              have HLT := hide (specLogText_any a6 acc c6 wr hr6 (by omega) (fun y hy => ⟨by have := (hshort.out y hy).1; unfold maxLen; omega, by have := (hshort.out y hy).2; omega⟩))
              obtain ⟨U, hU⟩ : ∃ U, U = logT acc := ⟨_, rfl⟩
              rw [← hU] at HLT HE
              clear h0 hr6 hU
              by_cases heq : U = t
              · have HY := hide (HE.out.1 ⟨H0E.out, heq⟩)
                subst heq
                have hne : (U.toList == U.toList) = true := by simp
                go_wp2_with (refine HLT.out.mono ?_; rintro e u5 ⟨rfl, hb5⟩; have HB5 := hide hb5; clear hb5)
                exact bodyPost_ret (v := .tuple #[.slice a6 acc.length c6, .bool true]) (by simp [results, Try.results11, go_sem]) rfl (by rw [HY.out]; exact ⟨_, rfl, owns_mono (owns_below HOW.out HB5.out) HBW.out.size, after (after HBW.out hbel.out) HB5.out⟩)
              · have HN := HE.out.2 (fun h => heq h.2)
                have hne : (U.toList == t.toList) = false := by simpa using fun h => heq (text_inj h)
                have HF : Hid (∀ u, Below W.heap.size W u → ReadIs w u (.returned (.tuple #[.slice (some ⟨w.heap.size, 0, none⟩) 0 0, .bool false])) R) := fun u hu => HFAIL.out u hu HN
                clear heq
                go_wp2_with (refine HLT.out.mono ?_; rintro e u5 ⟨rfl, hb5⟩; have HB5 := hide hb5; clear hb5)
                exact bodyPost_ret (v := .tuple #[.slice (some ⟨w.heap.size, 0, none⟩) 0 0, .bool false]) (by simp [results, Try.results11, go_sem]) rfl (HF.out _ (after hbel.out HB5.out))
end Go.Proofs.Ytdicjbabnknjhaa
