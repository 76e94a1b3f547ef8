/-
  Contract of the specification's KidDrop.
-/
import Derived.Test.YtmolhhljodlhaabImplDrop
import Derived.Test.YtmolhhljodlhaabImplKid
import Derived.Deep.RegionLaw
import Derived.Deep.CutRange
namespace Go.Proofs.Ytmolhhljodlhaab
open Go.RowKit Go.Deep
set_option maxRecDepth 100000
set_option linter.unusedVariables false

/-- The first k but the one at that place. -/
def skipI (K : List (ByteArray × Int)) (z : Int) (k : Nat) : List (ByteArray × Int) := if 0 ≤ z ∧ z < k then (K.take k).eraseIdx z.toNat else K.take k
theorem skipI_zero (K : List (ByteArray × Int)) (z : Int) : skipI K z 0 = [] := by unfold skipI; split <;> simp
theorem skipI_on {K : List (ByteArray × Int)} {z : Int} {k : Nat} {x : ByteArray × Int} (hx : K[k]? = some x) (hz : (k : Int) ≠ z) : skipI K z (k + 1) = skipI K z k ++ [x] := by
  have hk : k < K.length := by
    rcases Nat.lt_or_ge k K.length with h' | h'
    · exact h'
    · simp [h'] at hx
  have e : K.take (k + 1) = K.take k ++ [x] := by rw [List.take_add_one, hx]; rfl
  unfold skipI
  by_cases h : 0 ≤ z ∧ z < (k : Int)
  · rw [if_pos h, if_pos (by omega), e, List.eraseIdx_append_of_lt_length (by rw [List.length_take]; omega)]
  · rw [if_neg h, if_neg (by omega), e]
theorem skipI_off {K : List (ByteArray × Int)} {z : Int} {k : Nat} {x : ByteArray × Int} (hx : K[k]? = some x) (hz : (k : Int) = z) : skipI K z (k + 1) = skipI K z k := by
  have hk : k < K.length := by
    rcases Nat.lt_or_ge k K.length with h' | h'
    · exact h'
    · simp [h'] at hx
  have e : K.take (k + 1) = K.take k ++ [x] := by rw [List.take_add_one, hx]; rfl
  unfold skipI
  rw [if_pos (by omega), if_neg (by omega), e]
  have : z.toNat = (K.take k).length := by rw [List.length_take]; omega
  rw [List.eraseIdx_append_of_length_le (by omega), this]
  simp
theorem skipI_full (K : List (ByteArray × Int)) (name : ByteArray) : skipI K (firstAt (isName name) K) K.length = dropK K name := by
  unfold skipI
  rw [List.take_length]
  rcases firstAt_cases (isName name) K with ⟨hf, -⟩ | ⟨k, x, hf, hk, hx, -, -⟩
  · rw [hf, if_neg (by omega), dropK_none hf]
  · rw [hf, if_pos (by omega), dropK_hit hf]; simp
theorem skipI_len (K : List (ByteArray × Int)) (z : Int) (k : Nat) : (skipI K z k).length ≤ k := by
  unfold skipI
  split
  · have := List.length_eraseIdx_le (K.take k) z.toNat; rw [List.length_take] at this; omega
  · rw [List.length_take]; omega

set_option maxHeartbeats 12800000 in
theorem specKidDrop_any (dir : Bool) (a b : Option Addr) (ns : List ByteArray) (ks : List Int) (dat name : ByteArray) (c d : Nat) (w : World) (hp : Rd w a (vsString ns)) (hw : Rd w b (vsInt ks)) (hl : ns.length ≤ 1048576) (hm : ks.length ≤ 1048576) :
    Calls Try.prog 5 #[.agg #[.bool dir, .slice a ns.length c, .slice b ks.length d, .string dat], .string name] w fun e w' => ∃ v, e = .returned v ∧ NodeOwn w' w.heap.size v dir ((dropK (ns.zip ks) name).map Prod.fst) ((dropK (ns.zip ks) name).map Prod.snd) dat ∧ Below w.heap.size w w' := by
  obtain ⟨i1, hi1, hy0, hy1, hy2⟩ := info_parts infoString
  obtain ⟨i2, hi2, hz0, hz1, hz2⟩ := info_parts infoInt
  obtain ⟨A, hA⟩ : ∃ A, A = w.alloc (Obj.cells #[.bool dir, .slice a ns.length c, .slice b ks.length d, .string dat] 27) := ⟨_, rfl⟩
  obtain ⟨A2, hA2⟩ : ∃ A2, A2 = A.alloc (Obj.cells #[.bool false, .slice none 0 0, .slice none 0 0, .string ⟨#[]⟩] 27) := ⟨_, rfl⟩
  obtain ⟨W, hW⟩ : ∃ W, W = A2.alloc (Obj.cells #[.bool dir, .slice none 0 0, .slice none 0 0, .string dat] 27) := ⟨_, rfl⟩
  have hsA : A.heap.size = w.heap.size + 1 := by rw [hA]; simp
  have hsA2 : A2.heap.size = w.heap.size + 1 + 1 := by rw [hA2]; simp [hsA]
  have hsW : W.heap.size = w.heap.size + 1 + 1 + 1 := by rw [hW]; simp [hsA2]
  have hb0 : Below w.heap.size w A := by rw [hA]; exact (Below.refl _ _).alloc (Nat.le_refl _) _
  have hb1 : Below A.heap.size A A2 := by rw [hA2]; exact (Below.refl _ _).alloc (Nat.le_refl _) _
  have hb2 : Below A2.heap.size A2 W := by rw [hW]; exact (Below.refl _ _).alloc (Nat.le_refl _) _
  have k0 : C4 W w.heap.size (.bool dir) (.slice a ns.length c) (.slice b ks.length d) (.string dat) := by
    have : C4 A w.heap.size (.bool dir) (.slice a ns.length c) (.slice b ks.length d) (.string dat) := by rw [hA]; exact c4_new _ _ _ _ _ _
    exact (this.below hb1).below hb2
  have k1 : C4 W (w.heap.size + 1) (.bool false) (.slice none 0 0) (.slice none 0 0) (.string ⟨#[]⟩) := by
    have : C4 A2 A.heap.size (.bool false) (.slice none 0 0) (.slice none 0 0) (.string ⟨#[]⟩) := by rw [hA2]; exact c4_new _ _ _ _ _ _
    rw [hsA] at this
    exact this.below hb2
  have k2 : C4 W (w.heap.size + 1 + 1) (.bool dir) (.slice none 0 0) (.slice none 0 0) (.string dat) := by
    have : C4 W A2.heap.size (.bool dir) (.slice none 0 0) (.slice none 0 0) (.string dat) := by rw [hW]; exact c4_new _ _ _ _ _ _
    rw [hsA2] at this
    exact this
  have hbW : Below w.heap.size w W := after (after hb0 hb1) hb2
  have hO : OutN W (w.heap.size + 1 + 1 + 1) (w.heap.size + 1 + 1) dir (.slice none 0 0) [] (.slice none 0 0) [] dat := ⟨by omega, by omega, k2, World.ownsRow_nil _ _ _ _, World.ownsRow_nil _ _ _ _⟩
  obtain ⟨K, hK⟩ : ∃ K, K = ns.zip ks := ⟨_, rfl⟩
  have hKl : K.length = min ns.length ks.length := by rw [hK]; simp
  obtain ⟨Z, hZ⟩ : ∃ Z, Z = firstAt (isName name) K := ⟨_, rfl⟩
  obtain ⟨D, hD⟩ : ∃ D, D = dropK K name := ⟨_, rfl⟩
  have HAT : Hid (Calls Try.prog 13 #[.agg #[.bool dir, .slice a ns.length c, .slice b ks.length d, .string dat], .string name] W fun e w' => e = .returned (.int .i64 Z) ∧ Below W.heap.size W w') := by rw [hZ, hK]; exact specL8At_any dir a b ns ks dat name c d W (hp.below hbW) hl hm
  rw [← hK, ← hD]
  have HD : Hid (skipI K Z K.length = D) := by rw [hZ, hD]; exact skipI_full K name
  have hZb : -9223372036854775808 ≤ Z ∧ Z ≤ 9223372036854775807 := by
    rw [hZ]
    rcases firstAt_cases (isName name) K with ⟨hf, -⟩ | ⟨k, x, hf, hk, -⟩
    · omega
    · omega
  have HP := hide hp
  have HQ := hide hw
  have HKZ := hide hK
  have HKL := hide hKl
  have HW : Hid (Below w.heap.size w W) := hbW
  have HA := hide (And.intro hA (And.intro hA2 hW))
  have HSW := hide hsW
  have HK0 := hide k0
  have HK1 := hide k1
  have HO := hide hO
  clear hp hw hA hA2 hW hsA hsA2 hb0 hb1 hb2 k0 k1 k2 hO hbW hK hKl hZ hD hsW
  go_enter Try.func5, Try.ntmps5
  go_wp2_with fail
  rw [← HA.out.1]
  rw [← HA.out.2.1]
  rw [← HA.out.2.2]
  clear HA
  refine HAT.out.mono ?_
  rintro e w1 ⟨rfl, hbx⟩
  have HST : Hid (∃ v1 v2, OutN w1 (w.heap.size + 1 + 1 + 1) (w.heap.size + 1 + 1) dir v1 ((skipI K Z 0).map Prod.fst) v2 ((skipI K Z 0).map Prod.snd) dat) := ⟨_, _, by simpa [skipI_zero] using HO.out.below hbx⟩
  have HBX : Hid (Below (w.heap.size + 1 + 1) W w1) := hbx.mono (by have := HSW.out; omega)
  clear hbx HAT HO
  go_wp2_with fail
  go_loopw [7] (fun i wr => ∃ k : Nat, k ≤ K.length ∧ i = .int .i64 k ∧ Hid (∃ v1 v2, OutN wr (w.heap.size + 1 + 1 + 1) (w.heap.size + 1 + 1) dir v1 ((skipI K Z k).map Prod.fst) v2 ((skipI K Z k).map Prod.snd) dat) ∧ Hid (Below (w.heap.size + 1 + 1) W wr)) (fun i _ => K.length - (intOf i).toNat)
  case atStart => exact ⟨0, Nat.zero_le _, rfl, HST, HBX⟩
  case round =>
    obtain ⟨k, hk, rfl, hout, hbel⟩ := hrel
    clear HST HBX
    obtain ⟨v1, v2, hO⟩ := hout.out
    have hbw : Below w.heap.size w wr := HW.out.trans (hbel.out.mono (by omega))
    have hbl := hbel.out
    have m1 : wr.cell? ⟨w.heap.size, 1, none⟩ = some (.slice a ns.length c) := (hbl.cell (p := ⟨w.heap.size, 1, none⟩) (by show _ < _; simp; omega)).trans HK0.out.1.2.1
    have m2 : wr.cell? ⟨w.heap.size, 2, none⟩ = some (.slice b ks.length d) := (hbl.cell (p := ⟨w.heap.size, 2, none⟩) (by show _ < _; simp; omega)).trans HK0.out.1.2.2.1
    by_cases hlt : k < K.length
    · have hkn : k < ns.length := by have := HKL.out; omega
      have hkk : k < ks.length := by have := HKL.out; omega
      have hki1 : (k : Int) < (ns.length : Int) := by omega
      have hki2 : (k : Int) < (ks.length : Int) := by omega
      obtain ⟨b1, o1, s, ha1, h0, HX⟩ := rdString_at (HP.out.below hbw) hkn
      subst ha1
      obtain ⟨b2, o2, z, hb2, h1, HY⟩ := rdInt_at (HQ.out.below hbw) hkk
      subst hb2
      have hz : K[k]? = some (s, z) := by rw [HKZ.out]; exact notYet_zip HX.out HY.out
      by_cases hkZ : (k : Int) = Z
      · have hne : ((k : Int) != Z) = false := by rw [hkZ]; simp
        have HN : Hid (∃ v1 v2, OutN wr (w.heap.size + 1 + 1 + 1) (w.heap.size + 1 + 1) dir v1 ((skipI K Z (k + 1)).map Prod.fst) v2 ((skipI K Z (k + 1)).map Prod.snd) dat) := by
          rw [skipI_off hz hkZ]; exact hout.out
        clear hO hout hz h0 h1 hbl hbw hkZ
        go_wp2
        go_roundw
        case rel => exact ⟨k + 1, by omega, by go_num, HN, hbel⟩
        case measure => simp [intOf]; omega
      · have hne : ((k : Int) != Z) = true := by simp [hkZ]
        have HSK : Hid (skipI K Z (k + 1) = skipI K Z k ++ [(s, z)]) := skipI_on hz hkZ
        obtain ⟨L1, hL1⟩ : ∃ L, L = (skipI K Z k).map Prod.fst := ⟨_, rfl⟩
        obtain ⟨L2, hL2⟩ : ∃ L, L = (skipI K Z k).map Prod.snd := ⟨_, rfl⟩
        rw [← hL1, ← hL2] at hO
        have hlen1 : L1.length ≤ k := by rw [hL1, List.length_map]; exact skipI_len K Z k
        have hlen2 : L2.length ≤ k := by rw [hL2, List.length_map]; exact skipI_len K Z k
        have HLL := hide (And.intro hL1 hL2)
        have HB1 : Hid (b1 < w.heap.size ∧ b2 < w.heap.size) := by
          obtain ⟨b', o', x', e', h', -⟩ := rdString_at HP.out hkn
          injection e' with e'; injection e' with e1 e2
          obtain ⟨b'', o'', x'', e'', h'', -⟩ := rdInt_at HQ.out hkk
          injection e'' with e''; injection e'' with e3 e4
          have := lt_of_cell h'; have := lt_of_cell h''; exact ⟨by omega, by omega⟩
        obtain ⟨x1, y1, hv1⟩ := owns_shape hO.2.2.2.1
        subst hv1
        obtain ⟨⟨p0, p1, p2, p3⟩, pf⟩ := hO.2.2.1
        have pf1 := pf 1
        have HOD : Hid (OutN wr.drew (w.heap.size + 1 + 1 + 1) (w.heap.size + 1 + 1) dir (.slice x1 L1.length y1) L1 v2 L2 dat) := hO.below (after_drew (Below.refl _ _) 1)
        have hown1 := HOD.out.2.2.2.1
        have HOWN := hide hown1
        have hbase : w.heap.size + 1 + 1 + 1 ≤ wr.drew.heap.size := HOD.out.2.1
        have HBD : Hid (Below (w.heap.size + 1 + 1) W wr.drew) := hbel.out.drew
        have HCELLS : Hid (∀ u, Below (w.heap.size + 1 + 1) wr u → u.cell? ⟨w.heap.size, 1, none⟩ = some (.slice (some ⟨b1, o1, none⟩) ns.length c) ∧ u.cell? ⟨w.heap.size, 2, none⟩ = some (.slice (some ⟨b2, o2, none⟩) ks.length d) ∧ u.cell? ⟨b1, o1 + k, none⟩ = some (.string s) ∧ u.cell? ⟨b2, o2 + k, none⟩ = some (.int .i64 z)) := fun u hu => ⟨(hu.cell (p := ⟨w.heap.size, 1, none⟩) (by show _ < _; simp; omega)).trans m1, (hu.cell (p := ⟨w.heap.size, 2, none⟩) (by show _ < _; simp; omega)).trans m2, (hu.cell (p := ⟨b1, o1 + k, none⟩) (by show _ < _; have := HB1.out; simp; omega)).trans h0, (hu.cell (p := ⟨b2, o2 + k, none⟩) (by show _ < _; have := HB1.out; simp; omega)).trans h1⟩
        have HBEL := hide hbel.out
        have hfar : w.heap.size + 1 + 1 < wr.heap.size := hO.2.2.1.lt
        have hfar1 : w.heap.size + 1 < wr.heap.size := by omega
        have hfar0 : w.heap.size < wr.heap.size := by omega
        clear hO hout hz hbl hbw hkZ hL1 hL2 pf hown1 h1 hbel p0 p2 p3
        go_wp2_with fail
        go_cut [] from 16 to 52 (fun wx => Hid (∃ x1' y1', OutN wx (w.heap.size + 1 + 1 + 1) (w.heap.size + 1 + 1) dir (.slice x1' (L1.length + 1) y1') (L1 ++ [s]) v2 L2 dat) ∧ Hid (Below (w.heap.size + 1 + 1) wr wx))
        case first =>
          go_region_law ((refine step_append_one_g (w0 := wr.drew) rfl (.tmp 34) (.tmp 40) 22 rfl (w.heap.size + 1 + 1 + 1) 9 i1 (.string ⟨#[]⟩) 16 Try.underlying22 hi1 hy0 hy1 hy2 rfl _ _ _ (.string s) (by rfl) HOWN.out rfl (by rfl) (by omega) (by omega) hbase rfl ?_; intro v1' u2 ho hg; obtain ⟨x1', y1', hv1'⟩ := owns_shape ho; subst hv1'; obtain ⟨⟨⟨q0, q1, q2, q3⟩, qf⟩, HO2, HB2, -, -⟩ := HOD.out.app1 hg ho; have qf1 := qf 1; have HO3 := hide HO2; have HB3 := hide HB2; clear ho hg HO2 HB2 qf q0 q2 q3))
          all_goals
            go_wp2_with fail
            go_meet
            exact ⟨⟨_, _, HO3.out⟩, ((Below.refl (w.heap.size + 1 + 1) wr).drew).trans HB3.out⟩
        case rest =>
        obtain ⟨hoA, hbA⟩ := hcut
        obtain ⟨xa, ya, hOA⟩ := hoA.out
        obtain ⟨x2, y2, hv2⟩ := owns_shape hOA.2.2.2.2
        subst hv2
        obtain ⟨c1, c2, c3, c4⟩ := HCELLS.out wc hbA.out
        clear p1 pf1 m1 m2 h0 hbase HOWN HOD HBD
        obtain ⟨⟨p0, p1, p2, p3⟩, pf⟩ := hOA.2.2.1
        have pf2 := pf 2
        have HOD : Hid (OutN wc.drew (w.heap.size + 1 + 1 + 1) (w.heap.size + 1 + 1) dir (.slice xa (L1.length + 1) ya) (L1 ++ [s]) (.slice x2 L2.length y2) L2 dat) := hOA.below (after_drew (Below.refl _ _) 1)
        have HOWN := hide HOD.out.2.2.2.2
        have hbase : w.heap.size + 1 + 1 + 1 ≤ wc.drew.heap.size := HOD.out.2.1
        have hfar' : w.heap.size + 1 + 1 < wc.heap.size := hOA.2.2.1.lt
        have hfar1' : w.heap.size + 1 < wc.heap.size := by omega
        have hfar0' : w.heap.size < wc.heap.size := by omega
        clear hOA hoA pf p0 p1 p3 c1 c3 hfar hfar1 hfar0
        go_wp2_with fail
        go_region_law ((refine step_append_one_g (w0 := wc.drew) rfl (.tmp 44) (.tmp 50) 23 rfl (w.heap.size + 1 + 1 + 1) 3 i2 (.int .i64 0) 8 Try.underlying23 hi2 hz0 hz1 hz2 rfl _ _ _ (.int .i64 z) (by rfl) HOWN.out rfl (by rfl) (by omega) (by omega) hbase rfl ?_; intro v1' u2 ho hg; obtain ⟨x1', y1', hv1'⟩ := owns_shape ho; subst hv1'; obtain ⟨⟨⟨q0, q1, q2, q3⟩, qf⟩, HO2, HB2, -, -⟩ := HOD.out.app2 hg ho; have qf2 := qf 2; have HO3 := hide HO2; have HB3 := hide HB2; clear ho hg HO2 HB2 qf q0 q1 q3))
        all_goals
          have HN : Hid (∃ v1 v2, OutN (u2.setCell ⟨w.heap.size + 1 + 1, 2, none⟩ (.slice x1' (L2.length + 1) y1')) (w.heap.size + 1 + 1 + 1) (w.heap.size + 1 + 1) dir v1 ((skipI K Z (k + 1)).map Prod.fst) v2 ((skipI K Z (k + 1)).map Prod.snd) dat) := by
            have e1 : (skipI K Z (k + 1)).map Prod.fst = L1 ++ [s] := by rw [HSK.out, HLL.out.1]; simp
            have e2 : (skipI K Z (k + 1)).map Prod.snd = L2 ++ [z] := by rw [HSK.out, HLL.out.2]; simp
            rw [e1, e2]
            exact ⟨_, _, HO3.out⟩
          have HBN : Hid (Below (w.heap.size + 1 + 1) W (u2.setCell ⟨w.heap.size + 1 + 1, 2, none⟩ (.slice x1' (L2.length + 1) y1'))) := (HBEL.out.trans hbA.out).trans (((Below.refl (w.heap.size + 1 + 1) wc).drew).trans HB3.out)
          clear hbA c2 c4 hbase HO3 HB3
          go_wp2
          go_roundw
          case rel => exact ⟨k + 1, by omega, by go_num, HN, HBN⟩
          case measure => simp [intOf]; omega
    · have hkl : k = K.length := by omega
      rw [hkl, HD.out] at hO
      have kr : C4 wr (w.heap.size + 1) (.bool false) (.slice none 0 0) (.slice none 0 0) (.string ⟨#[]⟩) := by
        have := HK1.out
        exact ⟨⟨(hbl.cell (p := ⟨w.heap.size + 1, 0, none⟩) (by show _ < _; simp)).trans this.1.1, (hbl.cell (p := ⟨w.heap.size + 1, 1, none⟩) (by show _ < _; simp)).trans this.1.2.1, (hbl.cell (p := ⟨w.heap.size + 1, 2, none⟩) (by show _ < _; simp)).trans this.1.2.2.1, (hbl.cell (p := ⟨w.heap.size + 1, 3, none⟩) (by show _ < _; simp)).trans this.1.2.2.2⟩, fun j => (hbl.frozen (p := ⟨w.heap.size + 1, j, none⟩) (by show _ < _; simp)).trans (this.2 j)⟩
      obtain ⟨x1, y1, hv1⟩ := owns_shape hO.2.2.2.1
      subst hv1
      obtain ⟨x2, y2, hv2⟩ := owns_shape hO.2.2.2.2
      subst hv2
      obtain ⟨⟨p0, p1, p2, p3⟩, pf⟩ := hO.2.2.1
      obtain ⟨⟨r0, r1, r2, r3⟩, rf⟩ := id kr
      have rf0 := rf 0
      have rf1 := rf 1
      have rf2 := rf 2
      have rf3 := rf 3
      have hlt2 : w.heap.size + 1 < wr.heap.size := kr.lt
      have HBF := hide hbw
      have HFR := hide hO
      have hmin := HKL.out
      by_cases hkn : k < ns.length
      · have hki1 : (k : Int) < (ns.length : Int) := by omega
        have hki2 : ¬ (k : Int) < (ks.length : Int) := by omega
        have hki3 : decide ((k : Int) < (ks.length : Int)) = false := decide_eq_false hki2
        clear hO hout hbel pf rf kr hbw hkl hbl hmin
        go_wp2
        refine bodyPost_ret (v := .agg #[.bool dir, .slice x1 (D.map Prod.fst).length y1, .slice x2 (D.map Prod.snd).length y2, .string dat]) (by simp [results, Try.results5, go_sem, r0, r1, r2, r3]) rfl ⟨_, rfl, ?_, ?_⟩
        · obtain ⟨-, -, -, h4, h5⟩ := HFR.out
          have hp : w.heap.size + 1 < w.heap.size + 1 + 1 + 1 := by omega
          exact ⟨_, _, rfl, owns_mono (ftlRows_set (ftlRows_set (ftlRows_set (ftlRows_set h4 hp _) hp _) hp _) hp _) (by omega), owns_mono (ftlRows_set (ftlRows_set (ftlRows_set (ftlRows_set h5 hp _) hp _) hp _) hp _) (by omega), fun k hk => kinds_apart h4 h5 (by decide) k hk⟩
        · exact set_below (set_below (set_below (set_below HBF.out (Nat.le_succ _)) (Nat.le_succ _)) (Nat.le_succ _)) (Nat.le_succ _)
      · have hki1 : ¬ (k : Int) < (ns.length : Int) := by omega
        have hki3 : decide ((k : Int) < (ns.length : Int)) = false := decide_eq_false hki1
        clear hO hout hbel pf rf kr hbw hkl hbl hmin
        go_wp2
        refine bodyPost_ret (v := .agg #[.bool dir, .slice x1 (D.map Prod.fst).length y1, .slice x2 (D.map Prod.snd).length y2, .string dat]) (by simp [results, Try.results5, go_sem, r0, r1, r2, r3]) rfl ⟨_, rfl, ?_, ?_⟩
        · obtain ⟨-, -, -, h4, h5⟩ := HFR.out
          have hp : w.heap.size + 1 < w.heap.size + 1 + 1 + 1 := by omega
          exact ⟨_, _, rfl, owns_mono (ftlRows_set (ftlRows_set (ftlRows_set (ftlRows_set h4 hp _) hp _) hp _) hp _) (by omega), owns_mono (ftlRows_set (ftlRows_set (ftlRows_set (ftlRows_set h5 hp _) hp _) hp _) hp _) (by omega), fun k hk => kinds_apart h4 h5 (by decide) k hk⟩
        · exact set_below (set_below (set_below (set_below HBF.out (Nat.le_succ _)) (Nat.le_succ _)) (Nat.le_succ _)) (Nat.le_succ _)
end Go.Proofs.Ytmolhhljodlhaab
