/-
  Contract of the program's withKids.
-/
import Derived.Test.YtmolhhljodlhaaaNodeOut
import Derived.Test.YtmolhhljodlhaaaHelpString
import Derived.Test.YtmolhhljodlhaaaBodyMath
namespace Go.Proofs.Ytmolhhljodlhaaa
open Go.RowKit Go.Deep
set_option maxRecDepth 100000
set_option linter.unusedVariables false

set_option maxHeartbeats 6400000 in
theorem withKids_any (dir : Bool) (a b a3 : Option Addr) (n m c d c3 : Nat) (dat : ByteArray) (K : List (ByteArray × Int)) (w : World) (hr : Rd w a3 (vsKid K)) (hl : K.length ≤ 2097152) :
    Calls Try.prog 47 #[.agg #[.bool dir, .slice a n c, .slice b m d, .string dat], .slice a3 K.length c3] w fun e w' => ∃ v, e = .returned v ∧ NodeOwn w' w.heap.size v dir (K.map Prod.fst) (K.map Prod.snd) dat ∧ Below w.heap.size w w' := by
  obtain ⟨i1, hi1, hy0, hy1, hy2⟩ := info_parts infoString
  obtain ⟨i2, hi2, hz0, hz1, hz2⟩ := info_parts infoInt
  obtain ⟨A, hA⟩ : ∃ A, A = w.alloc (Obj.cells #[.bool dir, .slice a n c, .slice b m d, .string dat] 29) := ⟨_, rfl⟩
  obtain ⟨A2, hA2⟩ : ∃ A2, A2 = A.alloc (Obj.cells #[.bool false, .slice none 0 0, .slice none 0 0, .string ⟨#[]⟩] 29) := ⟨_, rfl⟩
  obtain ⟨W, hW⟩ : ∃ W, W = A2.alloc (Obj.cells #[.bool dir, .slice none 0 0, .slice none 0 0, .string dat] 29) := ⟨_, rfl⟩
  have hsA : A.heap.size = w.heap.size + 1 := by rw [hA]; simp
  have hsA2 : A2.heap.size = w.heap.size + 1 + 1 := by rw [hA2]; simp [hsA]
  have hsW : W.heap.size = w.heap.size + 1 + 1 + 1 := by rw [hW]; simp [hsA2]
  have hb0 : Below w.heap.size w A := by rw [hA]; exact (Below.refl _ _).alloc (Nat.le_refl _) _
  have hb1 : Below A.heap.size A A2 := by rw [hA2]; exact (Below.refl _ _).alloc (Nat.le_refl _) _
  have hb2 : Below A2.heap.size A2 W := by rw [hW]; exact (Below.refl _ _).alloc (Nat.le_refl _) _
  have k1 : C4 W (w.heap.size + 1) (.bool false) (.slice none 0 0) (.slice none 0 0) (.string ⟨#[]⟩) := by
    have : C4 A2 A.heap.size (.bool false) (.slice none 0 0) (.slice none 0 0) (.string ⟨#[]⟩) := by rw [hA2]; exact c4_new _ _ _ _ _ _
    rw [hsA] at this
    exact this.below hb2
  have k2 : C4 W (w.heap.size + 1 + 1) (.bool dir) (.slice none 0 0) (.slice none 0 0) (.string dat) := by
    have : C4 W A2.heap.size (.bool dir) (.slice none 0 0) (.slice none 0 0) (.string dat) := by rw [hW]; exact c4_new _ _ _ _ _ _
    rw [hsA2] at this
    exact this
  have hbW : Below w.heap.size w W := after (after hb0 hb1) hb2
  have hO : OutN W (w.heap.size + 1 + 1 + 1) (w.heap.size + 1 + 1) dir (.slice none 0 0) [] (.slice none 0 0) [] dat := ⟨by omega, by omega, k2, World.ownsRow_nil _ _ _ _, World.ownsRow_nil _ _ _ _⟩
  have HR := hide hr
  have HW : Hid (Below w.heap.size w W) := hbW
  have HA := hide (And.intro hA (And.intro hA2 hW))
  have HST : Hid (∃ v1 v2, OutN W (w.heap.size + 1 + 1 + 1) (w.heap.size + 1 + 1) dir v1 ((K.take 0).map Prod.fst) v2 ((K.take 0).map Prod.snd) dat) := ⟨_, _, by simpa using hO⟩
  have HK1 := hide k1
  clear hA hA2 hW hsA hsA2 hb0 hb1 hb2 hr k1 k2 hO hbW
  go_enter Try.func47, Try.ntmps47
  go_wp2_with fail
  rw [← HA.out.1]
  rw [← HA.out.2.1]
  rw [← HA.out.2.2]
  clear HA
  go_loopw [15] (fun i wr => ∃ k : Nat, k ≤ K.length ∧ i = .int .i64 k ∧ Hid (∃ v1 v2, OutN wr (w.heap.size + 1 + 1 + 1) (w.heap.size + 1 + 1) dir v1 ((K.take k).map Prod.fst) v2 ((K.take k).map Prod.snd) dat) ∧ Hid (Below (w.heap.size + 1 + 1) W wr)) (fun i _ => K.length - (intOf i).toNat)
  case atStart => exact ⟨0, Nat.zero_le _, rfl, HST, Below.refl _ _⟩
  case round =>
    obtain ⟨k, hk, rfl, hout, hbel⟩ := hrel
    clear HST
    obtain ⟨v1, v2, hO⟩ := hout.out
    have hbw : Below w.heap.size w wr := HW.out.trans (hbel.out.mono (by omega))
    have kr : C4 wr (w.heap.size + 1) (.bool false) (.slice none 0 0) (.slice none 0 0) (.string ⟨#[]⟩) := by
      have := HK1.out
      have hb := hbel.out
      exact ⟨⟨(hb.cell (p := ⟨w.heap.size + 1, 0, none⟩) (by show _ < _; simp)).trans this.1.1, (hb.cell (p := ⟨w.heap.size + 1, 1, none⟩) (by show _ < _; simp)).trans this.1.2.1, (hb.cell (p := ⟨w.heap.size + 1, 2, none⟩) (by show _ < _; simp)).trans this.1.2.2.1, (hb.cell (p := ⟨w.heap.size + 1, 3, none⟩) (by show _ < _; simp)).trans this.1.2.2.2⟩, fun j => (hb.frozen (p := ⟨w.heap.size + 1, j, none⟩) (by show _ < _; simp)).trans (this.2 j)⟩
    by_cases hlt : k < K.length
    · have hki : (k : Int) < (K.length : Int) := by omega
      obtain ⟨L1, hL1⟩ : ∃ L, L = (K.take k).map Prod.fst := ⟨_, rfl⟩
      obtain ⟨L2, hL2⟩ : ∃ L, L = (K.take k).map Prod.snd := ⟨_, rfl⟩
      rw [← hL1, ← hL2] at hO
      obtain ⟨b1, o1, x, rfl, h0, h1, HX⟩ := rdKid_at (HR.out.below hbw) hlt
      obtain ⟨s, z⟩ := x
      obtain ⟨V, hV⟩ : ∃ V, V = wr.alloc (Obj.cells #[.string s, .int .i64 z] 62) := ⟨_, rfl⟩
      have hbV : Below wr.heap.size wr V := by rw [hV]; exact (Below.refl _ _).alloc (Nat.le_refl _) _
      have hVs : V.heap.size = wr.heap.size + 1 := by rw [hV]; simp
      have e0 : V.cell? ⟨wr.heap.size, 0, none⟩ = some (.string s) := by rw [hV]; simp
      have e1 : V.cell? ⟨wr.heap.size, 1, none⟩ = some (.int .i64 z) := by rw [hV]; simp
      have hOV := hO.below hbV
      obtain ⟨⟨p0, p1, p2, p3⟩, pf⟩ := hO.2.2.1
      have hown1 := hOV.2.2.2.1
      have hbase := hOV.2.1
      have HOV := hide hOV
      have HBV : Hid (Below (w.heap.size + 1 + 1) W V) := hbel.out.trans (hbV.mono (by have := hO.2.1; omega))
      have hlen1 : L1.length = k := by rw [hL1]; simp; omega
      have hlen2 : L2.length = k := by rw [hL2]; simp; omega
      have HLL := hide (And.intro hL1 hL2)
      have HL := hide (And.intro hlen1 hlen2)
      have HVS := hide hVs
      have hfar : w.heap.size + 1 + 1 < wr.heap.size := by have := hO.2.1; omega
      have HO0 := hide hO
      clear hO hout hOV hbV hlen1 hlen2 hL1 hL2 hVs kr pf hbel hbw
      have HF1 := hide (fun e => (HO0.out.2.2.2.1.lt wr.heap.size e).2)
      have HE1 : Hid ((V.alloc (.cells #[.string s] 9)).cell? ⟨wr.heap.size, 1, none⟩ = some (.int .i64 z)) := (((Below.refl _ _).alloc (Nat.le_refl _) _ : Below V.heap.size V (V.alloc (.cells #[.string s] 9))).cell (p := ⟨wr.heap.size, 1, none⟩) (lt_of_cell e1)).trans e1
      clear HO0
      go_wp2_with (first
        | (at_builtin; rw [← hV]; refine wpList_append_one_g rfl _ _ 23 rfl (w.heap.size + 1 + 1 + 1) 9 i1 (.string ⟨#[]⟩) 16 Try.underlying23 hi1 hy0 hy1 hy2 rfl _ _ _ (.string s) rfl hown1 rfl (by show Value.slice _ _ _ = _; rw [HVS.out]) (by rw [HL.out.1]; omega) (by rw [HL.out.1]; omega) hbase rfl ?_; intro v1' u2 ho hg; obtain ⟨x1, y1, hv1'⟩ := owns_shape ho; subst hv1'; have g1 := cell_grown hg HE1.out (fun e => absurd (HF1.out e) (Nat.lt_irrefl _)); obtain ⟨⟨⟨q0, q1, q2, q3⟩, qf⟩, HO2, HB2, hss, hlt2⟩ := HOV.out.app1 hg ho; have qf1 := qf 1; have qf2 := qf 2; obtain ⟨U, hU⟩ : ∃ U, U = u2.setCell ⟨w.heap.size + 1 + 1, 1, none⟩ (.slice x1 (L1.length + 1) y1) := ⟨_, rfl⟩; rw [← hU] at HO2 HB2 hss; have HSS := hide hss; have HOU := hide HO2; have hownU := HO2.2.2.2.2; have hbU := HO2.2.1; have HBU := hide (HBV.out.trans HB2); clear hV e0 e1 hown1 p0 p1 p2 p3 h0 h1 HE1 hg ho HO2 HB2 hss qf hbase)
        | (at_builtin; rw [← hU]; refine wpList_append_one_g rfl _ _ 24 rfl (w.heap.size + 1 + 1 + 1) 3 i2 (.int .i64 0) 8 Try.underlying24 hi2 hz0 hz1 hz2 rfl _ _ _ (.int .i64 z) rfl hownU rfl (by show Value.slice _ _ _ = _; rw [HSS.out]) (by rw [HL.out.2]; omega) (by rw [HL.out.2]; omega) hbU rfl ?_; intro v2' u3 ho hg; obtain ⟨x2, y2, hv2'⟩ := owns_shape ho; subst hv2'; obtain ⟨⟨⟨r0, r1, r2, r3⟩, rf⟩, HO3, HB3, hss3, hlt3⟩ := HOU.out.app2 hg ho; have rf2 := rf 2; have HOF := hide HO3; have HBF := hide (HBU.out.trans HB3); clear hU q0 q1 q2 q3 qf1 qf2 hownU hbU hg ho HO3 HB3 hss3 rf HOU HOV HBV HBU g1))
      have HN : Hid (∃ v1 v2, OutN (u3.setCell ⟨w.heap.size + 1 + 1, 2, none⟩ (.slice x2 (L2.length + 1) y2)) (w.heap.size + 1 + 1 + 1) (w.heap.size + 1 + 1) dir v1 ((K.take (k + 1)).map Prod.fst) v2 ((K.take (k + 1)).map Prod.snd) dat) := by
        have e1 : (K.take (k + 1)).map Prod.fst = L1 ++ [s] := by rw [List.take_add_one, HX.out, HLL.out.1]; simp
        have e2 : (K.take (k + 1)).map Prod.snd = L2 ++ [z] := by rw [List.take_add_one, HX.out, HLL.out.2]; simp
        rw [e1, e2]
        exact ⟨_, _, HOF.out⟩
      clear HOF
      go_wp2
      go_roundw
      case rel => exact ⟨k + 1, by omega, by go_num, HN, HBF⟩
      case measure => simp [intOf]; omega
    · have hkl : k = K.length := by omega
      rw [hkl, List.take_length] at hO
      obtain ⟨x1, y1, hv1⟩ := owns_shape hO.2.2.2.1
      subst hv1
      obtain ⟨x2, y2, hv2⟩ := owns_shape hO.2.2.2.2
      subst hv2
      obtain ⟨⟨p0, p1, p2, p3⟩, pf⟩ := hO.2.2.1
      obtain ⟨⟨r0, r1, r2, r3⟩, rf⟩ := id kr
      have rf0 := rf 0
      have rf1 := rf 1
      have rf2 := rf 2
      have rf3 := rf 3
      have HNO := hide (hO.own (b := w.heap.size) (by omega))
      have hlt2 : w.heap.size + 1 < wr.heap.size := kr.lt
      have HBF := hide hbw
      have HFR := hide hO
      clear hO hout hbel pf rf kr hbw hkl
      go_wp2
      refine bodyPost_ret (v := .agg #[.bool dir, .slice x1 (K.map Prod.fst).length y1, .slice x2 (K.map Prod.snd).length y2, .string dat]) (by simp [results, Try.results47, go_sem, r0, r1, r2, r3]) rfl ⟨_, rfl, ?_, ?_⟩
      · obtain ⟨-, -, -, h4, h5⟩ := HFR.out
        have hp : w.heap.size + 1 < w.heap.size + 1 + 1 + 1 := by omega
        exact ⟨_, _, rfl, owns_mono (ftlRows_set (ftlRows_set (ftlRows_set (ftlRows_set h4 hp _) hp _) hp _) hp _) (by omega), owns_mono (ftlRows_set (ftlRows_set (ftlRows_set (ftlRows_set h5 hp _) hp _) hp _) hp _) (by omega), fun k hk => kinds_apart h4 h5 (by decide) k hk⟩
      · exact set_below (set_below (set_below (set_below HBF.out (Nat.le_succ _)) (Nat.le_succ _)) (Nat.le_succ _)) (Nat.le_succ _)
end Go.Proofs.Ytmolhhljodlhaaa
