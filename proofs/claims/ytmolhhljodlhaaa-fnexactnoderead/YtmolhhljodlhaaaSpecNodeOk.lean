/-
  Contract of the specification's NodeOk.
-/
import Derived.Test.YtmolhhljodlhaaaNodeKit
import Derived.Test.YtmolhhljodlhaaaNodeMath
import Derived.BigQuiet
import Derived.Deep.QuietTactic
namespace Go.Proofs.Ytmolhhljodlhaaa
open Go.RowKit Go.Deep
set_option maxRecDepth 100000
set_option linter.unusedVariables false

theorem lastK_zip {ns : List ByteArray} {ks : List Int} {k : Nat} {p : ByteArray} (hl : ns.length = ks.length) (hk : k < ns.length) (h0 : 0 < k) (h : ns[k - 1]? = some p) : lastK (ns.zip ks) k = p := by
  have hk1 : k - 1 < ks.length := by omega
  have : (ns.zip ks)[k - 1]? = some (p, ks[k - 1]) := by rw [List.getElem?_zip_eq_some]; exact ⟨h, List.getElem?_eq_getElem hk1⟩
  unfold lastK
  rw [if_neg (by omega), this]; rfl
theorem metZ_zip {ns : List ByteArray} {ks : List Int} {k : Nat} {z : Int} (hl : ns.length = ks.length) : metZ (ns.zip ks) k z = (ks.take k).any (fun y => y == z) := by
  unfold metZ
  induction k generalizing ns ks with
  | zero => rfl
  | succ k ih =>
    cases ns with
    | nil => cases ks with
      | nil => rfl
      | cons y ys => simp at hl
    | cons x xs => cases ks with
      | nil => simp at hl
      | cons y ys =>
        simp only [List.take_succ_cons, List.zip_cons_cons, List.any_cons]
        rw [ih (by simpa using hl)]

set_option maxHeartbeats 6400000 in
theorem specNodeOk_any (dir : Bool) (a b : Option Addr) (ns : List ByteArray) (ks : List Int) (dat : ByteArray) (c d : Nat) (w : World) (hp : Rd w a (vsString ns)) (hw : Rd w b (vsInt ks)) (hl : ns.length ≤ 1048576) (hm : ks.length ≤ 1048576) (hs : ∀ s ∈ ns, s.size ≤ 1048576) (hd : dat.size ≤ 1048576) :
    Calls Try.prog 12 #[.agg #[.bool dir, .slice a ns.length c, .slice b ks.length d, .string dat]] w fun e w' => e = .returned (.bool (nodeB dir ns ks dat)) ∧ Below w.heap.size w w' := by
  obtain ⟨W, hW⟩ : ∃ W, W = w.alloc (Obj.cells #[.bool dir, .slice a ns.length c, .slice b ks.length d, .string dat] 29) := ⟨_, rfl⟩
  have hbW : Below w.heap.size w W := by rw [hW]; exact (Below.refl _ _).alloc (Nat.le_refl _) _
  have k0 : At W w.heap.size [.bool dir, .slice a ns.length c, .slice b ks.length d, .string dat] := by rw [hW]; exact at_new w [_, _, _, _] _
  have HP := hide (hp.below hbW)
  have HQ := hide (hw.below hbW)
  have HW := hide hW
  have HB := hide hbW
  have HS := hide hs
  have HK := hide k0
  clear hp hw hs k0 hW hbW
  cases dir with
  | false =>
    by_cases hA : ((ns.length : Int) + (ks.length : Int)) = 0
    · have hA' : (((ns.length : Int) + (ks.length : Int)) == 0) = true := by rw [beq_iff_eq]; exact hA
      have HF : Hid (nodeB false ns ks dat = decide ((dat.size : Int) ≤ 60)) := by
        show _ = _
        unfold nodeB
        have h1 : ns.length = 0 := by omega
        have h2 : ks.length = 0 := by omega
        simp only [h1, h2, decide_true, Bool.true_and, Bool.false_eq_true, if_false]
        rw [decide_eq_decide]; omega
      clear hA
      go_enter Try.func12, Try.ntmps12
      go_wp2
      go_ret
      exact ⟨by rw [HF.out]; rfl, HW.out ▸ HB.out⟩
    · have hA' : (((ns.length : Int) + (ks.length : Int)) == 0) = false := by rw [beq_eq_false_iff_ne]; exact hA
      have HF : Hid (nodeB false ns ks dat = false) := by
        show _ = _
        unfold nodeB
        by_cases h1 : ns.length = 0
        · have h2 : ¬ ks.length = 0 := by omega
          simp only [h2, decide_false, Bool.and_false, Bool.false_and]; rfl
        · simp only [h1, decide_false, Bool.false_and]; rfl
      clear hA
      go_enter Try.func12, Try.ntmps12
      go_wp2
      go_ret
      exact ⟨by rw [HF.out]; rfl, HW.out ▸ HB.out⟩
  | true =>
    by_cases hn : ns.length = ks.length
    case neg =>
      have hn' : ((ns.length : Int) == (ks.length : Int)) = false := by rw [beq_eq_false_iff_ne]; omega
      have hn2 : ((ns.length : Int) != (ks.length : Int)) = true := by rw [bne, hn']; rfl
      have HF : Hid (nodeB true ns ks dat = false) := by
        show _ = _
        unfold nodeB
        simp only [hn, decide_false, Bool.and_false, Bool.false_and, if_true]
      go_enter Try.func12, Try.ntmps12
      go_wp2
      go_ret
      exact ⟨by rw [HF.out]; rfl, HW.out ▸ HB.out⟩
    by_cases hd0 : dat.size = 0
    case neg =>
      have hn' : ((ns.length : Int) == (ks.length : Int)) = true := by rw [beq_iff_eq]; omega
      have hn2 : ((ns.length : Int) != (ks.length : Int)) = false := by rw [bne, hn']; rfl
      have he := list_some hd0
      have he2 : dat.toList.isEmpty = false := by simpa using he
      have HF : Hid (nodeB true ns ks dat = false) := by
        show _ = _
        unfold nodeB
        simp only [hd0, decide_false, Bool.false_and, if_true]
      clear hd0 hn
      go_enter Try.func12, Try.ntmps12
      go_wp2
      go_ret
      exact ⟨by rw [HF.out]; rfl, HW.out ▸ HB.out⟩
    have hn' : ((ns.length : Int) == (ks.length : Int)) = true := by rw [beq_iff_eq]; omega
    have hn2 : ((ns.length : Int) != (ks.length : Int)) = false := by rw [bne, hn']; rfl
    have he := list_none hd0
    have he2 : dat.toList.isEmpty = true := by rw [he]; rfl
    have HF : Hid (nodeB true ns ks dat = fitsB (ns.zip ks)) := by
      show _ = _
      unfold nodeB
      simp only [hn, hd0, decide_true, Bool.true_and, if_true]
    have HN := hide hn
    obtain ⟨K, hK⟩ : ∃ K, K = ns.zip ks := ⟨_, rfl⟩
    have hKl : K.length = ns.length := by rw [hK]; simp; omega
    rw [← hK] at HF
    have HKZ := hide hK
    have HKL := hide hKl
    clear hd0 hn hK hKl
    go_enter Try.func12, Try.ntmps12
    go_wp2_with fail
    rw [← HW.out]
    clear hn' hn2 he he2
    go_loopw [3] (fun i wr => ∃ k : Nat, k ≤ ns.length ∧ i = .int .i64 k ∧ Hid (PreK K k) ∧ Hid (Below W.heap.size W wr)) (fun i _ => ns.length - (intOf i).toNat)
    case atStart => exact ⟨0, Nat.zero_le _, rfl, preK_zero K, Below.refl _ _⟩
    case round =>
      obtain ⟨k, hk, rfl, hpre, hwr⟩ := hrel
      have hbel2 := hwr.out
      have hbel := after HB.out hbel2
      have kk := HK.out.below hbel2
      have c1 : wr.cell? ⟨w.heap.size, 1, none⟩ = some (.slice a ns.length c) := kk.2 1 (by simp)
      have c2 : wr.cell? ⟨w.heap.size, 2, none⟩ = some (.slice b ks.length d) := kk.2 2 (by simp)
      have HBel := hide hbel
      clear kk hbel
      by_cases hlt : k < ns.length
      · have hki : (k : Int) < (ns.length : Int) := by omega
        have hkk : k < ks.length := by have := HN.out; omega
        have hki2 : (k : Int) < (ks.length : Int) := by omega
        obtain ⟨b1, o1, s, ha1, h0, HX⟩ := rdString_at (HP.out.below hbel2) hlt
        subst ha1
        obtain ⟨b2, o2, z, hb2, h1, HY⟩ := rdInt_at (HQ.out.below hbel2) hkk
        subst hb2
        have hz : K[k]? = some (s, z) := by rw [HKZ.out, List.getElem?_zip_eq_some]; exact ⟨HX.out, HY.out⟩
        have HZ := hide hz
        have HG : Hid (goodB K k (s, z) = (nameB s && lessB (lastK K k) s && (decide (1 ≤ z) && decide (z ≤ 11)) && !metZ K k z)) := rfl
        have HC1 : Hid (∀ u, Calls Try.prog 9 #[.string s] u fun e w' => e = .returned (.bool (nameB s)) ∧ w' = u) := fun u => specNameOk_any s (by have := HS.out s (List.mem_of_getElem? HX.out); omega) u
        have HC2 : Hid (∀ u, Calls Try.prog 26 #[.int .i64 z, .int .i64 1, .int .i64 11] u fun e w' => e = .returned (.bool (decide (1 ≤ z ∧ z ≤ 11))) ∧ w' = u) := fun u => in_any z 1 11 u
        clear hz hbel2
        cases hN : nameB s with
        | false =>
          rw [hN] at HC1
          have HFF : Hid (fitsB K = false) := preK_bad HZ.out (by rw [HG.out]; simp [hN])
          go_wp2
          go_quiet ((first | (go_at_call 9; exact Calls.quiet_of_same (HC1.out _)) | (go_at_call 26; exact Calls.quiet_of_same (HC2.out _))))
          go_wp2
          go_ret
          exact ⟨by rw [HF.out, HFF.out]; rfl, after_drew HBel.out _⟩
        | true =>
          rw [hN] at HC1
          by_cases hz : 1 ≤ z ∧ z ≤ 11
          case neg =>
            have hzd : decide (1 ≤ z ∧ z ≤ 11) = false := decide_eq_false hz
            have hzd2 : (decide (1 ≤ z) && decide (z ≤ 11)) = false := by rw [← Bool.decide_and]; exact hzd
            rw [hzd] at HC2
            have HFF : Hid (fitsB K = false) := preK_bad HZ.out (by rw [HG.out]; simp [hzd2])
            clear hzd hz hzd2
            go_wp2
            go_quiet ((first | (go_at_call 9; exact Calls.quiet_of_same (HC1.out _)) | (go_at_call 26; exact Calls.quiet_of_same (HC2.out _))))
            go_wp2
            go_ret
            exact ⟨by rw [HF.out, HFF.out]; rfl, after_drew HBel.out _⟩
          have hzd : decide (1 ≤ z ∧ z ≤ 11) = true := decide_eq_true hz
          have hzd2 : (decide (1 ≤ z) && decide (z ≤ 11)) = true := by rw [← Bool.decide_and]; exact hzd
          rw [hzd] at HC2
          have HZD := hide hzd2
          clear hzd hz hzd2
          by_cases hk0 : k = 0
          · subst hk0
            have hd0 : decide ((0 : Int) < ((0 : Nat) : Int)) = false := rfl
            have hpre2 := hpre
            simp only [Nat.add_zero] at h0 h1
            have HLE : Hid (lessB (lastK K 0) s = true) := lessB_empty (by have := nameB_size hN; omega)
            go_wp2
            go_quiet ((first | (go_at_call 9; exact Calls.quiet_of_same (HC1.out _)) | (go_at_call 26; exact Calls.quiet_of_same (HC2.out _))))
            go_wp2_with fail
            have HW1 := hide (after_drew hwr.out nq)
            clear hpre2
            generalize hwq : wr.drewN nq = wq at HW1 ⊢
            clear hwq c1 c2 h0 h1 hwr HBel wr
            go_loopw [4] (fun q wv => ∃ i : Nat, i ≤ 0 ∧ q = .int .i64 i ∧ Hid ((ks.take i).any (fun y => y == z) = false) ∧ Hid (Below W.heap.size W wv)) (fun q _ => 0 - (intOf q).toNat)
            case atStart => exact ⟨0, Nat.zero_le _, rfl, rfl, HW1⟩
            case round =>
              obtain ⟨i, hi, rfl, hany, hwv⟩ := hrel
              have hbel2 := hwv.out
              have hbel := after HB.out hbel2
              have kk := HK.out.below hbel2
              have c2 : wr.cell? ⟨w.heap.size, 2, none⟩ = some (.slice (some ⟨b2, o2, none⟩) ks.length d) := kk.2 2 (by simp)
              obtain ⟨b3, o3, z3, hb3, h1, HY1⟩ := rdInt_at (HQ.out.below hbel2) hkk
              have hz3 : z3 = z := by have := HY1.out; rw [HY.out] at this; exact (Option.some.inj this).symm
              injection hb3 with hb3; injection hb3 with e1 e2
              subst e1 e2 hz3
              have HBV := hide hbel
              by_cases hik : i < 0
              · exact absurd hik (by omega)
              · have hik2 : i = 0 := by omega
                have hii3 : ¬ (i : Int) < ((0 : Nat) : Int) := by omega
                have HM : Hid (metZ K (0) z3 = false) := by show _ = _; rw [HKZ.out, metZ_zip HN.out, ← hik2]; exact hany.out
                have HP2 : Hid (PreK K (0 + 1)) := preK_step hpre.out HZ.out (by rw [HG.out, HM.out]; rw [hN, HLE.out, HZD.out]; rfl)
                clear kk hbel hbel2 hik2
                go_wp2
                go_roundw
                case rel => exact ⟨0 + 1, by omega, by go_num, HP2, hwv⟩
                case measure => simp [intOf]; omega
          · obtain ⟨j, rfl⟩ : ∃ j, k = j + 1 := ⟨k - 1, by omega⟩
            have hjn : j < ns.length := by omega
            obtain ⟨b5, o5, p, hb5, h5, HXP⟩ := rdString_at (HP.out.below hwr.out) hjn
            injection hb5 with hb5; injection hb5 with e1 e2
            subst e1 e2
            have HL : Hid (lastK K (j + 1) = p) := by show _ = _; rw [HKZ.out]; exact lastK_zip HN.out (by omega) (by omega) (by simpa using HXP.out)
            have hd0 : decide ((0 : Int) < ((j + 1 : Nat) : Int)) = true := by rw [decide_eq_true_iff]; omega
            have hd1 : (0 : Int) < (j : Int) + 1 := by omega
            have hji : (j : Int) < (ns.length : Int) := by omega
            cases hO : lessB p s with
            | false =>
              have hO2 : Op.bytesLess p.toList s.toList = false := hO
              have HFF : Hid (fitsB K = false) := preK_bad HZ.out (by rw [HG.out]; simp [HL.out, hO])
              go_wp2
              go_quiet ((first | (go_at_call 9; exact Calls.quiet_of_same (HC1.out _)) | (go_at_call 26; exact Calls.quiet_of_same (HC2.out _))))
              go_wp2
              go_ret
              exact ⟨by rw [HF.out, HFF.out]; rfl, after_drew HBel.out _⟩
            | true =>
              have hO2 : Op.bytesLess p.toList s.toList = true := hO
              have hpre2 := hpre
              go_wp2
              go_quiet ((first | (go_at_call 9; exact Calls.quiet_of_same (HC1.out _)) | (go_at_call 26; exact Calls.quiet_of_same (HC2.out _))))
              go_wp2_with fail
              have HW1 := hide (after_drew hwr.out nq)
              clear hpre2
              generalize hwq : wr.drewN nq = wq at HW1 ⊢
              clear hwq c1 c2 h0 h1 hwr HBel h5 wr
              go_loopw [4] (fun q wv => ∃ i : Nat, i ≤ (j + 1) ∧ q = .int .i64 i ∧ Hid ((ks.take i).any (fun y => y == z) = false) ∧ Hid (Below W.heap.size W wv)) (fun q _ => (j + 1) - (intOf q).toNat)
              case atStart => exact ⟨0, Nat.zero_le _, rfl, rfl, HW1⟩
              case round =>
                obtain ⟨i, hi, rfl, hany, hwv⟩ := hrel
                have hbel2 := hwv.out
                have hbel := after HB.out hbel2
                have kk := HK.out.below hbel2
                have c2 : wr.cell? ⟨w.heap.size, 2, none⟩ = some (.slice (some ⟨b2, o2, none⟩) ks.length d) := kk.2 2 (by simp)
                obtain ⟨b3, o3, z3, hb3, h1, HY1⟩ := rdInt_at (HQ.out.below hbel2) hkk
                have hz3 : z3 = z := by have := HY1.out; rw [HY.out] at this; exact (Option.some.inj this).symm
                injection hb3 with hb3; injection hb3 with e1 e2
                subst e1 e2 hz3
                have HBV := hide hbel
                by_cases hik : i < (j + 1)
                · have hii : i < ks.length := by omega
                  have hii2 : (i : Int) < (ks.length : Int) := by omega
                  have hii3 : (i : Int) < ((j + 1 : Nat) : Int) := by omega
                  obtain ⟨b4, o4, y, hb4, h2, HY2⟩ := rdInt_at (HQ.out.below hbel2) hii
                  injection hb4 with hb4; injection hb4 with e1 e2
                  subst e1 e2
                  have HST : Hid ((ks.take (i + 1)).any (fun y => y == z3) = ((ks.take i).any (fun y => y == z3) || y == z3)) := by show _ = _; rw [List.take_add_one, HY2.out]; simp
                  clear kk hbel hbel2
                  by_cases hyz : y = z3
                  · subst hyz
                    have hyy : (y == y) = true := by simp
                    have HM : Hid (metZ K (j + 1) y = true) := by
                      show _ = _
                      rw [HKZ.out, metZ_zip HN.out, List.any_eq_true]
                      refine ⟨y, ?_, hyy⟩
                      rw [List.mem_take_iff_getElem]
                      have hlt' : i < ks.length := hii
                      refine ⟨i, by omega, ?_⟩
                      have := HY2.out
                      rw [List.getElem?_eq_getElem hlt'] at this
                      exact Option.some.inj this
                    have HFF : Hid (fitsB K = false) := preK_bad HZ.out (by rw [HG.out, HM.out]; simp)
                    clear hyy
                    go_wp2
                    go_quiet (fail)
                    go_wp2
                    go_ret
                    exact ⟨by rw [HF.out, HFF.out]; rfl, after_drew HBV.out _⟩
                  · have hyf : (y == z3) = false := by rw [beq_eq_false_iff_ne]; exact hyz
                    have HN2 : Hid ((ks.take (i + 1)).any (fun y => y == z3) = false) := by show _ = _; rw [HST.out, hany.out, hyf]; rfl
                    have hyz2 : ¬ y = z3 := hyz
                    clear hyz HST
                    go_wp2
                    go_quiet (fail)
                    go_wp2
                    go_roundw
                    case rel => exact ⟨i + 1, by omega, by go_num, HN2, after_drew hwv.out _⟩
                    case measure => simp [intOf]; omega
                · have hik2 : i = (j + 1) := by omega
                  have hii3 : ¬ (i : Int) < ((j + 1 : Nat) : Int) := by omega
                  have HM : Hid (metZ K (j + 1) z3 = false) := by show _ = _; rw [HKZ.out, metZ_zip HN.out, ← hik2]; exact hany.out
                  have HP2 : Hid (PreK K ((j + 1) + 1)) := preK_step hpre.out HZ.out (by rw [HG.out, HM.out]; rw [hN, HL.out, hO, HZD.out]; rfl)
                  clear kk hbel hbel2 hik2
                  go_wp2
                  go_roundw
                  case rel => exact ⟨(j + 1) + 1, by omega, by go_num, HP2, hwv⟩
                  case measure => simp [intOf]; omega
      · have hkl : k = K.length := by have := HKL.out; omega
        have HFF : Hid (fitsB K = true) := preK_all (hkl ▸ hpre.out)
        clear hpre hkl hbel2
        go_wp2
        go_ret
        exact ⟨by rw [HF.out, HFF.out]; rfl, HBel.out⟩
end Go.Proofs.Ytmolhhljodlhaaa
