/-
  Contract of the specification's NodeRead.
-/
import Derived.Test.YtmolhhljodlhaaaReadMath2
import Derived.Test.YtmolhhljodlhaaaSpecNodeText
import Derived.Test.YtmolhhljodlhaaaNodeOut
import Derived.Deep.RegionLaw
import Derived.Deep.CutRange
namespace Go.Proofs.Ytmolhhljodlhaaa
open Go.RowKit Go.Deep
set_option maxRecDepth 100000
set_option linter.unusedVariables false

set_option maxHeartbeats 12800000 in
theorem specNodeRead_any (t : ByteArray) (ht : t.size ≤ 1048576) (w : World) :
    Calls Try.prog 18 #[.string t] w fun e w' => ∃ v, e = .returned (.tuple #[v, .bool (readOk t)]) ∧ NodeOwn w' w.heap.size v (readDir t) ((readKids t).map Prod.fst) ((readKids t).map Prod.snd) (readDat t) ∧ Below w.heap.size w w' := by
  obtain ⟨i1, hi1, hy0, hy1, hy2⟩ := info_parts infoString
  obtain ⟨i2, hi2, hz0, hz1, hz2⟩ := info_parts infoInt
  obtain ⟨OK, hOK⟩ : ∃ b, b = readOk t := ⟨_, rfl⟩
  obtain ⟨DI, hDI⟩ : ∃ b, b = readDir t := ⟨_, rfl⟩
  obtain ⟨KK, hKK⟩ : ∃ b, b = readKids t := ⟨_, rfl⟩
  obtain ⟨DA, hDA⟩ : ∃ b, b = readDat t := ⟨_, rfl⟩
  rw [← hOK, ← hDI, ← hKK, ← hDA]
  have HV := hide (And.intro hOK (And.intro hDI (And.intro hKK hDA)))
  have HBAD : Hid (OK = false → DI = false ∧ KK = [] ∧ DA = ⟨#[]⟩) := fun h => by rw [hDI, hKK, hDA]; exact read_bad (hOK ▸ h)
  have HEND : Hid (∀ (u' : World), Below w.heap.size w u' → OK = false → ∃ v, Ending.returned (.tuple #[.agg #[.bool false, .slice none 0 0, .slice none 0 0, .string ⟨#[]⟩], .bool false]) = .returned (.tuple #[v, .bool OK]) ∧ NodeOwn u' w.heap.size v DI (KK.map Prod.fst) (KK.map Prod.snd) DA ∧ Below w.heap.size w u') := fun u' hb h => by
    obtain ⟨h1, h2, h3⟩ := HBAD.out h
    rw [h, h1, h2, h3]
    exact ⟨_, rfl, owns_zero u' _ false ⟨#[]⟩, hb⟩
  have SET4 : Hid (∀ (u' : World) x0 x1 x2 x3, Below w.heap.size w u' → Below w.heap.size w ((((u'.setCell ⟨w.heap.size, 0, none⟩ x0).setCell ⟨w.heap.size, 1, none⟩ x1).setCell ⟨w.heap.size, 2, none⟩ x2).setCell ⟨w.heap.size, 3, none⟩ x3)) := fun u' x0 x1 x2 x3 hb => set_below (set_below (set_below (set_below hb (Nat.le_refl _)) (Nat.le_refl _)) (Nat.le_refl _)) (Nat.le_refl _)
  clear hOK hDI hKK hDA
  cases hL : t.data.toList with
  | nil =>
    have hsz : t.size = 0 := by
      have := congrArg List.length hL
      simpa using this
    have hq := list_none hsz
    have hq2 : t.toList.isEmpty = true := by rw [hq]; rfl
    have HF : Hid (OK = false) := HV.out.1.trans (read_nil hL)
    clear hL hsz
    go_enter Try.func18, Try.ntmps18
    go_wp2
    refine bodyPost_ret (v := .tuple #[.agg #[.bool false, .slice none 0 0, .slice none 0 0, .string ⟨#[]⟩], .bool false]) (by simp [results, Try.results18, go_sem]) rfl (HEND.out _ (((Below.refl _ _).alloc (Nat.le_refl _) _).alloc (by simp) _) HF.out)
  | cons c zs =>
    have hszl : t.size = zs.length + 1 := by
      have := congrArg List.length hL
      simpa using this
    have hpos : 0 < t.size := by omega
    have hq := list_some (s := t) (by omega)
    have hq2 : t.toList.isEmpty = false := by simpa using hq
    have hc0 : (t[0]'hpos).toNat = c.toNat := by
      have e : t[0]'hpos = c := by
        have h2 := tl_get hpos
        rw [hL] at h2; exact (Option.some.inj h2).symm
      rw [e]
    have hex : t.extract 1 t.size = ⟨zs.toArray⟩ := by
      rw [bytes_take, hL, hszl]
      congr 1
      simp
    have hsz1 : (1 : Int) ≤ (t.size : Int) := by omega
    have HT := hide ht
    by_cases h1 : c = 102
    · have hcn : c.toNat = 102 := by rw [h1]; rfl
      rw [hcn] at hc0
      rw [h1] at hL
      have HRT := hide (read_text_file hL)
      have HZ : Hid (zs.length ≤ 1048576) := by show _ ≤ _; omega
      have HK2 : Hid (OK = true → DI = false ∧ KK = [] ∧ DA = ⟨zs.toArray⟩) := fun h => by
        rw [HV.out.2.1, HV.out.2.2.1, HV.out.2.2.2]
        exact read_file2 hL rfl (HV.out.1 ▸ h)
      obtain ⟨T, hT⟩ : ∃ T, T = nodeT false [] [] ⟨zs.toArray⟩ := ⟨_, rfl⟩
      rw [← hT] at HRT
      obtain ⟨A, hA⟩ : ∃ A, A = w.alloc (Obj.cells #[.bool false, .slice none 0 0, .slice none 0 0, .string ⟨#[]⟩] 29) := ⟨_, rfl⟩
      obtain ⟨W, hW⟩ : ∃ W, W = A.alloc (Obj.cells #[.bool false, .slice none 0 0, .slice none 0 0, .string ⟨zs.toArray⟩] 29) := ⟨_, rfl⟩
      have hsA : A.heap.size = w.heap.size + 1 := by rw [hA]; simp
      have hbA : Below w.heap.size w A := by rw [hA]; exact (Below.refl _ _).alloc (Nat.le_refl _) _
      have hbW : Below A.heap.size A W := by rw [hW]; exact (Below.refl _ _).alloc (Nat.le_refl _) _
      have k0 : C4 W w.heap.size (.bool false) (.slice none 0 0) (.slice none 0 0) (.string ⟨#[]⟩) := by
        have : C4 A w.heap.size (.bool false) (.slice none 0 0) (.slice none 0 0) (.string ⟨#[]⟩) := by rw [hA]; exact c4_new _ _ _ _ _ _
        exact this.below hbW
      have k1 : C4 W (w.heap.size + 1) (.bool false) (.slice none 0 0) (.slice none 0 0) (.string ⟨zs.toArray⟩) := by
        have : C4 W A.heap.size (.bool false) (.slice none 0 0) (.slice none 0 0) (.string ⟨zs.toArray⟩) := by rw [hW]; exact c4_new _ _ _ _ _ _
        rw [hsA] at this
        exact this
      have HNT : Hid (Calls Try.prog 16 #[.agg #[.bool false, .slice none 0 0, .slice none 0 0, .string ⟨zs.toArray⟩]] W fun e w' => e = .returned (.string T) ∧ Below W.heap.size W w') := by
        rw [hT]; exact specNodeText_any false none none [] [] ⟨zs.toArray⟩ 0 0 W (Rd.nil _ _) (Rd.nil _ _) (by simp) (by simp) (by simp) (by rw [size_mk]; exact HZ.out)
      have HB := hide (after hbA hbW)
      have HA := hide (And.intro hA hW)
      have HK0 := hide k0
      have HK1 := hide k1
      have hszl' := hide hszl
      clear h1 hcn hL ht hT hA hW hsA hbA hbW k0 k1 hszl
      go_enter Try.func18, Try.ntmps18
      go_wp2_with fail
      rw [← HA.out.1]
      rw [← HA.out.2]
      clear HA
      refine HNT.out.mono ?_
      rintro e w1 ⟨rfl, hb1⟩
      have hlt1 : w.heap.size + 1 < w1.heap.size := (HK1.out.below hb1).lt
      obtain ⟨⟨p0, p1, p2, p3⟩, pf⟩ := HK1.out.below hb1
      obtain ⟨⟨r0, r1, r2, r3⟩, rf⟩ := HK0.out.below hb1
      have pf0 := pf 0
      have pf1 := pf 1
      have pf2 := pf 2
      have pf3 := pf 3
      have rf0 := rf 0
      have rf1 := rf 1
      have rf2 := rf 2
      have rf3 := rf 3
      have HB1 := hide (after HB.out hb1)
      clear pf rf hb1 HNT HB
      by_cases hok : OK = true
      · have hTt : T = t := HRT.out.mpr (HV.out.1 ▸ hok)
        subst hTt
        obtain ⟨e1, e2, e3⟩ := HK2.out hok
        have HE := hide (And.intro e1 (And.intro e2 e3))
        have HO := hide hok
        clear hok e1 e2 e3
        go_wp2
        refine bodyPost_ret (v := .tuple #[.agg #[.bool false, .slice none 0 0, .slice none 0 0, .string ⟨zs.toArray⟩], .bool true]) (by simp [results, Try.results18, go_sem, r0, r1, r2, r3]) rfl ⟨_, by rw [HO.out], ?_, SET4.out _ _ _ _ _ HB1.out⟩
        rw [HE.out.1, HE.out.2.1, HE.out.2.2]
        exact owns_zero _ _ false _
      · have hTt : ¬ T = t := fun h => hok (HV.out.1.trans (HRT.out.mp h))
        have HO : Hid (OK = false) := by show _ = _; simpa using hok
        have hne := str_other hTt
        clear hok
        go_wp2
        refine bodyPost_ret (v := .tuple #[.agg #[.bool false, .slice none 0 0, .slice none 0 0, .string ⟨#[]⟩], .bool false]) (by simp [results, Try.results18, go_sem, r0, r1, r2, r3]) rfl (HEND.out _ (SET4.out _ _ _ _ _ HB1.out) HO.out)
    · have hcn : ¬ c.toNat = 102 := fun e => h1 (by apply UInt8.toNat.inj; exact e)
      have HRT := hide (read_text_folder hL h1)
      rw [← hc0] at hcn
      have HK2 : Hid (OK = true → DI = true ∧ KK = (readF t).1 ∧ DA = ⟨#[]⟩) := fun h => by
        rw [HV.out.2.1, HV.out.2.2.1, HV.out.2.2.2]
        by_cases hc1 : c = 100
        · exact read_folder2 hL hc1 (HV.out.1 ▸ h)
        · have := HV.out.1
          rw [read_other hL hc1 h1, h] at this
          cases this
      have HST := hide (scan_start hpos)
      obtain ⟨A, hA⟩ : ∃ A, A = w.alloc (Obj.cells #[.bool false, .slice none 0 0, .slice none 0 0, .string ⟨#[]⟩] 29) := ⟨_, rfl⟩
      obtain ⟨W, hW⟩ : ∃ W, W = A.alloc (Obj.cells #[.bool true, .slice none 0 0, .slice none 0 0, .string ⟨#[]⟩] 29) := ⟨_, rfl⟩
      have hsA : A.heap.size = w.heap.size + 1 := by rw [hA]; simp
      have hsW : W.heap.size = w.heap.size + 1 + 1 := by rw [hW]; simp [hsA]
      have hbA : Below w.heap.size w A := by rw [hA]; exact (Below.refl _ _).alloc (Nat.le_refl _) _
      have hbW : Below A.heap.size A W := by rw [hW]; exact (Below.refl _ _).alloc (Nat.le_refl _) _
      have k0 : C4 W w.heap.size (.bool false) (.slice none 0 0) (.slice none 0 0) (.string ⟨#[]⟩) := by
        have : C4 A w.heap.size (.bool false) (.slice none 0 0) (.slice none 0 0) (.string ⟨#[]⟩) := by rw [hA]; exact c4_new _ _ _ _ _ _
        exact this.below hbW
      have k1 : C4 W (w.heap.size + 1) (.bool true) (.slice none 0 0) (.slice none 0 0) (.string ⟨#[]⟩) := by
        have : C4 W A.heap.size (.bool true) (.slice none 0 0) (.slice none 0 0) (.string ⟨#[]⟩) := by rw [hW]; exact c4_new _ _ _ _ _ _
        rw [hsA] at this
        exact this
      have hO : OutN W (w.heap.size + 1 + 1) (w.heap.size + 1) true (.slice none 0 0) [] (.slice none 0 0) [] ⟨#[]⟩ := ⟨by omega, by omega, k1, World.ownsRow_nil _ _ _ _, World.ownsRow_nil _ _ _ _⟩
      have HO : Hid (∃ v1 v2, OutN W (w.heap.size + 1 + 1) (w.heap.size + 1) true v1 (([] : List (ByteArray × Int)).map Prod.fst) v2 (([] : List (ByteArray × Int)).map Prod.snd) ⟨#[]⟩) := ⟨_, _, hO⟩
      have HW : Hid (Below w.heap.size w W) := after hbA hbW
      have HA := hide (And.intro hA hW)
      have HSW := hide hsW
      have HK0 := hide k0
      have HBX : Hid (Below (w.heap.size + 1) W W) := Below.refl _ _
      have hszl' := hide hszl
      clear h1 hc0 hL hex hA hW hsA hsW hbA hbW k0 k1 hO hszl
      go_enter Try.func18, Try.ntmps18
      go_wp2_with fail
      rw [← HA.out.1]
      rw [← HA.out.2]
      clear HA
      rename_i hq13
      rw [hq13]
      go_loopw [5, 6] (fun fr i wr => ∃ (p k : Nat) (D : List (ByteArray × Int)), fr = .int .i64 p ∧ i = .int .i64 k ∧ Hid (ScanAt t p k D) ∧ Hid (∃ v1 v2, OutN wr (w.heap.size + 1 + 1) (w.heap.size + 1) true v1 (D.map Prod.fst) v2 (D.map Prod.snd) ⟨#[]⟩) ∧ Hid (Below (w.heap.size + 1) W wr)) (fun _ i _ => t.size + 1 - (intOf i).toNat)
      case atStart => exact ⟨1, 1, [], rfl, rfl, HST, HO, HBX⟩
      case round =>
        obtain ⟨p, k, D, rfl, rfl, hsc, hout, hbel⟩ := hrel
        clear HST HBX HO
        by_cases hlt : k + 1 < t.size
        · have hk1 : k < t.size := by omega
          have hki : (k : Int) < (t.size : Int) := by omega
          have hki1 : (k : Int) + 1 < (t.size : Int) := by omega
          by_cases h61 : t[k] = 61
          · have hn61 : (t[k]).toNat = 61 := by rw [h61]; rfl
            have HSC := hide (scan_hit hsc.out hlt h61)
            have hpk : p ≤ k := hsc.out.pk
            have hpki : (p : Int) ≤ (k : Int) := by omega
            have hksn : k ≤ t.size := by omega
            have hksi : (k : Int) ≤ (t.size : Int) := by omega
            have hDl : 2 * D.length ≤ p := hsc.out.len
            obtain ⟨v1, v2, hO⟩ := hout.out
            obtain ⟨L1, hL1⟩ : ∃ L, L = D.map Prod.fst := ⟨_, rfl⟩
            obtain ⟨L2, hL2⟩ : ∃ L, L = D.map Prod.snd := ⟨_, rfl⟩
            rw [← hL1, ← hL2] at hO
            have hlen1 : L1.length ≤ 1048576 := by rw [hL1, List.length_map]; omega
            have hlen2 : L2.length ≤ 1048576 := by rw [hL2, List.length_map]; omega
            have HLL := hide (And.intro hL1 hL2)
            obtain ⟨x1, y1, hv1⟩ := owns_shape hO.2.2.2.1
            subst hv1
            obtain ⟨⟨p0, p1, p2, p3⟩, pf⟩ := hO.2.2.1
            have pf1 := pf 1
            have HOD : Hid (OutN wr.drew (w.heap.size + 1 + 1) (w.heap.size + 1) true (.slice x1 L1.length y1) L1 v2 L2 ⟨#[]⟩) := hO.below (after_drew (Below.refl _ _) 1)
            have HOWN := hide HOD.out.2.2.2.1
            have hbase : w.heap.size + 1 + 1 ≤ wr.drew.heap.size := HOD.out.2.1
            have HBEL := hide hbel.out
            have hfar1 : w.heap.size + 1 < wr.heap.size := hO.2.2.1.lt
            have hfar0 : w.heap.size < wr.heap.size := by omega
            clear hO hout hL1 hL2 pf hbel p0 p2 p3 h61 hsc hDl
            go_wp2_with fail
            go_cut [] from 18 to 52 (fun wx => Hid (∃ x1' y1', OutN wx (w.heap.size + 1 + 1) (w.heap.size + 1) true (.slice x1' (L1.length + 1) y1') (L1 ++ [t.extract p k]) v2 L2 ⟨#[]⟩) ∧ Hid (Below (w.heap.size + 1) wr wx))
            case first =>
              go_region_law ((refine step_append_one_g (w0 := wr.drew) rfl (.tmp 30) (.tmp 35) 23 rfl (w.heap.size + 1 + 1) 9 i1 (.string ⟨#[]⟩) 16 Try.underlying23 hi1 hy0 hy1 hy2 rfl _ _ _ (.string (t.extract p k)) (by rfl) HOWN.out rfl (by rfl) (by omega) (by omega) hbase rfl ?_; intro v1' u2 ho hg; obtain ⟨x1', y1', hv1'⟩ := owns_shape ho; subst hv1'; obtain ⟨⟨⟨q0, q1, q2, q3⟩, qf⟩, HO2, HB2, -, -⟩ := HOD.out.app1 hg ho; have qf1 := qf 1; have HO3 := hide HO2; have HB3 := hide HB2; clear ho hg HO2 HB2 qf q0 q2 q3))
              all_goals
                go_wp2_with fail
                go_meet
                exact ⟨⟨_, _, HO3.out⟩, ((Below.refl (w.heap.size + 1) wr).drew).trans HB3.out⟩
            case rest =>
            obtain ⟨hoA, hbA⟩ := hcut
            obtain ⟨xa, ya, hOA⟩ := hoA.out
            obtain ⟨x2, y2, hv2⟩ := owns_shape hOA.2.2.2.2
            subst hv2
            clear p1 pf1 hbase HOWN HOD
            obtain ⟨⟨p0, p1, p2, p3⟩, pf⟩ := hOA.2.2.1
            have pf2 := pf 2
            have HOD : Hid (OutN wc.drew (w.heap.size + 1 + 1) (w.heap.size + 1) true (.slice xa (L1.length + 1) ya) (L1 ++ [t.extract p k]) (.slice x2 L2.length y2) L2 ⟨#[]⟩) := hOA.below (after_drew (Below.refl _ _) 1)
            have HOWN := hide HOD.out.2.2.2.2
            have hbase : w.heap.size + 1 + 1 ≤ wc.drew.heap.size := HOD.out.2.1
            have hfar1' : w.heap.size + 1 < wc.heap.size := hOA.2.2.1.lt
            have hfar0' : w.heap.size < wc.heap.size := by omega
            have hzw : IntKind.i64.wrap (((t[k + 1]'hlt).toNat : Int) - 48) = ((t[k + 1]'hlt).toNat : Int) - 48 := by
              have := (t[k + 1]'hlt).toNat_lt
              exact IntWalk.i64_in _ ⟨by omega, by omega⟩
            have hwk : IntKind.i64.wrap ((k : Int) + 1) = (k : Int) + 1 := IntWalk.i64_in _ ⟨by omega, by omega⟩
            have hki0 : (0 : Int) ≤ (k : Int) + 1 := by omega
            have hkt : ((k : Int) + 1).toNat = k + 1 := by omega
            have hzw0 : IntKind.i64.wrap ((t[k + 1]'hlt).toNat : Int) = ((t[k + 1]'hlt).toNat : Int) := by
              have := (t[k + 1]'hlt).toNat_lt
              exact IntWalk.i64_in _ ⟨by omega, by omega⟩
            clear hOA hoA pf p0 p1 p3 hfar1 hfar0
            go_wp2_with fail
            go_region_law ((refine step_append_one_g (w0 := wc.drew) rfl (.tmp 39) (.tmp 46) 24 rfl (w.heap.size + 1 + 1) 3 i2 (.int .i64 0) 8 Try.underlying24 hi2 hz0 hz1 hz2 rfl _ _ _ (.int .i64 (((t[k + 1]'hlt).toNat : Int) - 48)) (by rfl) HOWN.out rfl (by rfl) (by omega) (by omega) hbase rfl ?_; intro v1' u2 ho hg; obtain ⟨x1', y1', hv1'⟩ := owns_shape ho; subst hv1'; obtain ⟨⟨⟨q0, q1, q2, q3⟩, qf⟩, HO2, HB2, -, -⟩ := HOD.out.app2 hg ho; have qf2 := qf 2; have HO3 := hide HO2; have HB3 := hide HB2; clear ho hg HO2 HB2 qf q0 q1 q3))
            all_goals
              have HN : Hid (∃ v1 v2, OutN (u2.setCell ⟨w.heap.size + 1, 2, none⟩ (.slice x1' (L2.length + 1) y1')) (w.heap.size + 1 + 1) (w.heap.size + 1) true v1 ((D ++ [(t.extract p k, ((t[k + 1]'hlt).toNat : Int) - 48)]).map Prod.fst) v2 ((D ++ [(t.extract p k, ((t[k + 1]'hlt).toNat : Int) - 48)]).map Prod.snd) ⟨#[]⟩) := by
                have e1 : (D ++ [(t.extract p k, ((t[k + 1]'hlt).toNat : Int) - 48)]).map Prod.fst = L1 ++ [t.extract p k] := by rw [HLL.out.1]; simp
                have e2 : (D ++ [(t.extract p k, ((t[k + 1]'hlt).toNat : Int) - 48)]).map Prod.snd = L2 ++ [((t[k + 1]'hlt).toNat : Int) - 48] := by rw [HLL.out.2]; simp
                rw [e1, e2]
                exact ⟨_, _, HO3.out⟩
              have HBN : Hid (Below (w.heap.size + 1) W (u2.setCell ⟨w.heap.size + 1, 2, none⟩ (.slice x1' (L2.length + 1) y1'))) := (HBEL.out.trans hbA.out).trans (((Below.refl (w.heap.size + 1) wc).drew).trans HB3.out)
              clear hbA hbase HO3 HB3
              go_wp2
              go_roundw
              case rel => exact ⟨k + 2, k + 2, _, by go_num, by go_num, HSC, HN, HBN⟩
              case measure => simp [intOf]; omega
          · have hn61 : ¬ (t[k]).toNat = 61 := fun e => h61 (by apply UInt8.toNat.inj; exact e)
            have HN : Hid (ScanAt t p (k + 1) D) := scan_on hsc.out hlt h61
            clear h61 hsc
            go_wp2
            go_roundw
            case rel => exact ⟨p, k + 1, D, rfl, by go_num, HN, hout, hbel⟩
            case measure => simp [intOf]; omega
        · have hki1 : ¬ (k : Int) + 1 < (t.size : Int) := by omega
          have hks : k ≤ t.size := hsc.out.ks
          have hD : D = (readF t).1 := scan_end hsc.out hlt
          have HKL : Hid (2 * (readF t).1.length ≤ t.size) := readF_len t
          have HKS : Hid (∀ x ∈ (readF t).1, x.1.size ≤ 1048576) := fun x hx => Nat.le_trans (readF_size t x hx) ht
          rw [← hD] at HRT HK2 HKL HKS
          obtain ⟨T, hT⟩ : ∃ T, T = nodeT true (D.map Prod.fst) (D.map Prod.snd) ⟨#[]⟩ := ⟨_, rfl⟩
          rw [← hT] at HRT
          obtain ⟨v1, v2, hO⟩ := hout.out
          obtain ⟨L1, hL1⟩ : ∃ L, L = D.map Prod.fst := ⟨_, rfl⟩
          obtain ⟨L2, hL2⟩ : ∃ L, L = D.map Prod.snd := ⟨_, rfl⟩
          rw [← hL1, ← hL2] at hO
          have hl1 : L1.length ≤ 1048576 := by have := HKL.out; rw [hL1, List.length_map]; omega
          have hl2 : L2.length ≤ 1048576 := by have := HKL.out; rw [hL2, List.length_map]; omega
          have hNR := (hO.own (Nat.le_refl _)).rd
          obtain ⟨x1, y1, hv1⟩ := owns_shape hO.2.2.2.1
          subst hv1
          obtain ⟨x2, y2, hv2⟩ := owns_shape hO.2.2.2.2
          subst hv2
          have hbl := hbel.out
          have HNT : Hid (Calls Try.prog 16 #[.agg #[.bool true, .slice x1 L1.length y1, .slice x2 L2.length y2, .string ⟨#[]⟩]] wr fun e w' => e = .returned (.string T) ∧ Below wr.heap.size wr w') := by
            obtain ⟨a', c', b', d', he, h1, h2⟩ := hNR
            rw [he, hT, ← hL1, ← hL2]
            exact specNodeText_any true a' b' L1 L2 ⟨#[]⟩ c' d' wr h1 h2 hl1 hl2 (fun s hs => by rw [hL1] at hs; obtain ⟨x, hx, rfl⟩ := List.mem_map.mp hs; exact HKS.out x hx) (Nat.zero_le _)
          have kr : C4 wr w.heap.size (.bool false) (.slice none 0 0) (.slice none 0 0) (.string ⟨#[]⟩) := by
            have := HK0.out
            exact ⟨⟨(hbl.cell (p := ⟨w.heap.size, 0, none⟩) (by show _ < _; simp)).trans this.1.1, (hbl.cell (p := ⟨w.heap.size, 1, none⟩) (by show _ < _; simp)).trans this.1.2.1, (hbl.cell (p := ⟨w.heap.size, 2, none⟩) (by show _ < _; simp)).trans this.1.2.2.1, (hbl.cell (p := ⟨w.heap.size, 3, none⟩) (by show _ < _; simp)).trans this.1.2.2.2⟩, fun j => (hbl.frozen (p := ⟨w.heap.size, j, none⟩) (by show _ < _; simp)).trans (this.2 j)⟩
          have HKR := hide kr
          have HFR := hide hO
          obtain ⟨⟨p0, p1, p2, p3⟩, pf⟩ := hO.2.2.1
          have pf0 := pf 0
          have pf1 := pf 1
          have pf2 := pf 2
          have pf3 := pf 3
          have hltw : w.heap.size + 1 < wr.heap.size := hO.2.2.1.lt
          have HB := hide (HW.out.trans (hbl.mono (Nat.le_succ _)))
          have HLL := hide (And.intro hL1 hL2)
          clear pf kr hO hbl hout hbel hNR hD hT hsc HW hl1 hl2 hL1 hL2
          go_wp2_with fail
          refine HNT.out.mono ?_
          rintro e w1 ⟨rfl, hb1⟩
          clear p0 p1 p2 p3 pf0 pf1 pf2 pf3 hltw
          have hlt1 : w.heap.size + 1 < w1.heap.size := (HFR.out.2.2.1.below hb1).lt
          obtain ⟨⟨p0, p1, p2, p3⟩, pf⟩ := HFR.out.2.2.1.below hb1
          obtain ⟨⟨r0, r1, r2, r3⟩, rf⟩ := HKR.out.below hb1
          have HF1 := hide (HFR.out.below hb1)
          have pf0 := pf 0
          have pf1 := pf 1
          have pf2 := pf 2
          have pf3 := pf 3
          have rf0 := rf 0
          have rf1 := rf 1
          have rf2 := rf 2
          have rf3 := rf 3
          have HB1 := hide (after HB.out hb1)
          clear pf rf hb1 HNT HB HFR HKR
          by_cases hok : OK = true
          · have hTt : T = t := HRT.out.mpr (HV.out.1 ▸ hok)
            subst hTt
            obtain ⟨e1, e2, e3⟩ := HK2.out hok
            have HE := hide (And.intro e1 (And.intro e2 e3))
            have HOK := hide hok
            clear hok e1 e2 e3
            go_wp2
            refine bodyPost_ret (v := .tuple #[.agg #[.bool true, .slice x1 L1.length y1, .slice x2 L2.length y2, .string ⟨#[]⟩], .bool true]) (by simp [results, Try.results18, go_sem, r0, r1, r2, r3]) rfl ⟨_, by rw [HOK.out], ?_, SET4.out _ _ _ _ _ HB1.out⟩
            rw [HE.out.1, HE.out.2.1, HE.out.2.2, ← HLL.out.1, ← HLL.out.2]
            obtain ⟨-, -, -, h4, h5⟩ := HF1.out
            have hp : w.heap.size < w.heap.size + 1 + 1 := by omega
            exact ⟨_, _, rfl, owns_mono (ftlRows_set (ftlRows_set (ftlRows_set (ftlRows_set h4 hp _) hp _) hp _) hp _) (by omega), owns_mono (ftlRows_set (ftlRows_set (ftlRows_set (ftlRows_set h5 hp _) hp _) hp _) hp _) (by omega), fun k hk => kinds_apart h4 h5 (by decide) k hk⟩
          · have hTt : ¬ T = t := fun h => hok (HV.out.1.trans (HRT.out.mp h))
            have HOK : Hid (OK = false) := by show _ = _; simpa using hok
            have hne := str_other hTt
            clear hok
            go_wp2
            refine bodyPost_ret (v := .tuple #[.agg #[.bool false, .slice none 0 0, .slice none 0 0, .string ⟨#[]⟩], .bool false]) (by simp [results, Try.results18, go_sem, r0, r1, r2, r3]) rfl (HEND.out _ (SET4.out _ _ _ _ _ HB1.out) HOK.out)
end Go.Proofs.Ytmolhhljodlhaaa
