/-
  Contract of the closure that Recover hands on.
  Contract of the program's Recover.
  Contracts of the laws' helpers over rows of acts: eqActS of equal rows, markActS, heldActS.
-/
import Derived.Test.YtdicjbabnknjhaaGreatJRecover38
import Derived.Test.YtdicjbabnknjhaaGreatJRecover32
import Derived.Test.YtdicjbabnknjhaaGreatJRecover22
import Derived.Test.YtdicjbabnknjhaaGreatJRecover1
namespace Go.Proofs.YtdicjbabnknjhaaGreat
open Go.RowKit

set_option maxRecDepth 100000 in
set_option maxHeartbeats 6400000 in
theorem recover1_any (P base : Nat) (ps : List ByteArray) (ws ms : List Int) (q : Int) (w : World) (hW : PW w P base ps ws ms q []) (hm : ms = mMap ps) (hq : q = mSeq ps) (hok : chipOkP ps ws) :
    Calls Tryz.prog 48 #[.pointer (some ⟨P, 0, none⟩)] w fun e w' => ClosIs w w' e P base (recoverX ps ws) := by
  obtain ⟨X, hX⟩ : ∃ X, X = recoverX ps ws := ⟨_, rfl⟩
  rw [← hX]
  have hbw : base ≤ w.heap.size := by obtain ⟨_, _, _, _, _, _, _, _, h⟩ := hW; exact h.lt.2.2
  obtain ⟨D, hD⟩ : ∃ D, D = secD ps 24 := ⟨_, rfl⟩
  have HDS : Hid (D.size ≤ 400) := by show D.size ≤ 400; rw [hD]; exact secD_size
  have HPW := hide hW
  obtain ⟨v4, k4, a5, c5, b5, d5, e5, f5, hwk⟩ := id hW
  have HWK := hide hwk
  have HSO : Hid (Calls Tryz.prog 35 #[.agg #[.slice a5 ps.length c5, .slice b5 ws.length d5, .slice e5 ms.length f5, .int .i64 q], .int .i64 24] w fun e w' => e = .returned (.string D) ∧ Below w.heap.size w w') := by
    have hr := hwk.rd
    rw [hm] at hr
    show Calls _ _ _ _ _
    rw [hm, hD]
    exact implSectorOf_any a5 e5 _ ps c5 f5 q 24 w hr.1 hr.2.2 hok.1 (fun s h => by have := hok.2.2.1 s h; omega)
  obtain ⟨⟨c0, c1, c2, c3, c4⟩, -⟩ := hwk.cells
  have HMM := hide hm
  have HQQ := hide hq
  have HOK := hide hok
  clear hwk hm hq hok hW
  by_cases h1 : D = ByteArray.empty
  · have hem1 : D.toList.isEmpty = true := by rw [h1, ByteArray.toList_eq]; rfl
    have HX : Hid (X = some (ps, ws, [])) := by show _ = _; rw [hX, recoverX, if_pos (by rw [← hD]; exact h1)]
    clear hX hD h1
    go_enter Tryz.func48, Tryz.ntmps48
    go_wp2_with fail
    refine HSO.out.mono ?_
    rintro e w1 ⟨rfl, hb1⟩
    have HB1 := hide hb1
    clear hb1 HSO c0 c1 c2 c3 c4
    go_wp2
    go_ret
    have hpw := HPW.out.below HB1.out
    refine ⟨by rw [HX.out]; rfl, HB1.out.mono hbw, Fr.of_below HB1.out, fun r h => ?_, hpw.some⟩
    rw [HX.out] at h
    injection h with h
    subst h
    rw [HMM.out, HQQ.out] at hpw
    exact hpw
  · have hem1 := isEmpty_str h1
    obtain ⟨L, hL⟩ : ∃ L, L = (logR D).getD [] := ⟨_, rfl⟩
    have HX : Hid (X = pWritesL (L ++ [(24, ByteArray.empty)]) ps ws) := by show _ = _; rw [hX, recoverX, if_neg (by rw [← hD]; exact h1), ← hD, hL]
    have HL3 : Hid (L.length ≤ 3) := by show L.length ≤ 3; rw [hL]; exact logR_len D
    have HLB : Hid (∀ x ∈ L, x.2.size ≤ 400 ∧ 0 ≤ x.1 ∧ x.1 ≤ 1000000000) := by
      intro x hx
      rw [hL] at hx
      cases hr : logR D with
      | none => rw [hr] at hx; simp at hx
      | some R =>
        rw [hr] at hx
        obtain ⟨k1, k2⟩ := logR_some hr
        have k3 := logT_some (L := R) (by rw [k1]; exact k2)
        have := in_bd k3.1 k3.2.1 x hx
        exact ⟨this.2, this.1.1, this.1.2⟩
    have HLR : Hid (∀ u, Calls Tryz.prog 49 #[.string D] u fun e w' => ∃ v, e = .returned (.tuple #[v, .bool (logR D).isSome]) ∧ PutsOwn w' u.heap.size v L ∧ Below u.heap.size u w') := fun u => by rw [hL]; exact implLogRead_any D u (by have := HDS.out; omega)
    obtain ⟨B, hB⟩ : ∃ B, B = (logR D).isSome := ⟨_, rfl⟩
    rw [← hB] at HLR
    clear hX hD h1 hL hB
    go_enter Tryz.func48, Tryz.ntmps48
    go_wp2_with fail
    refine HSO.out.mono ?_
    rintro e w1 ⟨rfl, hb1⟩
    have HB1 := hide hb1
    clear hb1 HSO c0 c1 c2 c3 c4
    go_wp2_with fail
    refine (HLR.out w1).mono ?_
    rintro e w2 ⟨v2, rfl, ho2, hb2⟩
    obtain ⟨la, lc, rfl⟩ := ho2.shape
    have HB2 := hide (after HB1.out hb2)
    have HO2 := hide ho2
    clear ho2 hb2 HLR
    obtain ⟨U, hU⟩ : ∃ U, U = (w2.alloc (Obj.cells #[.int .i64 24, .string ⟨#[]⟩] 58)).alloc (Obj.cells #[.slice la L.length lc, .slice (some ⟨w2.heap.size, 0, none⟩) 1 1] 38) := ⟨_, rfl⟩
    have hbU : Below w2.heap.size w2 U := by rw [hU]; exact ((Below.refl _ _).alloc (Nat.le_refl _) _).alloc (by simp) _
    have HGA := hide (gather_any (some ⟨w2.heap.size + 1, 0, none⟩) 2 [(la, lc, L), (some ⟨w2.heap.size, 0, none⟩, 1, [(24, ByteArray.empty)])] U
      (by
        refine .inr ⟨_, 0, rfl, fun i v hv => ?_⟩
        have hsz : w2.heap.size + 1 = (w2.alloc (Obj.cells #[.int .i64 24, .string ⟨#[]⟩] 58)).heap.size := by simp
        rw [hU, hsz, Nat.zero_add, World.cell?_alloc_new]
        simpa [vsParts] using hv)
      (by
        intro x hx
        simp only [List.mem_cons, List.not_mem_nil, or_false] at hx
        rcases hx with rfl | rfl
        · exact (rd_of_ownN HO2.out).below hbU
        · refine .inr ⟨_, 0, rfl, fun i v hv => ?_⟩
          have h1 : (w2.alloc (Obj.cells #[.int .i64 24, .string ⟨#[]⟩] 58)).cell? ⟨w2.heap.size, 0 + i, none⟩ = some v := by
            rw [Nat.zero_add, World.cell?_alloc_new]
            have hv' : ([.int .i64 24, .string ⟨#[]⟩] : List Value)[i]? = some v := hv
            simpa using hv'
          have h2 : Below (w2.heap.size + 1) (w2.alloc (Obj.cells #[.int .i64 24, .string ⟨#[]⟩] 58)) U := by rw [hU]; exact (Below.refl _ _).alloc (by simp) _
          exact (h2.cell (p := ⟨w2.heap.size, 0 + i, none⟩) (by show w2.heap.size < _; omega)).trans h1)
      (by simp) (by have := HL3.out; simp [partsOf]; omega))
    have hG : partsOf [(la, lc, L), (some ⟨w2.heap.size, 0, none⟩, 1, [(24, ByteArray.empty)])] = L ++ [(24, ByteArray.empty)] := by simp [partsOf]
    rw [hG] at HGA
    have HBU := hide (after HB2.out hbU)
    obtain ⟨M, hM⟩ : ∃ M, M = L ++ [(24, ByteArray.empty)] := ⟨_, rfl⟩
    rw [← hM] at HGA HX
    have HMB : Hid (∀ x ∈ M, x.2.size ≤ maxLen ∧ -9223372036854775808 ≤ x.1 ∧ x.1 ≤ 9223372036854775807) := fun x hx => by
      rw [hM] at hx
      simp only [List.mem_append, List.mem_cons, List.not_mem_nil, or_false] at hx
      rcases hx with hx | rfl
      · have := HLB.out x hx
        exact ⟨by unfold maxLen; omega, by omega, by omega⟩
      · exact ⟨by decide, by decide, by decide⟩
    have HML : Hid (M.length ≤ 1048576) := by show M.length ≤ _; rw [hM]; have := HL3.out; simp; omega
    clear hG hM hbU
    go_wp2_with fail
    rw [← hU]
    clear hU
    refine HGA.out.mono ?_
    rintro e w3 ⟨v3, rfl, ho3, hb3⟩
    obtain ⟨a3, c3, rfl⟩ := ho3.shape
    have HB3 := hide (after HBU.out hb3)
    have hPU : P < U.heap.size := by have := HWK.out.lt.1; have := HBU.out.size; omega
    have HWA := hide (writeAllF_any P base c3 a3 M ps ws ms q w3 (HPW.out.below HB3.out) HMM.out HQQ.out HOK.out HML.out HMB.out (fun u _ hf => rd_of_ownN (hf.row ho3 (by decide) (fun k hk => by have := (World.ownsRow.lt ho3 k hk).1; exact ⟨by omega, by omega, by omega⟩))))
    rw [← HX.out] at HWA
    clear HGA ho3 hb3
    go_wp2_with fail
    refine HWA.out.mono ?_
    rintro e w4 ⟨rfl, hb4, hf4, hy, hps⟩
    have HFIN : Hid (ClosIs w w4 (.returned (.bool X.isSome)) P base X) := ⟨rfl, (HB3.out.mono hbw).trans hb4, (Fr.of_below HB3.out).trans hf4, hy, hps⟩
    clear hb4 hf4 hy hps HWA
    go_wp2
    go_ret
    exact HFIN.out
end Go.Proofs.YtdicjbabnknjhaaGreat

namespace Go.Proofs.YtdicjbabnknjhaaGreat
open Go.RowKit

set_option maxRecDepth 100000 in
set_option maxHeartbeats 12800000 in
theorem plannedR_ok (a b e0 : Option Addr) (ps : List ByteArray) (ws ms : List Int) (c d f : Nat) (q : Int) (w : World) (hp : Rd w a (vsString ps)) (hw : Rd w b (vsInt ws)) (hms : Rd w e0 (vsInt ms)) (hok : ftlOkB ps ws ms q = true) :
    Calls Tryz.prog 32 #[.agg #[.slice a ps.length c, .slice b ws.length d, .slice e0 ms.length f, .int .i64 q], .func (.func 48) #[] #[]] w fun e w' => PlanPost w w' e ps ws ms q (recoverX ps ws) := by
  have hmf : ∀ (fn : Fn) (first cap : Array Value) (w : World), (Instr.makeFunc fn first cap).run Tryz.prog w = .ok (.func fn first cap) w := fun _ _ _ _ => rfl
  obtain ⟨hch, hmm, hqq⟩ := ftlOk_parts hok
  obtain ⟨A, hA⟩ : ∃ A, A = (((w.alloc (Obj.cells #[.slice a ps.length c, .slice b ws.length d, .slice e0 ms.length f, .int .i64 q] 34)).alloc (Obj.cells #[.slice none 0 0] 31)).alloc (Obj.cells #[.slice none 0 0, .slice none 0 0, .slice none 0 0, .int .i64 0] 34)).alloc (Obj.cells #[.bool false] 4) := ⟨_, rfl⟩
  have hsA : A.heap.size = w.heap.size + 4 := by rw [hA]; simp
  have hbA : Below w.heap.size w A := by rw [hA]; exact ((((Below.refl _ _).alloc (Nat.le_refl _) _).alloc (by simp) _).alloc (by simp; omega) _).alloc (by simp; omega) _
  have n0 : A.cell? ⟨w.heap.size, 0, none⟩ = some (.slice a ps.length c) ∧ A.cell? ⟨w.heap.size, 1, none⟩ = some (.slice b ws.length d) ∧ A.cell? ⟨w.heap.size, 2, none⟩ = some (.slice e0 ms.length f) ∧ A.cell? ⟨w.heap.size, 3, none⟩ = some (.int .i64 q) := by rw [hA]; refine ⟨?_, ?_, ?_, ?_⟩ <;> simp [go_sem]
  obtain ⟨R, hR⟩ : ∃ R, R = recoverX ps ws := ⟨_, rfl⟩
  have HR := hide hR
  rw [← hR]
  clear hR
  go_enter_defers Tryz.func32, Tryz.ntmps32
  go_wp2_with fail
  rw [← hA]
  have HNR : Hid (NRes A w.heap.size (.slice none 0 0) (.slice none 0 0) (.slice none 0 0) (.slice none 0 0) (.int .i64 0) (.bool false)) := by
    show NRes _ _ _ _ _ _ _ _
    rw [hA]
    refine ⟨⟨?_, ?_, ?_, ?_, ?_, ?_⟩, fun i => ?_, fun i => ?_, fun i => ?_⟩ <;> simp [go_sem]
  have HFO := hide (implFtlOk_any a b e0 ps ws ms c d f q A (hp.below hbA) (hw.below hbA) (hms.below hbA) (by rw [hch.1]; decide) (by rw [hch.2.1]; decide) (by rw [← hmm, mMap_len]; decide) (fun s h => by have := hch.2.2.1 s h; omega))
  rw [hok] at HFO
  have HMO : Hid (∀ u, Below A.heap.size A u → Calls Tryz.prog 63 #[.agg #[.slice a ps.length c, .slice b ws.length d]] u fun e w' => ∃ a c b d e0 f, e = .returned (.agg #[.slice a ps.length c, .slice b ws.length d, .slice e0 ms.length f, .int .i64 q]) ∧ FtlOwn w' A.heap.size (.agg #[.slice a ps.length c, .slice b ws.length d, .slice e0 ms.length f, .int .i64 q]) ps ws ms q ∧ Below u.heap.size u w') := by
    intro u hu
    refine (implMount_ok a b ps ws c d u (hp.below (after hbA hu)) (hw.below (after hbA hu)) hch).mono ?_
    rintro e w' ⟨v, rfl, hf, hb⟩
    rw [hmm, hqq] at hf
    obtain ⟨a1, c1, b1, d1, e1, f1, rfl⟩ := hf.shape
    exact ⟨_, _, _, _, _, _, rfl, ftlOwn_mono hf hu.size, hb⟩
  have HCH := hide hch
  have HMQ := hide (And.intro hmm hqq)
  have HBA := hide hbA
  have HSA := hide hsA
  obtain ⟨m0, m1, m2, m3⟩ := id n0
  have hltw := lt_of_cell m0
  clear hp hw hms hok hch hmm hqq hbA hsA hA n0
  refine HFO.out.mono ?_
  rintro e w1 ⟨rfl, hb1⟩
  have HB1 := hide hb1
  have p0 := (hb1.cell (p := ⟨w.heap.size, 0, none⟩) hltw).trans m0
  have p1 := (hb1.cell (p := ⟨w.heap.size, 1, none⟩) hltw).trans m1
  clear HFO hb1 m0 m1 m2 m3
  go_wp2_with fail
  refine (HMO.out w1 HB1.out).mono ?_
  rintro e w2 ⟨a6, c6, b6, d6, e6, f6, rfl, hf2, hb2⟩
  have HB2 := hide (after HB1.out hb2)
  obtain ⟨W3, hW3⟩ : ∃ W3, W3 = w2.alloc (Obj.cells #[.slice a6 ps.length c6, .slice b6 ws.length d6, .slice e6 ms.length f6, .int .i64 q] 34) := ⟨_, rfl⟩
  have hs3 : W3.heap.size = w2.heap.size + 1 := by rw [hW3]; simp
  have hb3 : Below w2.heap.size w2 W3 := by rw [hW3]; exact (Below.refl _ _).alloc (Nat.le_refl _) _
  have hk7 : W3.heap[w2.heap.size]? = some (.cells #[.slice a6 ps.length c6, .slice b6 ws.length d6, .slice e6 ms.length f6, .int .i64 q] 34 (0, 0)) := by rw [hW3]; exact heap_alloc_new _ _
  obtain ⟨W4, hW4⟩ : ∃ W4, W4 = W3.alloc (Obj.cells #[.slice none 0 0, .slice a6 ps.length c6, .slice b6 ws.length d6, .slice e6 ms.length f6, .int .i64 q] 65) := ⟨_, rfl⟩
  have hPW := pwork_new (base := A.heap.size) (hf2.below hb3) (after HB2.out hb3).size
  rw [← hW4, hs3] at hPW
  have hb4 : Below W3.heap.size W3 W4 := by rw [hW4]; exact (Below.refl _ _).alloc (Nat.le_refl _) _
  have hk7 := (hb4.block w2.heap.size (by omega)).trans hk7
  have hB4 := after HB2.out (after hb3 hb4)
  have HPW := hide hPW
  have HB4 := hide hB4
  have HK7 := hide hk7
  have HP1 := hide (recover1_any (w2.heap.size + 1) A.heap.size ps ws ms q W4 hPW.pw HMQ.out.1.symm HMQ.out.2.symm HCH.out)
  rw [← HR.out] at HP1
  have HS4 : Hid (W4.heap.size = w2.heap.size + 1 + 1) := by show _ = _; rw [hW4, World.size_alloc, hs3]
  clear hf2 hb2 hb3 hs3 hPW hb4 hB4 HMO p0 p1 hk7
  go_wp2_with fail
  rw [← hW3, ← hW4]
  clear hW3 hW4
  refine HP1.out.mono ?_
  rintro e w5 ⟨rfl, hb5, hf5, hy, hps⟩
  have HB5 : Hid (Below A.heap.size A w5) := HB4.out.trans hb5
  have HN5 := hide (HNR.out.below HB5.out (by rw [HSA.out]; exact Nat.le_refl _))
  have HBW : Hid (Below w.heap.size w w5) := HBA.out.trans (HB5.out.mono HBA.out.size)
  obtain ⟨⟨g0, g1, g2, g3, g4, g5⟩, gf1, gf2, gf3⟩ := id HN5.out
  have gf10 := gf1 0
  have gf20 := gf2 0
  have gf21 := gf2 1
  have gf22 := gf2 2
  have gf23 := gf2 3
  have gf30 := gf3 0
  have hsz : w.heap.size + 4 ≤ w2.heap.size := by have := HB2.out.size; have := HSA.out; omega
  cases R with
  | some r =>
    obtain ⟨M7, hM7⟩ : ∃ M7, M7 = mMap r.1 := ⟨_, rfl⟩
    obtain ⟨Q7, hQ7⟩ : ∃ Q7, Q7 = mSeq r.1 := ⟨_, rfl⟩
    have hpw := hy r rfl
    rw [← hM7, ← hQ7] at hpw
    obtain ⟨v7, k7, a7, c7, b7, d7, e7, f7, hpw⟩ := hpw
    obtain ⟨⟨x0, x1, x2, x3, x4⟩, -⟩ := hpw.cells
    have HPF := hide hpw
    have HM7 := hide (And.intro hM7 hQ7)
    clear hb5 hf5 hy hps hpw HP1 HNR HPW HK7 gf1 gf2 gf3 hM7 hQ7
    go_wp2_with fail
    generalize hP : w2.heap.size + 1 = P at x0 x1 x2 x3 x4 ⊢
    generalize hB7 : w2.heap.size = B7
    generalize hS1 : w.heap.size + 1 = S1 at g0 g1 g2 g3 g4 g5 gf10 gf20 gf21 gf22 gf23 gf30 ⊢
    generalize hS2 : S1 + 1 = S2 at g1 g2 g3 g4 g5 gf20 gf21 gf22 gf23 gf30 ⊢
    generalize hS3 : S2 + 1 = S3 at g5 gf30 ⊢
    have i1 : ¬ S1 = S2 := by omega
    have i2 : ¬ S1 = S3 := by omega
    have i3 : ¬ S2 = S3 := by omega
    have i4 : ¬ S2 = S1 := by omega
    have i5 : ¬ S3 = S1 := by omega
    have i6 : ¬ S3 = S2 := by omega
    have i7 : ¬ S1 = P := by omega
    have i8 : ¬ S2 = P := by omega
    have i9 : ¬ S3 = P := by omega
    have j7 : ¬ P = S1 := by omega
    have j8 : ¬ P = S2 := by omega
    have j9 : ¬ P = S3 := by omega
    obtain ⟨X, hX⟩ : ∃ X, X = (((((((w5.setCell ⟨S3, 0, none⟩ (.bool true)).setCell ⟨S1, 0, none⟩ (.slice v7 r.2.2.length k7)).setCell ⟨S2, 0, none⟩ (.slice a7 r.1.length c7)).setCell ⟨S2, 1, none⟩ (.slice b7 r.2.1.length d7)).setCell ⟨S2, 2, none⟩ (.slice e7 M7.length f7)).setCell ⟨S2, 3, none⟩ (.int .i64 Q7)).setCell ⟨S3, 0, none⟩ (.bool true)) := ⟨_, rfl⟩
    obtain ⟨V, hV⟩ : ∃ V, V = X.drew := ⟨_, rfl⟩
    have hfin : ResK w.heap.size A.heap.size w w5 V := by
      rw [hV, hX]
      have h1 : w.heap.size ≤ S1 ∧ S1 < A.heap.size := by have := HSA.out; omega
      have h2 : w.heap.size ≤ S2 ∧ S2 < A.heap.size := by have := HSA.out; omega
      have h3 : w.heap.size ≤ S3 ∧ S3 < A.heap.size := by have := HSA.out; omega
      exact ((((((((show ResK w.heap.size A.heap.size w w5 w5 from ⟨HBW.out, fun _ _ _ _ _ h => h⟩).set h3 _ _).set h1 _ _).set h2 _ _).set h2 _ _).set h2 _ _).set h2 _ _).set h3 _ _).drew
    obtain ⟨z0, z1, z2, z3, z4, z5⟩ := res_cells g0 g1 g2 g3 g4 g5 i1 i2 i3 X hX
    have z0 : V.cell? ⟨S1, 0, none⟩ = some (.slice v7 r.2.2.length k7) := by rw [hV]; simpa using z0
    have z1 : V.cell? ⟨S2, 0, none⟩ = some (.slice a7 r.1.length c7) := by rw [hV]; simpa using z1
    have z2 : V.cell? ⟨S2, 1, none⟩ = some (.slice b7 r.2.1.length d7) := by rw [hV]; simpa using z2
    have z3 : V.cell? ⟨S2, 2, none⟩ = some (.slice e7 M7.length f7) := by rw [hV]; simpa using z3
    have z4 : V.cell? ⟨S2, 3, none⟩ = some (.int .i64 Q7) := by rw [hV]; simpa using z4
    have z5 : V.cell? ⟨S3, 0, none⟩ = some (.bool true) := by rw [hV]; simpa using z5
    obtain ⟨hbV, hoV⟩ := hfin
    have HRES : Hid (ActsOwn V w.heap.size (.slice v7 r.2.2.length k7) r.2.2 ∧ FtlOwn V w.heap.size (.agg #[.slice a7 r.1.length c7, .slice b7 r.2.1.length d7, .slice e7 M7.length f7, .int .i64 Q7]) r.1 r.2.1 (mMap r.1) (mSeq r.1) ∧ Below w.heap.size w V) := by
      refine ⟨owns_mono (hoV _ _ _ _ _ HPF.out.2.2.1) HBA.out.size, ?_, hbV⟩
      obtain ⟨u1, u2, u3, hv, o1, o2, o3, hh⟩ := HPF.out.2.2.2
      rw [← HM7.out.1, ← HM7.out.2]
      exact ⟨u1, u2, u3, hv, owns_mono (hoV _ _ _ _ _ o1) HBA.out.size, owns_mono (hoV _ _ _ _ _ o2) HBA.out.size, owns_mono (hoV _ _ _ _ _ o3) HBA.out.size, hh⟩
    clear hsz hP hB7 hS1 hS2 hS3 hbV hoV
    go_region
    rw [← hX, ← hV]
    clear hV hX g0 g1 g2 g3 g4 g5 gf10 gf20 gf21 gf22 gf23 gf30 x0 x1 x2 x3 x4
    go_wp2
    refine leaves_cons (f := 64) (args := #[.pointer (some ⟨S3, 0, none⟩), .pointer (some ⟨B7, 0, none⟩), .pointer (some ⟨S1, 0, none⟩), .pointer (some ⟨S2, 0, none⟩)]) (by simp) (by simp [go_sem]) ?_
    refine (planned1_idle S3 B7 S1 S2 V z5 _).mono ?_
    rintro e u' w'' ⟨rfl, rfl, rfl⟩
    simp [Leaves, settle, results, Tryz.results32, go_sem, z0, z1, z2, z3, z4, z5]
    exact ⟨_, _, rfl, fun r' hr => by injection hr with hr; subst hr; exact ⟨HRES.out.1, HRES.out.2.1⟩, fun h => (by cases h), HRES.out.2.2⟩
  | none =>
    obtain ⟨pz, wz, mz, qz, cz, v7, k7, a7, c7, b7, d7, e7, f7, hpw⟩ := hps
    obtain ⟨⟨x0, x1, x2, x3, x4⟩, -⟩ := hpw.cells
    have hP0 := HPW.out.1
    obtain ⟨o1, o2, o3⟩ := ftl_rows HPW.out.2.2.2
    have hne7 := HPW.out.2.2.2
    have HFT : Hid (FtlOwn w5 A.heap.size (.agg #[.slice a6 ps.length c6, .slice b6 ws.length d6, .slice e6 ms.length f6, .int .i64 q]) ps ws ms q) := by
      obtain ⟨u1, u2, u3, hv, r1, r2, r3, hh⟩ := HPW.out.2.2.2
      injection hv with hv
      simp at hv
      obtain ⟨rfl, rfl, rfl⟩ := hv
      refine ⟨_, _, _, rfl, ?_, ?_, ?_, hh⟩
      · exact hf5.row r1 (by decide) (fun k hk => by have := kind_ne r1 hP0 (by decide); rw [hk] at this; simp at this; exact ⟨this, this, this⟩)
      · exact hf5.row r2 (by decide) (fun k hk => by have := kind_ne r2 hP0 (by decide); rw [hk] at this; simp at this; exact ⟨this, this, this⟩)
      · exact hf5.row r3 (by decide) (fun k hk => by have := kind_ne r3 hP0 (by decide); rw [hk] at this; simp at this; exact ⟨this, this, this⟩)
    have hk5 : w5.heap[w2.heap.size]? = some (.cells #[.slice a6 ps.length c6, .slice b6 ws.length d6, .slice e6 ms.length f6, .int .i64 q] 34 (0, 0)) := by
      refine (hf5.2 w2.heap.size (lt_of_block HK7.out) (by omega) (by omega) (by omega) (fun c' fz' hx => ?_)).trans HK7.out
      rw [HK7.out] at hx
      injection hx with hx
      injection hx with _ hx _
      exact absurd hx (by decide)
    have y0 : w5.cell? ⟨w2.heap.size, 0, none⟩ = some (.slice a6 ps.length c6) := wk_cell hk5 rfl
    have y1 : w5.cell? ⟨w2.heap.size, 1, none⟩ = some (.slice b6 ws.length d6) := wk_cell hk5 rfl
    have y2 : w5.cell? ⟨w2.heap.size, 2, none⟩ = some (.slice e6 ms.length f6) := wk_cell hk5 rfl
    have y3 : w5.cell? ⟨w2.heap.size, 3, none⟩ = some (.int .i64 q) := wk_cell hk5 rfl
    clear hb5 hf5 hy hpw HP1 HNR HPW HK7 gf1 gf2 gf3 hP0 o1 o2 o3 hne7 hk5
    go_wp2_with fail
    generalize hP : w2.heap.size + 1 = P at x0 x1 x2 x3 x4 ⊢
    generalize hB7 : w2.heap.size = B7 at y0 y1 y2 y3 ⊢
    generalize hS1 : w.heap.size + 1 = S1 at g0 g1 g2 g3 g4 g5 gf10 gf20 gf21 gf22 gf23 gf30 ⊢
    generalize hS2 : S1 + 1 = S2 at g1 g2 g3 g4 g5 gf20 gf21 gf22 gf23 gf30 ⊢
    generalize hS3 : S2 + 1 = S3 at g5 gf30 ⊢
    have i1 : ¬ S1 = S2 := by omega
    have i2 : ¬ S1 = S3 := by omega
    have i3 : ¬ S2 = S3 := by omega
    have i4 : ¬ S2 = S1 := by omega
    have i5 : ¬ S3 = S1 := by omega
    have i6 : ¬ S3 = S2 := by omega
    have i7 : ¬ S1 = P := by omega
    have i8 : ¬ S2 = P := by omega
    have i9 : ¬ S3 = P := by omega
    have j7 : ¬ P = S1 := by omega
    have j8 : ¬ P = S2 := by omega
    have j9 : ¬ P = S3 := by omega
    obtain ⟨X, hX⟩ : ∃ X, X = (((((((w5.setCell ⟨S3, 0, none⟩ (.bool false)).setCell ⟨S1, 0, none⟩ (.slice v7 cz.length k7)).setCell ⟨S2, 0, none⟩ (.slice a7 pz.length c7)).setCell ⟨S2, 1, none⟩ (.slice b7 wz.length d7)).setCell ⟨S2, 2, none⟩ (.slice e7 mz.length f7)).setCell ⟨S2, 3, none⟩ (.int .i64 qz)).setCell ⟨S3, 0, none⟩ (.bool false)) := ⟨_, rfl⟩
    obtain ⟨V, hV⟩ : ∃ V, V = X.drew := ⟨_, rfl⟩
    have hfin : ResK w.heap.size A.heap.size w w5 V := by
      rw [hV, hX]
      have h1 : w.heap.size ≤ S1 ∧ S1 < A.heap.size := by have := HSA.out; omega
      have h2 : w.heap.size ≤ S2 ∧ S2 < A.heap.size := by have := HSA.out; omega
      have h3 : w.heap.size ≤ S3 ∧ S3 < A.heap.size := by have := HSA.out; omega
      exact ((((((((show ResK w.heap.size A.heap.size w w5 w5 from ⟨HBW.out, fun _ _ _ _ _ h => h⟩).set h3 _ _).set h1 _ _).set h2 _ _).set h2 _ _).set h2 _ _).set h2 _ _).set h3 _ _).drew
    obtain ⟨z0, z1, z2, z3, z4, z5⟩ := res_cells g0 g1 g2 g3 g4 g5 i1 i2 i3 X hX
    have z0 : V.cell? ⟨S1, 0, none⟩ = some (.slice v7 cz.length k7) := by rw [hV]; simpa using z0
    have z1 : V.cell? ⟨S2, 0, none⟩ = some (.slice a7 pz.length c7) := by rw [hV]; simpa using z1
    have z2 : V.cell? ⟨S2, 1, none⟩ = some (.slice b7 wz.length d7) := by rw [hV]; simpa using z2
    have z3 : V.cell? ⟨S2, 2, none⟩ = some (.slice e7 mz.length f7) := by rw [hV]; simpa using z3
    have z4 : V.cell? ⟨S2, 3, none⟩ = some (.int .i64 qz) := by rw [hV]; simpa using z4
    have z5 : V.cell? ⟨S3, 0, none⟩ = some (.bool false) := by rw [hV]; simpa using z5
    obtain ⟨hbV, hoV⟩ := hfin
    have l1 : ¬ S1 = B7 := by omega
    have l2 : ¬ S2 = B7 := by omega
    have l3 : ¬ S3 = B7 := by omega
    have hyV : ∀ {o : Nat} {v : Value}, w5.cell? ⟨B7, o, none⟩ = some v → V.cell? ⟨B7, o, none⟩ = some v := fun hc => by
      rw [hV, hX]
      have := cell_other (u := .bool false) (k := 0) (cell_other (u := .int .i64 qz) (k := 3) (cell_other (u := .slice e7 mz.length f7) (k := 2) (cell_other (u := .slice b7 wz.length d7) (k := 1) (cell_other (u := .slice a7 pz.length c7) (k := 0) (cell_other (u := .slice v7 cz.length k7) (k := 0) (cell_other (u := .bool false) (k := 0) hc l3) l1) l2) l2) l2) l2) l3
      simpa using this
    have t0 := hyV y0
    have t1 := hyV y1
    have t2 := hyV y2
    have t3 := hyV y3
    have vf0 : V.frozen? ⟨S1, 0, none⟩ = false := by rw [hV, hX]; simpa using gf10
    have vf1 : V.frozen? ⟨S2, 0, none⟩ = false := by rw [hV, hX]; simpa using gf20
    have vf2 : V.frozen? ⟨S2, 1, none⟩ = false := by rw [hV, hX]; simpa using gf21
    have vf3 : V.frozen? ⟨S2, 2, none⟩ = false := by rw [hV, hX]; simpa using gf22
    have vf4 : V.frozen? ⟨S2, 3, none⟩ = false := by rw [hV, hX]; simpa using gf23
    obtain ⟨U, hU⟩ : ∃ U, U = ((((V.setCell ⟨S1, 0, none⟩ (.slice none 0 0)).setCell ⟨S2, 0, none⟩ (.slice a6 ps.length c6)).setCell ⟨S2, 1, none⟩ (.slice b6 ws.length d6)).setCell ⟨S2, 2, none⟩ (.slice e6 ms.length f6)).setCell ⟨S2, 3, none⟩ (.int .i64 q) := ⟨_, rfl⟩
    have s0 : U.cell? ⟨S1, 0, none⟩ = some (.slice none 0 0) := by rw [hU]; exact cell_other (cell_other (cell_other (cell_other (cell_set z0) i4) i4) i4) i4
    have s1 : U.cell? ⟨S2, 0, none⟩ = some (.slice a6 ps.length c6) := by rw [hU]; exact cell_side (cell_side (cell_side (cell_set (cell_other z1 i1)) (by decide)) (by decide)) (by decide)
    have s2 : U.cell? ⟨S2, 1, none⟩ = some (.slice b6 ws.length d6) := by rw [hU]; exact cell_side (cell_side (cell_set (cell_side (cell_other z2 i1) (by decide))) (by decide)) (by decide)
    have s3 : U.cell? ⟨S2, 2, none⟩ = some (.slice e6 ms.length f6) := by rw [hU]; exact cell_side (cell_set (cell_side (cell_side (cell_other z3 i1) (by decide)) (by decide))) (by decide)
    have s4 : U.cell? ⟨S2, 3, none⟩ = some (.int .i64 q) := by rw [hU]; exact cell_set (cell_side (cell_side (cell_side (cell_other z4 i1) (by decide)) (by decide)) (by decide))
    have s5 : U.cell? ⟨S3, 0, none⟩ = some (.bool false) := by rw [hU]; exact cell_other (cell_other (cell_other (cell_other (cell_other z5 i2) i3) i3) i3) i3
    have hKU : ResK w.heap.size A.heap.size w w5 U := by
      rw [hU]
      have h1 : w.heap.size ≤ S1 ∧ S1 < A.heap.size := by have := HSA.out; omega
      have h2 : w.heap.size ≤ S2 ∧ S2 < A.heap.size := by have := HSA.out; omega
      exact (((((show ResK w.heap.size A.heap.size w w5 V from ⟨hbV, hoV⟩).set h1 _ _).set h2 _ _).set h2 _ _).set h2 _ _).set h2 _ _
    have HRES : Hid (ActsOwn U w.heap.size (.slice none 0 0) [] ∧ FtlOwn U w.heap.size (.agg #[.slice a6 ps.length c6, .slice b6 ws.length d6, .slice e6 ms.length f6, .int .i64 q]) ps ws ms q ∧ Below w.heap.size w U) := by
      refine ⟨World.ownsRow_nil _ _ _ _, ?_, hKU.1⟩
      obtain ⟨u1, u2, u3, hv, o1, o2, o3, hh⟩ := HFT.out
      exact ⟨u1, u2, u3, hv, owns_mono (hKU.2 _ _ _ _ _ o1) HBA.out.size, owns_mono (hKU.2 _ _ _ _ _ o2) HBA.out.size, owns_mono (hKU.2 _ _ _ _ _ o3) HBA.out.size, hh⟩
    clear hsz hP hB7 hS1 hS2 hS3 hbV hoV hKU hyV
    go_region
    rw [← hX, ← hV]
    have HD := hide (planned1_back S3 B7 S1 S2 V a6 b6 e6 ps.length ws.length ms.length c6 d6 f6 q _ _ _ _ _ z5 t0 t1 t2 t3 z1 z2 z3 z4 z0 vf1 vf2 vf3 vf4 vf0 i1 .returning)
    rw [← hU] at HD
    clear hV hX hU g0 g1 g2 g3 g4 g5 gf10 gf20 gf21 gf22 gf23 gf30 x0 x1 x2 x3 x4 y0 y1 y2 y3 z0 z1 z2 z3 z4 z5 t0 t1 t2 t3 vf0 vf1 vf2 vf3 vf4
    go_wp2
    refine leaves_cons (f := 64) (args := #[.pointer (some ⟨S3, 0, none⟩), .pointer (some ⟨B7, 0, none⟩), .pointer (some ⟨S1, 0, none⟩), .pointer (some ⟨S2, 0, none⟩)]) (by simp) (by simp [go_sem]) ?_
    refine HD.out.mono ?_
    rintro e u' w'' ⟨rfl, rfl, hw⟩
    have hw' := hw.symm
    subst hw'
    simp [Leaves, settle, results, Tryz.results32, go_sem, s0, s1, s2, s3, s4, s5]
    exact ⟨_, _, rfl, fun r' hr => (by cases hr), fun _ => ⟨HRES.out.1, HRES.out.2.1⟩, HRES.out.2.2⟩


/-- What recover answers of whatever came in. -/
noncomputable def recoverR (ps : List ByteArray) (ws ms : List Int) (q : Int) : List (Int × Int × ByteArray) × (List ByteArray × List Int × List Int × Int) × Bool :=
  if ftlOkB ps ws ms q = true then
    match recoverX ps ws with
    | none => ([], (ps, ws, ms, q), false)
    | some r => (r.2.2, (r.1, r.2.1, mMap r.1, mSeq r.1), true)
  else ([], ([], [], [], 0), false)
theorem recoverIs_of {w w' : World} {e : Ending} {ps : List ByteArray} {ws ms : List Int} {q : Int} (hok : ftlOkB ps ws ms q = true) (h : PlanPost w w' e ps ws ms q (recoverX ps ws)) : PlanIs w w' e (recoverR ps ws ms q) := by
  obtain ⟨va, vf, he, h1, h2, hb⟩ := h
  unfold recoverR
  rw [if_pos hok]
  cases hp : recoverX ps ws with
  | none =>
    rw [hp] at he h2
    exact ⟨va, vf, he, (h2 rfl).1, (h2 rfl).2, hb⟩
  | some r =>
    rw [hp] at he h1
    exact ⟨va, vf, he, (h1 r rfl).1, (h1 r rfl).2, hb⟩

set_option maxRecDepth 100000 in
set_option maxHeartbeats 6400000 in
theorem implRecover_fn (a b e0 : Option Addr) (ps : List ByteArray) (ws ms : List Int) (c d f : Nat) (q : Int) (w : World) (hp : Rd w a (vsString ps)) (hw : Rd w b (vsInt ws)) (hms : Rd w e0 (vsInt ms)) (hl : ps.length ≤ 1048576) (hm : ws.length ≤ 1048576) (hn : ms.length ≤ 1048576) (hs : ∀ s ∈ ps, s.size ≤ 1048576) :
    Calls Tryz.prog 20 #[.agg #[.slice a ps.length c, .slice b ws.length d, .slice e0 ms.length f, .int .i64 q]] w fun e w' => PlanIs w w' e (recoverR ps ws ms q) := by
  have hmf : ∀ (fn : Fn) (first cap : Array Value) (w : World), (Instr.makeFunc fn first cap).run Tryz.prog w = .ok (.func fn first cap) w := fun _ _ _ _ => rfl
  obtain ⟨A, hA⟩ : ∃ A, A = (w.alloc (Obj.cells #[.slice a ps.length c, .slice b ws.length d, .slice e0 ms.length f, .int .i64 q] 34)).alloc (Obj.cells #[.slice none 0 0, .slice none 0 0, .slice none 0 0, .int .i64 0] 34) := ⟨_, rfl⟩
  have hsA : A.heap.size = w.heap.size + 2 := by rw [hA]; simp
  have hbA : Below w.heap.size w A := by rw [hA]; exact ((Below.refl _ _).alloc (Nat.le_refl _) _).alloc (by simp) _
  have n1 : A.cell? ⟨w.heap.size, 0, none⟩ = some (.slice a ps.length c) ∧ A.cell? ⟨w.heap.size, 1, none⟩ = some (.slice b ws.length d) ∧ A.cell? ⟨w.heap.size, 2, none⟩ = some (.slice e0 ms.length f) ∧ A.cell? ⟨w.heap.size, 3, none⟩ = some (.int .i64 q) := by rw [hA]; refine ⟨?_, ?_, ?_, ?_⟩ <;> simp [go_sem]
  have k4 : C4 A (w.heap.size + 1) (.slice none 0 0) (.slice none 0 0) (.slice none 0 0) (.int .i64 0) := by
    have := c4_new (w.alloc (Obj.cells #[.slice a ps.length c, .slice b ws.length d, .slice e0 ms.length f, .int .i64 q] 34)) (.slice none 0 0) (.slice none 0 0) (.slice none 0 0) (.int .i64 0) 34
    rw [← hA] at this
    simpa using this
  obtain ⟨R, hR⟩ : ∃ R, R = recoverR ps ws ms q := ⟨_, rfl⟩
  have HPL : Hid (Calls Tryz.prog 32 #[.agg #[.slice a ps.length c, .slice b ws.length d, .slice e0 ms.length f, .int .i64 q], .func (.func 48) #[] #[]] A fun e w' => PlanIs A w' e R) := by
    show Calls _ _ _ _ _
    rw [hR]
    cases hok : ftlOkB ps ws ms q with
    | true =>
      refine (plannedR_ok a b e0 ps ws ms c d f q A (hp.below hbA) (hw.below hbA) (hms.below hbA) hok).mono ?_
      intro e w' h
      exact recoverIs_of hok h
    | false =>
      refine (planned_bad a b e0 ps ws ms c d f q _ A (hp.below hbA) (hw.below hbA) (hms.below hbA) hl hm hn hs hok).mono ?_
      rintro e w' ⟨rfl, hb⟩
      unfold recoverR
      rw [if_neg (by rw [hok]; decide)]
      exact ⟨_, _, rfl, World.ownsRow_nil _ _ _ _, ftlOwn_zero _ _, hb⟩
  have HBA := hide hbA
  have HSA := hide hsA
  have HK4 := hide k4
  obtain ⟨m0, m1, m2, m3⟩ := id n1
  rw [← hR]
  clear hp hw hms hl hm hn hs hbA hsA n1 k4 hR
  go_enter Tryz.func20, Tryz.ntmps20
  go_wp2_with fail
  rw [← hA]
  clear hA
  refine HPL.out.mono ?_
  rintro e w1 ⟨va, vf, rfl, ha, hf, hb⟩
  obtain ⟨a1, k1, rfl⟩ := owns3_shape ha
  obtain ⟨a6, c6, b6, d6, e6, f6, rfl⟩ := hf.shape
  have HB1 := hide (HBA.out.trans (hb.mono HBA.out.size))
  obtain ⟨⟨y0, y1, y2, y3⟩, yf⟩ := HK4.out.below hb
  have yf0 := yf 0
  have yf1 := yf 1
  have yf2 := yf 2
  have yf3 := yf 3
  have HOW := hide (And.intro ha hf)
  clear HPL ha hf hb yf m0 m1 m2 m3
  generalize hg : w.heap.size + 1 = g at y0 y1 y2 y3 yf0 yf1 yf2 yf3 ⊢
  have HG : Hid (w.heap.size ≤ g ∧ g < A.heap.size) := by show _ ∧ _; have := HSA.out; omega
  clear hg
  have hfin : ∀ (x0 x1 x2 x3 : Value), Hid (ResK w.heap.size A.heap.size w w1 ((((w1.setCell ⟨g, 0, none⟩ x0).setCell ⟨g, 1, none⟩ x1).setCell ⟨g, 2, none⟩ x2).setCell ⟨g, 3, none⟩ x3)) := fun x0 x1 x2 x3 =>
    ((((show ResK w.heap.size A.heap.size w w1 w1 from ⟨HB1.out, fun _ _ _ _ _ h => h⟩).set HG.out 0 x0).set HG.out 1 x1).set HG.out 2 x2).set HG.out 3 x3
  have HFIN := hide hfin
  clear hfin
  go_wp2_with fail
  have hr := (HFIN.out (.slice a6 R.2.1.1.length c6) (.slice b6 R.2.1.2.1.length d6) (.slice e6 R.2.1.2.2.1.length f6) (.int .i64 R.2.1.2.2.2)).out
  refine bodyPost_ret (v := .tuple #[.slice a1 R.1.length k1, .agg #[.slice a6 R.2.1.1.length c6, .slice b6 R.2.1.2.1.length d6, .slice e6 R.2.1.2.2.1.length f6, .int .i64 R.2.1.2.2.2], .bool R.2.2]) (by simp [results, Tryz.results20, go_sem, y0, y1, y2, y3]) rfl ⟨_, _, rfl, owns_mono (hr.2 _ _ _ _ _ HOW.out.1) HBA.out.size, ?_, hr.1⟩
  obtain ⟨u1, u2, u3, hv, o1, o2, o3, hh⟩ := HOW.out.2
  exact ⟨u1, u2, u3, hv, owns_mono (hr.2 _ _ _ _ _ o1) HBA.out.size, owns_mono (hr.2 _ _ _ _ _ o2) HBA.out.size, owns_mono (hr.2 _ _ _ _ _ o3) HBA.out.size, hh⟩


end Go.Proofs.YtdicjbabnknjhaaGreat

namespace Go.Proofs.YtdicjbabnknjhaaGreat
open Go.RowKit
attribute [local go_sem ↓] Go.wp_at_zero Go.wp_at_succ

set_option maxHeartbeats 800000 in
theorem eqAct_same (s q : Int) (d : ByteArray) (w : World) :
    Calls Tryz.prog 38 #[.agg #[.int .i64 s, .int .i64 q, .string d], .agg #[.int .i64 s, .int .i64 q, .string d]] w fun e w' => e = .returned (.bool true) ∧ Below w.heap.size w w' := by
  have hb : Below w.heap.size w ((w.alloc (Obj.cells #[.int .i64 s, .int .i64 q, .string d] 71)).alloc (Obj.cells #[.int .i64 s, .int .i64 q, .string d] 71)) := ((Below.refl _ _).alloc (Nat.le_refl _) _).alloc (by simp) _
  go_enter Tryz.func38, Tryz.ntmps38
  go_wp2
  go_ret
  exact ⟨rfl, hb⟩

set_option maxRecDepth 100000 in
set_option maxHeartbeats 1600000 in
theorem eqActS_same (a b : Option Addr) (xs : List (Int × Int × ByteArray)) (c d : Nat) (w : World) (hr : Rd w a (vsAct xs)) (hs : Rd w b (vsAct xs)) (hm : xs.length ≤ 1048576) :
    Calls Tryz.prog 11 #[.slice a xs.length c, .slice b xs.length d] w fun e w' => e = .returned (.bool true) ∧ Below w.heap.size w w' := by
  have HR := hide hr
  have HS := hide hs
  clear hr hs
  go_enter Tryz.func11, Tryz.ntmps11
  go_wp2
  go_loopw [5] (fun i wr => ∃ k : Nat, k ≤ xs.length ∧ i = .int .i64 k ∧ Below w.heap.size w wr) (fun i _ => xs.length - (intOf i).toNat)
  case atStart => exact ⟨0, Nat.zero_le _, rfl, Below.refl _ _⟩
  case round =>
    obtain ⟨k, hk, rfl, hbel⟩ := hrel
    by_cases hlt : k < xs.length
    · obtain ⟨b1, o1, x, rfl, h0, h1, h2, HX⟩ := rdAct_at (HR.out.below hbel) hlt
      obtain ⟨b2, o2, y, rfl, j0, j1, j2, HY⟩ := rdAct_at (HS.out.below hbel) hlt
      have hxy : x = y := by have h := HX.out; rw [HY.out] at h; exact (Option.some.inj h).symm
      subst hxy
      obtain ⟨s, q, t⟩ := x
      have hk0 : (k : Int) < (xs.length : Int) := by omega
      have HC : Hid (∀ u, Below wr.heap.size wr.drew u → u.cell? ⟨b1, o1 + k * 3, none⟩ = some (.int .i64 s) ∧ u.cell? ⟨b1, o1 + k * 3 + 1, none⟩ = some (.int .i64 q) ∧ u.cell? ⟨b1, o1 + k * 3 + 2, none⟩ = some (.string t) ∧ u.cell? ⟨b2, o2 + k * 3, none⟩ = some (.int .i64 s) ∧ u.cell? ⟨b2, o2 + k * 3 + 1, none⟩ = some (.int .i64 q) ∧ u.cell? ⟨b2, o2 + k * 3 + 2, none⟩ = some (.string t)) := by
        intro u hu
        have l1 := lt_of_cell h0
        have l2 := lt_of_cell j0
        exact ⟨(hu.cell (p := ⟨b1, o1 + k * 3, none⟩) l1).trans (by simpa using h0), (hu.cell (p := ⟨b1, o1 + k * 3 + 1, none⟩) l1).trans (by simpa using h1), (hu.cell (p := ⟨b1, o1 + k * 3 + 2, none⟩) l1).trans (by simpa using h2), (hu.cell (p := ⟨b2, o2 + k * 3, none⟩) l2).trans (by simpa using j0), (hu.cell (p := ⟨b2, o2 + k * 3 + 1, none⟩) l2).trans (by simpa using j1), (hu.cell (p := ⟨b2, o2 + k * 3 + 2, none⟩) l2).trans (by simpa using j2)⟩
      have HB := hide hbel
      clear HX HY hbel
      go_wp2
      go_region_held (fun u => u.cell? ⟨b1, o1 + k * 3, none⟩ = some (.int .i64 s) ∧ u.cell? ⟨b1, o1 + k * 3 + 1, none⟩ = some (.int .i64 q) ∧ u.cell? ⟨b1, o1 + k * 3 + 2, none⟩ = some (.string t) ∧ u.cell? ⟨b2, o2 + k * 3, none⟩ = some (.int .i64 s) ∧ u.cell? ⟨b2, o2 + k * 3 + 1, none⟩ = some (.int .i64 q) ∧ u.cell? ⟨b2, o2 + k * 3 + 2, none⟩ = some (.string t)) (first | assumption | go_keep)
        ((go_at_call 38; refine (eqAct_same s q t _).mono ?_; rintro e w1 ⟨rfl, hb1⟩; have HB1 : Hid (Below wr.heap.size wr w1) := after (after_drew (Below.refl _ _) 1) hb1; have hc1 := HC.out w1 (after (Below.refl _ _) hb1); clear hb1))
      have HBW := hide (after HB.out HB1.out)
      clear hc1 HC h0 h1 h2 j0 j1 j2
      go_wp2
      go_roundw
      case rel => exact ⟨k + 1, by omega, by go_num, HBW.out⟩
      case measure => simp [intOf]; omega
    · have hkl : k = xs.length := by omega
      subst hkl
      go_wp2
      go_ret
      exact ⟨rfl, hbel⟩

/-- The marks of acts. -/
def marksA (q n : Nat) : List Value := (List.range n).flatMap fun (i : Nat) => [.int .i64 ((q : Int) + (i : Int) * 3), .int .i64 ((q : Int) + (i : Int) * 3 + 1), .string (mtext (q + i * 3 + 2))]
theorem marksA_step (q n : Nat) : marksA q (n + 1) = marksA q n ++ [.int .i64 ((q : Int) + (n : Int) * 3), .int .i64 ((q : Int) + (n : Int) * 3 + 1), .string (mtext (q + n * 3 + 2))] := by simp [marksA, List.range_succ]
theorem marksA_len (q n : Nat) : (marksA q n).length = n * 3 := by
  induction n with
  | zero => rfl
  | succ n ih => rw [marksA_step, List.length_append, ih]; simp; omega
theorem marksA_at (q : Nat) : ∀ (n k : Nat), k < n → (marksA q n)[k * 3]? = some (.int .i64 ((q : Int) + (k : Int) * 3)) ∧ (marksA q n)[k * 3 + 1]? = some (.int .i64 ((q : Int) + (k : Int) * 3 + 1)) ∧ (marksA q n)[k * 3 + 2]? = some (.string (mtext (q + k * 3 + 2))) := by
  intro n
  induction n with
  | zero => intro k hk; omega
  | succ n ih =>
    intro k hk
    have hl := marksA_len q n
    rw [marksA_step]
    by_cases h : k < n
    · obtain ⟨h0, h1, h2⟩ := ih k h
      rw [List.getElem?_append_left (by omega), List.getElem?_append_left (by omega), List.getElem?_append_left (by omega)]
      exact ⟨h0, h1, h2⟩
    · obtain rfl : k = n := by omega
      rw [List.getElem?_append_right (by omega), List.getElem?_append_right (by omega), List.getElem?_append_right (by omega), hl]
      simp
def markedA (q : Nat) (xs : List Value) (k : Nat) : List Value := marksA q k ++ xs.drop (k * 3)
theorem markedA_step {q : Nat} {xs : List Value} {k : Nat} (h : k * 3 + 2 < xs.length) :
    (((markedA q xs k).set (k * 3) (.int .i64 ((q : Int) + (k : Int) * 3))).set (k * 3 + 1) (.int .i64 ((q : Int) + (k : Int) * 3 + 1))).set (k * 3 + 2) (.string (mtext (q + k * 3 + 2))) = markedA q xs (k + 1) := by
  have hl := marksA_len q k
  have hd : ∃ a b c, xs.drop (k * 3) = a :: b :: c :: xs.drop ((k + 1) * 3) := by
    refine ⟨xs[k * 3], xs[k * 3 + 1], xs[k * 3 + 1 + 1], ?_⟩
    rw [List.drop_eq_getElem_cons (i := k * 3) (by omega), List.drop_eq_getElem_cons (i := k * 3 + 1) (by omega), List.drop_eq_getElem_cons (i := k * 3 + 1 + 1) (by omega), show (k + 1) * 3 = k * 3 + 1 + 1 + 1 by omega]
  obtain ⟨a, b, c, hd⟩ := hd
  unfold markedA
  rw [marksA_step, hd, List.set_append_right _ _ (by omega), List.set_append_right _ _ (by omega), List.set_append_right _ _ (by omega), hl]
  rw [show k * 3 - k * 3 = 0 by omega, show k * 3 + 1 - k * 3 = 1 by omega, show k * 3 + 2 - k * 3 = 2 by omega]
  simp

set_option maxHeartbeats 1600000 in
theorem markActS_any (v : Value) (n : Nat) (xs : List Value) (base q : Nat) (w : World) (ho : w.ownsRow base 71 3 v n xs) (hm : n ≤ 1048576) (hq : q ≤ 10000000) :
    Calls Tryz.prog 16 #[v, .int .i64 q] w fun e w' => e = .returned (.int .i64 ((q + n * 3 : Nat) : Int)) ∧ w'.ownsRow base 71 3 v n (marksA q n) ∧ w.grownBy w' v.ownBlock := by
  rcases id ho with ⟨hl, ⟨rfl, rfl⟩ | ⟨g, cap, cur, rfl, hg, -⟩⟩
  · go_enter Tryz.func16, Tryz.ntmps16
    go_wp2
    go_loop [1, 5] (fun k i => k = .int .i64 q ∧ i = .int .i64 0) (fun _ _ => 0)
    case atStart => exact ⟨rfl, rfl⟩
    case round =>
      obtain ⟨rfl, rfl⟩ := hrel
      go_wp2
      go_ret
      exact ⟨rfl, World.ownsRow_nil _ _ _ _, World.grownBy.refl _ _⟩
  · have HLN : Hid (xs.length = n * 3) := by show _ = _; simpa using hl
    clear hl
    have hgw : g < w.heap.size := (owns_lt ho).2
    go_enter Tryz.func16, Tryz.ntmps16
    go_wp2
    go_loopw [1, 5] (fun kk i wr => ∃ k : Nat, k ≤ n ∧ i = .int .i64 k ∧ kk = .int .i64 ((q : Int) + (k : Int) * 3) ∧ Hid (wr.ownsRow base 71 3 (.slice (some ⟨g, 0, none⟩) n cap) n (markedA q xs k)) ∧ Hid (w.grownBy wr (some g))) (fun _ i _ => n - (intOf i).toNat)
    case atStart => exact ⟨0, Nat.zero_le _, rfl, rfl, by show World.ownsRow _ _ _ _ _ _ _; simpa [markedA, marksA] using ho, World.grownBy.refl _ _⟩
    case round =>
      obtain ⟨k, hk, rfl, rfl, hown, hgrow⟩ := hrel
      by_cases hlt : k < n
      · clear ho
        have hlen : (markedA q xs k).length = n * 3 := by have := hown.out.1; omega
        have hk2 : k * 3 + 2 < n * 3 := by omega
        have cA : ∀ j, j < n * 3 → ∃ u, wr.cell? ⟨g, j, none⟩ = some u := fun j hj => ⟨(markedA q xs k)[j], by rw [hown.out.cellAt j (by omega)]; simp [hlen, hj]⟩
        obtain ⟨u0, hc0⟩ := cA (k * 3) (by omega)
        obtain ⟨u1, hc1⟩ := cA (k * 3 + 1) (by omega)
        have hf0 := hown.out.frozenAt (k * 3)
        have hf1 := hown.out.frozenAt (k * 3 + 1)
        have hs0 := hown.out.stored (k * 3) (.int .i64 ((q : Int) + (k : Int) * 3))
        have hs1 := hs0.1.stored (k * 3 + 1) (.int .i64 ((q : Int) + (k : Int) * 3 + 1))
        obtain ⟨W2, hW2⟩ : ∃ W2, W2 = (wr.setCell ⟨g, k * 3, none⟩ (.int .i64 ((q : Int) + (k : Int) * 3))).setCell ⟨g, k * 3 + 1, none⟩ (.int .i64 ((q : Int) + (k : Int) * 3 + 1)) := ⟨_, rfl⟩
        have HO2 := hide hs1.1
        rw [← hW2] at HO2
        have HG2 := hide (grown_trans hgrow.out (grown_trans hs0.2 hs1.2))
        rw [← hW2] at HG2
        have HMT : Hid (Calls Tryz.prog 44 #[.int .i64 ((q : Int) + (k : Int) * 3 + 1 + 1)] W2 fun e w' => e = .returned (.string (mtext (q + k * 3 + 2))) ∧ Below W2.heap.size W2 w') := by
          show Calls _ _ _ _ _
          rw [show (q : Int) + (k : Int) * 3 + 1 + 1 = ((q + k * 3 + 2 : Nat) : Int) by omega]
          exact markText_any (q + k * 3 + 2) W2 (by omega) (by omega)
        have hkI : (k : Int) < (n : Int) := by omega
        clear hs0 hs1 cA hown hgrow
        go_wp2_with fail
        rw [← hW2]
        refine HMT.out.mono ?_
        rintro e w1 ⟨rfl, hb1⟩
        have hown1 := owns_below HO2.out hb1
        have hf2 := hown1.frozenAt (k * 3 + 2)
        have hcell : ∃ u, w1.cell? ⟨g, k * 3 + 2, none⟩ = some u := by
          have h1 := hown1.cellAt (k * 3 + 2) (by omega)
          have h2 := hown1.1
          exact ⟨_, h1.trans (List.getElem?_eq_getElem (by omega))⟩
        obtain ⟨u2, hcell⟩ := hcell
        have hs2 := hown1.stored (k * 3 + 2) (.string (mtext (q + k * 3 + 2)))
        have hg1 : w.grownBy w1 (some g) := ⟨hb1.os.trans HG2.out.os, hb1.tape.trans HG2.out.tape, hb1.output.trans HG2.out.output, Nat.le_trans HG2.out.size hb1.size, fun i hi hne => (hb1.block i (Nat.lt_of_lt_of_le hi HG2.out.size)).trans (HG2.out.block i hi hne)⟩
        have HOF : Hid ((w1.setCell ⟨g, k * 3 + 2, none⟩ (.string (mtext (q + k * 3 + 2)))).ownsRow base 71 3 (.slice (some ⟨g, 0, none⟩) n cap) n (markedA q xs (k + 1))) := by
          show World.ownsRow _ _ _ _ _ _ _
          rw [← markedA_step (by rw [HLN.out]; exact hk2)]
          exact hs2.1
        have HGF := hide (grown_trans hg1 hs2.2)
        clear hs2 hown1 hg1 hb1 HMT HO2 HG2 hW2 hc0 hc1 hf0 hf1
        go_wp2
        go_roundw
        case rel => exact ⟨k + 1, by omega, by go_num, by go_num, HOF, HGF⟩
        case measure => simp [intOf]; omega
      · have hkn : k = n := by omega
        subst hkn
        have HOE : Hid (wr.ownsRow base 71 3 (.slice (some ⟨g, 0, none⟩) k cap) k (marksA q k)) := by
          have e : markedA q xs k = marksA q k := by simp [markedA, HLN.out]
          show World.ownsRow _ _ _ _ _ _ _
          rw [← e]; exact hown.out
        clear ho hown
        go_wp2
        go_ret
        exact ⟨rfl, HOE.out, hgrow.out⟩

set_option maxRecDepth 100000 in
set_option maxHeartbeats 1600000 in
theorem heldActS_any (v : Value) (n : Nat) (base q : Nat) (w : World) (ho : w.ownsRow base 71 3 v n (marksA q n)) (hm : n ≤ 1048576) (hq : q ≤ 10000000) :
    Calls Tryz.prog 17 #[v, .int .i64 q] w fun e w' => e = .returned (.int .i64 ((q + n * 3 : Nat) : Int)) ∧ Below w.heap.size w w' := by
  rcases id ho with ⟨hl, ⟨rfl, rfl⟩ | ⟨g, cap, cur, rfl, hg, -⟩⟩
  · go_enter Tryz.func17, Tryz.ntmps17
    go_wp2
    go_loop [1, 5] (fun k i => k = .int .i64 q ∧ i = .int .i64 0) (fun _ _ => 0)
    case atStart => exact ⟨rfl, rfl⟩
    case round =>
      obtain ⟨rfl, rfl⟩ := hrel
      go_wp2
      go_ret
      exact ⟨rfl, Below.refl _ _⟩
  · clear hl
    have HOW := hide ho
    clear ho
    go_enter Tryz.func17, Tryz.ntmps17
    go_wp2
    go_loopw [1, 5] (fun kk i wr => ∃ k : Nat, k ≤ n ∧ i = .int .i64 k ∧ kk = .int .i64 ((q : Int) + (k : Int) * 3) ∧ Below w.heap.size w wr) (fun _ i _ => n - (intOf i).toNat)
    case atStart => exact ⟨0, Nat.zero_le _, rfl, by simp, Below.refl _ _⟩
    case round =>
      obtain ⟨k, hk, rfl, rfl, hbel⟩ := hrel
      by_cases hlt : k < n
      · have HC : Hid (∀ u, Below w.heap.size w u → u.cell? ⟨g, k * 3, none⟩ = some (.int .i64 ((q : Int) + (k : Int) * 3)) ∧ u.cell? ⟨g, k * 3 + 1, none⟩ = some (.int .i64 ((q : Int) + (k : Int) * 3 + 1)) ∧ u.cell? ⟨g, k * 3 + 2, none⟩ = some (.string (mtext (q + k * 3 + 2)))) := by
          intro u hu
          have h := owns_below HOW.out hu
          obtain ⟨h0, h1, h2⟩ := marksA_at q n k hlt
          exact ⟨(h.cellAt (k * 3) (by omega)).trans h0, (h.cellAt (k * 3 + 1) (by omega)).trans h1, (h.cellAt (k * 3 + 2) (by omega)).trans h2⟩
        obtain ⟨c0, c1, c2⟩ := HC.out wr hbel
        have HB := hide hbel
        have hkI : (k : Int) < (n : Int) := by omega
        have hk0 : (0 : Int) ≤ (k : Int) := by omega
        have hq0 : (0 : Int) ≤ (q : Int) := by omega
        have HMT : Hid (∀ u, Calls Tryz.prog 44 #[.int .i64 ((q : Int) + (k : Int) * 3 + 1 + 1)] u fun e w' => e = .returned (.string (mtext (q + k * 3 + 2))) ∧ Below u.heap.size u w') := by
          intro u
          rw [show (q : Int) + (k : Int) * 3 + 1 + 1 = ((q + k * 3 + 2 : Nat) : Int) by omega]
          exact markText_any (q + k * 3 + 2) u (by omega) (by omega)
        clear hbel
        go_wp2
        go_region_held (fun w' => w'.cell? ⟨g, k * 3 + 2, none⟩ = some (.string (mtext (q + k * 3 + 2)))) (first | assumption | go_keep)
          ((go_at_call 44; refine (HMT.out _).mono ?_; rintro e w1 ⟨rfl, hb1⟩; have HB1 : Hid (Below w.heap.size w w1) := after (after_drew HB.out 1) hb1; have hc1 := (HC.out w1 HB1.out).2.2; clear hb1))
        clear hc1 HC c0 c1 c2 HMT
        go_wp2
        go_roundw
        case rel => exact ⟨k + 1, by omega, by go_num, by go_num, HB1.out⟩
        case measure => simp [intOf]; omega
      · have hkn : k = n := by omega
        subst hkn
        go_wp2
        go_ret
        exact ⟨by go_num, hbel⟩
end Go.Proofs.YtdicjbabnknjhaaGreat
