/-
  Contracts of the program's folder.fits and file.fits.
-/
import Derived.Test.YtmolhhljodlhaaaKidKit
import Derived.Test.YtmolhhljodlhaaaNodeMath
namespace Go.Proofs.Ytmolhhljodlhaaa
open Go.RowKit Go.Deep
set_option maxRecDepth 100000
set_option linter.unusedVariables false

theorem fileFits_any (s : ByteArray) (hs : s.size ≤ 9223372036854775807) (w : World) :
    Calls Try.prog 86 #[.string s] w fun e w' => e = .returned (.bool (decide (s.size ≤ 60))) ∧ w' = w := by
  go_enter Try.func86, Try.ntmps86
  go_wp2
  go_ret
  refine ⟨?_, rfl⟩
  show Ending.returned (.bool (decide ((s.size : Int) ≤ 60))) = _
  exact ret_bool (by simp; omega)

/-- Which numbers were met. -/
def MetOk (u : World) (m : Nat) (K : List (ByteArray × Int)) (k : Nat) : Prop := m < u.heap.size ∧ (∀ j : Nat, j < 12 → u.cell? ⟨m, j, none⟩ = some (.bool (metZ K k (j : Int)))) ∧ ∀ j, u.frozen? ⟨m, j, none⟩ = false
theorem metOk_new (u : World) (K : List (ByteArray × Int)) (t : TypeId) : MetOk (u.alloc (.cells #[.bool false, .bool false, .bool false, .bool false, .bool false, .bool false, .bool false, .bool false, .bool false, .bool false, .bool false, .bool false] t)) u.heap.size K 0 :=
  ⟨by simp, fun j hj => by
    rw [metZ_none]
    rw [World.cell?_alloc_new]
    match j, hj with
    | 0, _ => rfl | 1, _ => rfl | 2, _ => rfl | 3, _ => rfl | 4, _ => rfl | 5, _ => rfl | 6, _ => rfl | 7, _ => rfl | 8, _ => rfl | 9, _ => rfl | 10, _ => rfl | 11, _ => rfl, fun j => by simp⟩
theorem MetOk.below {u u' : World} {m : Nat} {K : List (ByteArray × Int)} {k : Nat} (h : MetOk u m K k) (hb : Below u.heap.size u u') : MetOk u' m K k :=
  ⟨Nat.lt_of_lt_of_le h.1 hb.size, fun j hj => (hb.cell (p := ⟨m, j, none⟩) h.1).trans (h.2.1 j hj), fun j => (hb.frozen (p := ⟨m, j, none⟩) h.1).trans (h.2.2 j)⟩
theorem MetOk.step {u : World} {m : Nat} {K : List (ByteArray × Int)} {k : Nat} {x : ByteArray × Int} {z : Nat} (h : MetOk u m K k) (hx : K[k]? = some x) (hz : x.2 = (z : Int)) (hz1 : z < 12) : MetOk (u.setCell ⟨m, z, none⟩ (.bool true)) m K (k + 1) := by
  refine ⟨by simpa [World.setCell] using h.1, fun j hj => ?_, fun j => by simpa using h.2.2 j⟩
  rw [metZ_step hx]
  by_cases hjz : j = z
  · subst hjz
    rw [World.cell?_setCell_same _ _ _ (h.2.1 j hj)]
    simp [hz]
  · rw [World.cell?_setCell_other _ _ _ _ (by intro e; injection e with e1 e2; omega), h.2.1 j hj]
    have : (x.2 == (j : Int)) = false := by rw [hz]; simp; omega
    rw [this, Bool.or_false]

set_option maxHeartbeats 3200000 in
theorem folderFits_any (a : Option Addr) (K : List (ByteArray × Int)) (c : Nat) (w : World) (hr : Rd w a (vsKid K)) (hl : K.length ≤ 1048576) (hs : ∀ x ∈ K, x.1.size ≤ 1048576) :
    Calls Try.prog 83 #[.slice a K.length c] w fun e w' => e = .returned (.bool (fitsB K)) ∧ Below w.heap.size w w' := by
  have HR := hide hr
  have HS := hide hs
  clear hr hs
  go_enter Try.func83, Try.ntmps83
  go_wp2_with fail
  have hm1 := metOk_new w K 101
  have hb1 : Below w.heap.size w (w.alloc (Obj.cells #[.bool false, .bool false, .bool false, .bool false, .bool false, .bool false, .bool false, .bool false, .bool false, .bool false, .bool false, .bool false] 101)) := (Below.refl _ _).alloc (Nat.le_refl _) _
  obtain ⟨m, hm⟩ : ∃ m, m = w.heap.size := ⟨_, rfl⟩
  rw [← hm] at hm1 hb1 ⊢
  have HM := hide hm
  clear hm
  go_loopw [4, 9] (fun l i wr => ∃ k : Nat, k ≤ K.length ∧ i = .int .i64 k ∧ l = .string (lastK K k) ∧ Hid (PreK K k) ∧ Hid (MetOk wr m K k) ∧ Hid (Below m w wr)) (fun _ i _ => K.length - (intOf i).toNat)
  case atStart => exact ⟨0, Nat.zero_le _, rfl, rfl, preK_zero K, hm1, hb1⟩
  case round =>
    obtain ⟨k, hk, rfl, rfl, hpre, hmet, hbel⟩ := hrel
    clear hm1 hb1
    by_cases hlt : k < K.length
    · have hki : (k : Int) < (K.length : Int) := by omega
      obtain ⟨b, o, x, rfl, h0, h1, HX⟩ := rdKid_at (HR.out.below (HM.out ▸ hbel.out)) hlt
      have hxs : x.1.size ≤ 9223372036854775807 := by have := HS.out x (List.mem_of_getElem? HX.out); omega
      obtain ⟨s, z⟩ := x
      obtain ⟨L, hL⟩ : ∃ L, L = lastK K k := ⟨_, rfl⟩
      rw [← hL]
      have HL := hide hL
      clear hL
      have hmb : m < wr.heap.size := hmet.out.1
      go_wp2_with fail
      refine (implNameOk_any s hxs _).mono ?_
      rintro e u ⟨rfl, hu⟩
      have hu' := hu.symm
      subst hu'
      have hbA : Below wr.heap.size wr (wr.alloc (Obj.cells #[.string s, .int .i64 z] 62)) := (Below.refl _ _).alloc (Nat.le_refl _) _
      have HBA := hide (hbel.out.trans (hbA.mono (by have := hbel.out.size; have := HM.out; omega)))
      have HMA := hide (hmet.out.below hbA)
      clear hbA
      have HG : Hid (goodB K k (s, z) = (nameB s && lessB L s && (decide (1 ≤ z) && decide (z ≤ 11)) && !metZ K k z)) := by show _ = _; rw [HL.out]; rfl
      cases hN : nameB s with
      | false =>
        have HF : Hid (fitsB K = false) := preK_bad HX.out (by rw [HG.out, hN]; rfl)
        clear h0 h1 hmb
        go_wp2
        go_ret
        exact ⟨by rw [HF.out]; rfl, HM.out ▸ HBA.out⟩
      | true =>
        have hle : (Op.bytesLess s.toList L.toList || s.toList == L.toList) = (!lessB L s) := lessB_leq L s
        cases hO : lessB L s with
        | false =>
          rw [hO] at hle
          have HF : Hid (fitsB K = false) := preK_bad HX.out (by rw [HG.out, hN, hO]; rfl)
          clear h0 h1 hmb
          go_wp2
          go_ret
          exact ⟨by rw [HF.out]; rfl, HM.out ▸ HBA.out⟩
        | true =>
          rw [hO] at hle
          replace hle : (Op.bytesLess s.toList L.toList || s.toList == L.toList) = false := hle
          have hle1 : Op.bytesLess s.toList L.toList = false := by cases h : Op.bytesLess s.toList L.toList <;> simp_all
          have hle2 : (s.toList == L.toList) = false := by cases h : (s.toList == L.toList) <;> simp_all
          have hc0 : (wr.alloc (Obj.cells #[.string s, .int .i64 z] 62)).cell? ⟨wr.heap.size, 0, none⟩ = some (.string s) := by simp
          have hc1 : (wr.alloc (Obj.cells #[.string s, .int .i64 z] 62)).cell? ⟨wr.heap.size, 1, none⟩ = some (.int .i64 z) := by simp
          by_cases hz0 : z < 1
          · have HF : Hid (fitsB K = false) := preK_bad HX.out (by rw [HG.out, hN, hO]; simp; omega)
            clear h0 h1 hmb
            go_wp2
            go_ret
            exact ⟨by rw [HF.out]; rfl, HM.out ▸ HBA.out⟩
          by_cases hz1 : 12 ≤ z
          · have HF : Hid (fitsB K = false) := preK_bad HX.out (by rw [HG.out, hN, hO]; simp; omega)
            clear h0 h1 hmb
            go_wp2
            go_ret
            exact ⟨by rw [HF.out]; rfl, HM.out ▸ HBA.out⟩
          obtain ⟨Z, rfl⟩ : ∃ Z : Nat, z = Z := ⟨z.toNat, by omega⟩
          have hZ : Z < 12 := by omega
          have hcm := hmet.out.2.1 Z hZ
          have hfm := hmet.out.2.2 Z
          have hcm2 := HMA.out.2.1 Z hZ
          have hfm2 := HMA.out.2.2 Z
          have hMS : Hid (MetOk ((wr.setCell ⟨m, Z, none⟩ (.bool true)).alloc (Obj.cells #[.string s, .int .i64 (Z : Int)] 62)) m K (k + 1)) := (hmet.out.step HX.out rfl hZ).below ((Below.refl _ _).alloc (Nat.le_refl _) _)
          have hne : m ≠ wr.heap.size := by omega
          have hne' : wr.heap.size ≠ m := by omega
          cases hB : metZ K k (Z : Int) with
          | true =>
            have HF : Hid (fitsB K = false) := preK_bad HX.out (by rw [HG.out, hN, hO, hB]; simp)
            rw [hB] at hcm hcm2
            clear h0 h1 hmb
            go_wp2
            go_ret
            exact ⟨by rw [HF.out]; rfl, HM.out ▸ HBA.out⟩
          | false =>
            rw [hB] at hcm hcm2
            have HP2 : Hid (PreK K (k + 1)) := preK_step hpre.out HX.out (by rw [HG.out, hN, hO, hB]; simp; omega)
            have HLS : Hid (lastK K (k + 1) = s) := lastK_step HX.out
            have HBB : Hid (Below w.heap.size w ((wr.setCell ⟨m, Z, none⟩ (.bool true)).alloc (Obj.cells #[.string s, .int .i64 (Z : Int)] 62))) := ((HM.out ▸ hbel.out).setCell (p := ⟨m, Z, none⟩) (by show _ ≤ _; simp [HM.out]) (.bool true)).alloc (by have := hbel.out.size; simp [World.setCell]; omega) _
            clear h0 h1 HG
            go_wp2
            go_roundw
            case rel => exact ⟨k + 1, by omega, by go_num, by rw [HLS.out], HP2, hMS, HM.out ▸ HBB⟩
            case measure => simp [intOf]; omega
    · have hkl : k = K.length := by omega
      have HF : Hid (fitsB K = true) := preK_all (hkl ▸ hpre.out)
      have HBF := hide (HM.out ▸ hbel.out)
      clear hpre hmet hbel
      go_wp2
      go_ret
      exact ⟨by rw [HF.out]; rfl, HBF.out⟩
end Go.Proofs.Ytmolhhljodlhaaa
