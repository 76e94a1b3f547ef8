/-
  Contract of the program's NodeRead.
-/
import Derived.Test.YtmolhhljodlhaaaImplNodeRead
namespace Go.Proofs.Ytmolhhljodlhaaa
open Go.RowKit Go.Deep
set_option maxRecDepth 100000
set_option linter.unusedVariables false

theorem read_bad {t : ByteArray} (h : readOk t = false) : readDir t = false ∧ readKids t = [] ∧ readDat t = ⟨#[]⟩ := by
  have h1 : readDir t = false := by unfold readDir; rw [h]; rfl
  refine ⟨h1, ?_, ?_⟩
  · unfold readKids; rw [h1]; rfl
  · unfold readDat; rw [h]; rfl
theorem read_nil {t : ByteArray} (h : t.data.toList = []) : readOk t = false := by unfold readOk; rw [h]
theorem read_file {t : ByteArray} {c : UInt8} {zs : List UInt8} (h : t.data.toList = c :: zs) (hc : c = 102) : readOk t = decide (zs.length ≤ 60) := by
  unfold readOk; rw [h]; simp [hc]
theorem read_file2 {t : ByteArray} {c : UInt8} {zs : List UInt8} (h : t.data.toList = c :: zs) (hc : c = 102) (hk : readOk t = true) : readDir t = false ∧ readKids t = [] ∧ readDat t = ⟨zs.toArray⟩ := by
  have h1 : readDir t = false := by unfold readDir; rw [h, hc, hk]; rfl
  refine ⟨h1, ?_, ?_⟩
  · unfold readKids; rw [h1]; rfl
  · unfold readDat; rw [if_pos ⟨hk, h1⟩, h]; rfl
theorem read_folder {t : ByteArray} {c : UInt8} {zs : List UInt8} (h : t.data.toList = c :: zs) (hc : c = 100) : readOk t = ((readF t).2.isEmpty && fitsB (readF t).1) := by
  unfold readOk; rw [h]; simp [hc]
theorem read_folder2 {t : ByteArray} {c : UInt8} {zs : List UInt8} (h : t.data.toList = c :: zs) (hc : c = 100) (hk : readOk t = true) : readDir t = true ∧ readKids t = (readF t).1 ∧ readDat t = ⟨#[]⟩ := by
  have h1 : readDir t = true := by unfold readDir; rw [h, hc, hk]; rfl
  refine ⟨h1, ?_, ?_⟩
  · unfold readKids; rw [h1]; rfl
  · unfold readDat; rw [h1]; simp
theorem read_other {t : ByteArray} {c : UInt8} {zs : List UInt8} (h : t.data.toList = c :: zs) (h1 : c ≠ 100) (h2 : c ≠ 102) : readOk t = false := by
  unfold readOk; rw [h]; simp [h1, h2]
theorem owns_zero (w : World) (base : Nat) (dir : Bool) (dat : ByteArray) : NodeOwn w base (.agg #[.bool dir, .slice none 0 0, .slice none 0 0, .string dat]) dir [] [] dat :=
  ⟨_, _, rfl, World.ownsRow_nil _ _ _ _, World.ownsRow_nil _ _ _ _, fun k hk => by cases hk⟩
theorem size_mk (l : List UInt8) : (⟨l.toArray⟩ : ByteArray).size = l.length := by simp [ByteArray.size]

theorem readF_len (t : ByteArray) : 2 * (readF t).1.length ≤ t.size := by
  have := scanU_len t.size (t.data.toList.drop 1)
  rw [List.length_drop] at this
  have e : t.data.toList.length = t.size := by simp
  unfold readF; omega
theorem scanU_size : ∀ (f : Nat) (l : List UInt8), ∀ x ∈ (scanU f l).1, x.1.size ≤ l.length := by
  intro f
  induction f with
  | zero => intro l x hx; simp [scanU] at hx
  | succ f ih =>
    intro l x hx
    cases h : cutU l with
    | none => rw [scanU_no h] at hx; simp at hx
    | some p =>
      obtain ⟨nm, rest⟩ := p
      cases rest with
      | nil => rw [scanU_no2 h] at hx; simp at hx
      | cons r rest =>
        rw [scanU_on h] at hx
        have e := congrArg List.length (cutU_app h)
        simp at e
        rcases List.mem_cons.mp hx with rfl | h'
        · show (⟨nm.toArray⟩ : ByteArray).size ≤ _
          rw [size_mk]; omega
        · have := ih rest x h'
          omega
theorem readF_size (t : ByteArray) : ∀ x ∈ (readF t).1, x.1.size ≤ t.size := fun x hx => by
  have := scanU_size t.size (t.data.toList.drop 1) x hx
  rw [List.length_drop] at this
  have e : t.data.toList.length = t.size := by simp
  omega
set_option maxHeartbeats 6400000 in
theorem implNodeRead_any (t : ByteArray) (ht : t.size ≤ 1048576) (w : World) :
    Calls Try.prog 19 #[.string t] w fun e w' => ∃ v, e = .returned (.tuple #[v, .bool (readOk t)]) ∧ NodeOwn w' w.heap.size v (readDir t) ((readKids t).map Prod.fst) ((readKids t).map Prod.snd) (readDat t) ∧ Below w.heap.size w w' := by
  obtain ⟨OK, hOK⟩ : ∃ b, b = readOk t := ⟨_, rfl⟩
  obtain ⟨DI, hDI⟩ : ∃ b, b = readDir t := ⟨_, rfl⟩
  obtain ⟨KK, hKK⟩ : ∃ b, b = readKids t := ⟨_, rfl⟩
  obtain ⟨DA, hDA⟩ : ∃ b, b = readDat t := ⟨_, rfl⟩
  rw [← hOK, ← hDI, ← hKK, ← hDA]
  have HV := hide (And.intro hOK (And.intro hDI (And.intro hKK hDA)))
  obtain ⟨W, hW⟩ : ∃ W, W = w.alloc (Obj.cells #[.bool false, .slice none 0 0, .slice none 0 0, .string ⟨#[]⟩] 29) := ⟨_, rfl⟩
  have hbW : Below w.heap.size w W := by rw [hW]; exact (Below.refl _ _).alloc (Nat.le_refl _) _
  have k0 : C4 W w.heap.size (.bool false) (.slice none 0 0) (.slice none 0 0) (.string ⟨#[]⟩) := by rw [hW]; exact c4_new _ _ _ _ _ _
  have HC := hide (contentRead_any t ht W)
  have HS : Hid (w.heap.size < W.heap.size) := k0.lt
  have HBAD : Hid (OK = false → DI = false ∧ KK = [] ∧ DA = ⟨#[]⟩) := fun h => by rw [hDI, hKK, hDA]; exact read_bad (hOK ▸ h)
  clear hOK hDI hKK hDA
  go_enter Try.func19, Try.ntmps19
  go_wp2_with fail
  rw [← hW]
  clear hW
  refine HC.out.mono ?_
  rintro e u ⟨hb, hcase⟩
  have HB := hide (after hbW hb)
  have ku := k0.below hb
  have HSU : Hid (W.heap.size ≤ u.heap.size) := hb.size
  clear hb hbW k0 HC
  -- how it ends where nothing is read
  have HEND : Hid (∀ (u' : World), Below w.heap.size w u' → OK = false → ∃ v, Ending.returned (.tuple #[.agg #[.bool false, .slice none 0 0, .slice none 0 0, .string ⟨#[]⟩], .bool false]) = .returned (.tuple #[v, .bool OK]) ∧ NodeOwn u' w.heap.size v DI (KK.map Prod.fst) (KK.map Prod.snd) DA ∧ Below w.heap.size w u') := fun u' hb h => by
    obtain ⟨h1, h2, h3⟩ := HBAD.out h
    rw [h, h1, h2, h3]
    exact ⟨_, rfl, owns_zero u' _ false ⟨#[]⟩, hb⟩
  have SET4 : Hid (∀ (u' : World) x0 x1 x2 x3, Below w.heap.size w u' → Below w.heap.size w ((((u'.setCell ⟨w.heap.size, 0, none⟩ x0).setCell ⟨w.heap.size, 1, none⟩ x1).setCell ⟨w.heap.size, 2, none⟩ x2).setCell ⟨w.heap.size, 3, none⟩ x3)) := fun u' x0 x1 x2 x3 hb => set_below (set_below (set_below (set_below hb (Nat.le_refl _)) (Nat.le_refl _)) (Nat.le_refl _)) (Nat.le_refl _)
  obtain ⟨⟨q0, q1, q2, q3⟩, qf⟩ := ku
  have HQ : Hid (C4 u w.heap.size (.bool false) (.slice none 0 0) (.slice none 0 0) (.string ⟨#[]⟩)) := ⟨⟨q0, q1, q2, q3⟩, qf⟩
  have qf0 := qf 0
  have qf1 := qf 1
  have qf2 := qf 2
  have qf3 := qf 3
  clear qf
  rcases hcase with ⟨hL, rfl⟩ | ⟨c, zs, hL, ⟨hc, rfl⟩ | ⟨hc, hr, v, rfl, ho⟩ | ⟨hc, hr, rfl⟩ | ⟨h1, h2, rfl⟩⟩
  · have HF : Hid (OK = false) := HV.out.1.trans (read_nil hL)
    clear hL
    go_wp2
    refine bodyPost_ret (v := .tuple #[.agg #[.bool false, .slice none 0 0, .slice none 0 0, .string ⟨#[]⟩], .bool false]) (by simp [results, Try.results19, go_sem, q0, q1, q2, q3]) rfl (HEND.out _ (SET4.out _ _ _ _ _ HB.out) HF.out)
  · have hzs : zs.length ≤ 1048576 := by
      have := congrArg List.length hL
      simp at this
      omega
    have hm' := file_fits (.string ⟨zs.toArray⟩)
    have HFF := hide (fileFits_any ⟨zs.toArray⟩ (by rw [size_mk]; omega) u)
    rw [size_mk] at HFF
    have HOK : Hid (OK = decide (zs.length ≤ 60)) := HV.out.1.trans (read_file hL hc)
    have HK2 : Hid (OK = true → DI = false ∧ KK = [] ∧ DA = ⟨zs.toArray⟩) := fun h => by
      rw [HV.out.2.1, HV.out.2.2.1, HV.out.2.2.2]
      exact read_file2 hL hc (HV.out.1 ▸ h)
    clear hL hc hzs
    by_cases hz : zs.length ≤ 60
    · rw [decide_eq_true hz] at HFF HOK
      clear hz
      go_wp2_with fail
      refine HFF.out.mono ?_
      rintro e w2 ⟨rfl, hw2⟩
      have hw2' := hw2.symm
      subst hw2'
      go_wp2_with fail
      refine (nodeOf_file ⟨zs.toArray⟩ u).mono ?_
      rintro e w3 ⟨rfl, hb3⟩
      obtain ⟨⟨r0, r1, r2, r3⟩, rf⟩ := C4.below HQ.out hb3
      have HB3 := hide (after HB.out hb3)
      clear hb3 q0 q1 q2 q3 qf0 qf1 qf2 qf3
      have qf0 := rf 0
      have qf1 := rf 1
      have qf2 := rf 2
      have qf3 := rf 3
      clear rf
      go_wp2
      obtain ⟨e1, e2, e3⟩ := HK2.out HOK.out
      refine bodyPost_ret (v := .tuple #[.agg #[.bool false, .slice none 0 0, .slice none 0 0, .string ⟨zs.toArray⟩], .bool true]) (by simp [results, Try.results19, go_sem, r0, r1, r2, r3]) rfl ⟨_, by rw [HOK.out], ?_, SET4.out _ _ _ _ _ HB3.out⟩
      rw [e1, e2, e3]
      exact owns_zero _ _ false _
    · rw [decide_eq_false hz] at HFF HOK
      clear hz
      go_wp2_with fail
      refine HFF.out.mono ?_
      rintro e w2 ⟨rfl, hw2⟩
      have hw2' := hw2.symm
      subst hw2'
      go_wp2
      refine bodyPost_ret (v := .tuple #[.agg #[.bool false, .slice none 0 0, .slice none 0 0, .string ⟨#[]⟩], .bool false]) (by simp [results, Try.results19, go_sem, q0, q1, q2, q3]) rfl (HEND.out _ (SET4.out _ _ _ _ _ HB.out) HOK.out)
  · obtain ⟨a1, c1, rfl⟩ := ho.shape
    obtain ⟨a2, c2, hv2, hr2⟩ := ho.rd
    injection hv2 with e1 e2 e3
    subst e1 e3
    have HKL : Hid (2 * (readF t).1.length ≤ t.size) := readF_len t
    have HKS : Hid (∀ x ∈ (readF t).1, x.1.size ≤ 1048576) := fun x hx => Nat.le_trans (readF_size t x hx) ht
    have HOK : Hid (OK = fitsB (readF t).1) := by show _ = _; rw [HV.out.1, read_folder hL hc, hr]; rfl
    have HK2 : Hid (OK = true → DI = true ∧ KK = (readF t).1 ∧ DA = ⟨#[]⟩) := fun h => by
      rw [HV.out.2.1, HV.out.2.2.1, HV.out.2.2.2]
      exact read_folder2 hL hc (HV.out.1 ▸ h)
    have HT := hide ht
    clear hL hc hr HV
    generalize (readF t).1 = K at *
    have hm' := folder_fits (.slice a1 K.length c1)
    have HFF := hide (folderFits_any a1 K c1 u hr2 (by have := HKL.out; have := HT.out; omega) HKS.out)
    have HR2 := hide hr2
    clear hr2 ho ht
    by_cases hz : fitsB K = true
    · rw [hz] at HFF HOK
      clear hz
      go_wp2_with fail
      refine HFF.out.mono ?_
      rintro e w2 ⟨rfl, hb2⟩
      have HB2 := hide (after HB.out hb2)
      have hr3 := HR2.out.below hb2
      have HSZ2 : Hid (u.heap.size ≤ w2.heap.size) := hb2.size
      have HQ2 := hide (C4.below HQ.out hb2)
      clear hb2 q0 q1 q2 q3 qf0 qf1 qf2 qf3
      go_wp2_with fail
      refine (nodeOf_folder a1 K c1 w2 hr3 (by have := HKL.out; have := HT.out; omega)).mono ?_
      rintro e w3 ⟨v, rfl, ho3, hb3⟩
      obtain ⟨a4, c4, b4, d4, rfl⟩ := ho3.shape
      obtain ⟨⟨r0, r1, r2, r3⟩, rf⟩ := C4.below HQ2.out hb3
      have HB3 := hide (after HB2.out hb3)
      have HO3 := hide ho3
      clear hb3 ho3
      have qf0 := rf 0
      have qf1 := rf 1
      have qf2 := rf 2
      have qf3 := rf 3
      clear rf
      go_wp2
      obtain ⟨e1, e2, e3⟩ := HK2.out HOK.out
      refine bodyPost_ret (v := .tuple #[.agg #[.bool true, .slice a4 (K.map Prod.fst).length c4, .slice b4 (K.map Prod.snd).length d4, .string ⟨#[]⟩], .bool true]) (by simp [results, Try.results19, go_sem, r0, r1, r2, r3]) rfl ⟨_, by rw [HOK.out], ?_, SET4.out _ _ _ _ _ HB3.out⟩
      rw [e1, e2, e3]
      obtain ⟨v1, v2, hv, h4, h5, h6⟩ := HO3.out
      have hp : w.heap.size < w2.heap.size := Nat.lt_of_lt_of_le HS.out (Nat.le_trans HSU.out HSZ2.out)
      exact ⟨v1, v2, hv, owns_mono (ftlRows_set (ftlRows_set (ftlRows_set (ftlRows_set h4 hp _) hp _) hp _) hp _) (by omega), owns_mono (ftlRows_set (ftlRows_set (ftlRows_set (ftlRows_set h5 hp _) hp _) hp _) hp _) (by omega), h6⟩
    · have hz' : fitsB K = false := by simpa using hz
      rw [hz'] at HFF HOK
      clear hz hz'
      go_wp2_with fail
      refine HFF.out.mono ?_
      rintro e w2 ⟨rfl, hb2⟩
      have HB2 := hide (after HB.out hb2)
      obtain ⟨⟨r0, r1, r2, r3⟩, rf⟩ := C4.below HQ.out hb2
      clear hb2 q0 q1 q2 q3 qf0 qf1 qf2 qf3
      have qf0 := rf 0
      have qf1 := rf 1
      have qf2 := rf 2
      have qf3 := rf 3
      clear rf
      go_wp2
      refine bodyPost_ret (v := .tuple #[.agg #[.bool false, .slice none 0 0, .slice none 0 0, .string ⟨#[]⟩], .bool false]) (by simp [results, Try.results19, go_sem, r0, r1, r2, r3]) rfl (HEND.out _ (SET4.out _ _ _ _ _ HB2.out) HOK.out)
  · have HF : Hid (OK = false) := by
      show _ = _
      rw [HV.out.1, read_folder hL hc]
      cases h : (readF t).2 with
      | nil => exact absurd h hr
      | cons _ _ => rfl
    clear hL hc hr
    go_wp2
    refine bodyPost_ret (v := .tuple #[.agg #[.bool false, .slice none 0 0, .slice none 0 0, .string ⟨#[]⟩], .bool false]) (by simp [results, Try.results19, go_sem, q0, q1, q2, q3]) rfl (HEND.out _ (SET4.out _ _ _ _ _ HB.out) HF.out)
  · have HF : Hid (OK = false) := HV.out.1.trans (read_other hL h1 h2)
    clear hL h1 h2
    go_wp2
    refine bodyPost_ret (v := .tuple #[.agg #[.bool false, .slice none 0 0, .slice none 0 0, .string ⟨#[]⟩], .bool false]) (by simp [results, Try.results19, go_sem, q0, q1, q2, q3]) rfl (HEND.out _ (SET4.out _ _ _ _ _ HB.out) HF.out)
end Go.Proofs.Ytmolhhljodlhaaa
