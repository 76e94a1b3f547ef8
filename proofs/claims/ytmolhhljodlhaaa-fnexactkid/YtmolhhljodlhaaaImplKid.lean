/-
  Contracts of Kid and l8At, the program's and the specification's.
-/
import Derived.Test.YtmolhhljodlhaaaImplPlace
namespace Go.Proofs.Ytmolhhljodlhaaa
open Go.RowKit Go.Deep
set_option maxRecDepth 100000
set_option linter.unusedVariables false

/-- The number of the first one of that name; -1. -/
def kidR (K : List (ByteArray × Int)) (name : ByteArray) : Int := match K.findIdx? (isName name) with | some i => ((K[i]?).getD (⟨#[]⟩, 0)).2 | none => -1
theorem kidR_hit {K : List (ByteArray × Int)} {name : ByteArray} {k : Nat} {x : ByteArray × Int} (h : firstAt (isName name) K = (k : Nat)) (hx : K[k]? = some x) : kidR K name = x.2 := by
  unfold firstAt at h
  unfold kidR
  cases hf : K.findIdx? (isName name) with
  | none => rw [hf] at h; simp at h
  | some i =>
    rw [hf] at h
    have : i = k := by have h' : (i : Int) = (k : Int) := h; omega
    subst this
    simp [hx]
theorem kidR_none {K : List (ByteArray × Int)} {name : ByteArray} (h : firstAt (isName name) K = -1) : kidR K name = -1 := by
  unfold firstAt at h
  unfold kidR
  cases hf : K.findIdx? (isName name) with
  | none => rfl
  | some i => rw [hf] at h; have h' : (i : Int) = -1 := h; omega

set_option maxHeartbeats 3200000 in
theorem implKid_any (dir : Bool) (a b : Option Addr) (ns : List ByteArray) (ks : List Int) (dat name : ByteArray) (c d : Nat) (w : World) (hp : Rd w a (vsString ns)) (hw : Rd w b (vsInt ks)) (hl : ns.length ≤ 1048576) (hm : ks.length ≤ 1048576) :
    Calls Try.prog 23 #[.agg #[.bool dir, .slice a ns.length c, .slice b ks.length d, .string dat], .string name] w fun e w' => e = .returned (.int .i64 (kidR (ns.zip ks) name)) ∧ Below w.heap.size w w' := by
  obtain ⟨W, hW⟩ : ∃ W, W = w.alloc (Obj.cells #[.bool dir, .slice a ns.length c, .slice b ks.length d, .string dat] 29) := ⟨_, rfl⟩
  have hbW : Below w.heap.size w W := by rw [hW]; exact (Below.refl _ _).alloc (Nat.le_refl _) _
  have HP := hide (hp.below hbW)
  have HQ := hide (hw.below hbW)
  have HW := hide hW
  have HB := hide hbW
  clear hp hw hbW hW
  have hlz : (ns.zip ks).length ≤ 1048576 := by simp; omega
  obtain ⟨R, hR⟩ : ∃ R, R = kidR (ns.zip ks) name := ⟨_, rfl⟩
  rw [← hR]
  have HRR := hide hR
  clear hR
  go_enter Try.func23, Try.ntmps23
  go_wp2_with fail
  rw [← HW.out]
  refine (kidsOf_any dir a b ns ks dat c d W HP.out HQ.out hl hm).mono ?_
  rintro e w1 ⟨v, rfl, ho, hb⟩
  obtain ⟨a1, c1, rfl⟩ := ho.shape
  obtain ⟨a2, c2, hv2, hr⟩ := ho.rd
  injection hv2 with e1 e2 e3
  subst e1 e3
  have HB1 := hide (after HB.out hb)
  generalize ns.zip ks = K at hr hlz HRR ⊢
  clear ho hb
  go_wp2_with fail
  refine (placeOf_any name a1 K c1 w1 hr hlz).mono ?_
  rintro e w2 ⟨rfl, hb2⟩
  have HB2 := hide (after HB1.out hb2)
  have hr2 := hr.below hb2
  clear hb2 hr HB1
  rcases firstAt_cases (isName name) K with ⟨hf, -⟩ | ⟨k, x, hf, hk, hx, -, -⟩
  · have HF : Hid (R = -1) := HRR.out.trans (kidR_none hf)
    rw [hf]
    clear hf hr2
    go_wp2
    go_ret
    exact ⟨by rw [HF.out]; rfl, HB2.out⟩
  · have HF : Hid (R = x.2) := HRR.out.trans (kidR_hit hf hx)
    rw [hf]
    have hki : (k : Int) < (K.length : Int) := by omega
    obtain ⟨b1, o1, y, rfl, h0, h1, HX⟩ := rdKid_at hr2 hk
    have hxy : x = y := by have h := HX.out; rw [hx] at h; exact Option.some.inj h
    subst hxy
    obtain ⟨s, z⟩ := x
    clear hf hr2 hx HX
    go_wp2
    go_ret
    exact ⟨by rw [HF.out]; rfl, HB2.out⟩

theorem notYet_zip {ns : List ByteArray} {ks : List Int} {k : Nat} {s : ByteArray} {z : Int} (hs : ns[k]? = some s) (hz : ks[k]? = some z) : (ns.zip ks)[k]? = some (s, z) := by rw [List.getElem?_zip_eq_some]; exact ⟨hs, hz⟩

set_option maxHeartbeats 3200000 in
theorem specL8At_any (dir : Bool) (a b : Option Addr) (ns : List ByteArray) (ks : List Int) (dat name : ByteArray) (c d : Nat) (w : World) (hp : Rd w a (vsString ns)) (hl : ns.length ≤ 1048576) (hm : ks.length ≤ 1048576) :
    Calls Try.prog 40 #[.agg #[.bool dir, .slice a ns.length c, .slice b ks.length d, .string dat], .string name] w fun e w' => e = .returned (.int .i64 (firstAt (isName name) (ns.zip ks))) ∧ Below w.heap.size w w' := by
  obtain ⟨W, hW⟩ : ∃ W, W = w.alloc (Obj.cells #[.bool dir, .slice a ns.length c, .slice b ks.length d, .string dat] 29) := ⟨_, rfl⟩
  have hbW : Below w.heap.size w W := by rw [hW]; exact (Below.refl _ _).alloc (Nat.le_refl _) _
  have k0 : At W w.heap.size [.bool dir, .slice a ns.length c, .slice b ks.length d, .string dat] := by rw [hW]; exact at_new w [_, _, _, _] _
  have HP := hide (hp.below hbW)
  have HW := hide hW
  have HB := hide hbW
  have c1 : W.cell? ⟨w.heap.size, 1, none⟩ = some (.slice a ns.length c) := k0.2 1 (by simp)
  have c2 : W.cell? ⟨w.heap.size, 2, none⟩ = some (.slice b ks.length d) := k0.2 2 (by simp)
  obtain ⟨K, hK⟩ : ∃ K, K = ns.zip ks := ⟨_, rfl⟩
  have hKl : K.length = min ns.length ks.length := by rw [hK]; simp
  rw [← hK]
  have HK := hide hK
  have HKL := hide hKl
  clear hp hbW hW k0 hK hKl
  go_enter Try.func40, Try.ntmps40
  go_wp2_with fail
  rw [← HW.out]
  go_loop [5] (fun i => ∃ k : Nat, k ≤ K.length ∧ i = .int .i64 k ∧ Hid (NotYet (isName name) K k)) (fun i => K.length - (intOf i).toNat)
  case atStart => exact ⟨0, Nat.zero_le _, rfl, notYet_zero _ _⟩
  case round =>
    obtain ⟨k, hk, rfl, hny⟩ := hrel
    by_cases hlt : k < K.length
    · have hkn : k < ns.length := by have := HKL.out; omega
      have hkk : k < ks.length := by have := HKL.out; omega
      have hki1 : (k : Int) < (ns.length : Int) := by omega
      have hki2 : (k : Int) < (ks.length : Int) := by omega
      obtain ⟨b1, o1, s, ha1, h0, HX⟩ := rdString_at HP.out hkn
      subst ha1
      have hz : K[k]? = some (s, ks[k]) := by rw [HK.out]; exact notYet_zip HX.out (List.getElem?_eq_getElem hkk)
      by_cases hsn : s = name
      · subst hsn
        have HF : Hid (firstAt (isName s) K = k) := firstAt_hit hny.out hz (by unfold isName; simp)
        have hq := str_same s
        clear hz hny
        go_wp2
        go_ret
        exact ⟨by rw [HF.out]; rfl, HB.out⟩
      · have hq : (s.toList == name.toList) = false := str_other hsn
        have hq2 : ¬ s.toList = name.toList := fun h => hsn (bytes_inj h)
        have HN : Hid (NotYet (isName name) K (k + 1)) := notYet_step hny.out hz (by unfold isName; simp [hsn])
        clear hz hny hsn
        go_wp2
        go_round
        case rel => exact ⟨k + 1, by omega, by go_num, HN⟩
        case measure => simp [intOf]; omega
    · have hkl : k = K.length := by omega
      have HF : Hid (firstAt (isName name) K = -1) := firstAt_none (hkl ▸ hny.out)
      have hmin := HKL.out
      clear hny
      by_cases hkn : k < ns.length
      · have hki1 : (k : Int) < (ns.length : Int) := by omega
        have hki2 : ¬ (k : Int) < (ks.length : Int) := by omega
        have hki3 : decide ((k : Int) < (ks.length : Int)) = false := decide_eq_false hki2
        clear hkl hmin
        go_wp2
        go_ret
        exact ⟨by rw [HF.out]; rfl, HB.out⟩
      · have hki1 : ¬ (k : Int) < (ns.length : Int) := by omega
        have hki3 : decide ((k : Int) < (ns.length : Int)) = false := decide_eq_false hki1
        clear hkl hmin
        go_wp2
        go_ret
        exact ⟨by rw [HF.out]; rfl, HB.out⟩

set_option maxHeartbeats 3200000 in
theorem specKid_any (dir : Bool) (a b : Option Addr) (ns : List ByteArray) (ks : List Int) (dat name : ByteArray) (c d : Nat) (w : World) (hp : Rd w a (vsString ns)) (hw : Rd w b (vsInt ks)) (hl : ns.length ≤ 1048576) (hm : ks.length ≤ 1048576) :
    Calls Try.prog 22 #[.agg #[.bool dir, .slice a ns.length c, .slice b ks.length d, .string dat], .string name] w fun e w' => e = .returned (.int .i64 (kidR (ns.zip ks) name)) ∧ Below w.heap.size w w' := by
  obtain ⟨W, hW⟩ : ∃ W, W = w.alloc (Obj.cells #[.bool dir, .slice a ns.length c, .slice b ks.length d, .string dat] 29) := ⟨_, rfl⟩
  have hbW : Below w.heap.size w W := by rw [hW]; exact (Below.refl _ _).alloc (Nat.le_refl _) _
  have k0 : At W w.heap.size [.bool dir, .slice a ns.length c, .slice b ks.length d, .string dat] := by rw [hW]; exact at_new w [_, _, _, _] _
  have HP := hide (hp.below hbW)
  have HQ := hide (hw.below hbW)
  have HW := hide hW
  have HB := hide hbW
  have HK := hide k0
  clear hp hw hbW hW k0
  obtain ⟨R, hR⟩ : ∃ R, R = kidR (ns.zip ks) name := ⟨_, rfl⟩
  rw [← hR]
  have HRR := hide hR
  clear hR
  go_enter Try.func22, Try.ntmps22
  go_wp2_with fail
  rw [← HW.out]
  refine (specL8At_any dir a b ns ks dat name c d W HP.out hl hm).mono ?_
  rintro e w1 ⟨rfl, hb⟩
  have HB1 := hide (after HB.out hb)
  rcases firstAt_cases (isName name) (ns.zip ks) with ⟨hf, -⟩ | ⟨k, x, hf, hk, hx, -, -⟩
  · have HF : Hid (R = -1) := HRR.out.trans (kidR_none hf)
    rw [hf]
    clear hf hb
    go_wp2
    go_ret
    exact ⟨by rw [HF.out]; rfl, HB1.out⟩
  · have HF : Hid (R = x.2) := HRR.out.trans (kidR_hit hf hx)
    rw [hf]
    obtain ⟨s, z⟩ := x
    rw [List.getElem?_zip_eq_some] at hx
    have hkk : k < ks.length := by
      rcases Nat.lt_or_ge k ks.length with h' | h'
      · exact h'
      · simp [h'] at hx
    have hki : (k : Int) < (ks.length : Int) := by omega
    obtain ⟨b1, o1, y, hb1, h1, HY⟩ := rdInt_at (HQ.out.below hb) hkk
    subst hb1
    have hyz : y = z := by have := HY.out; rw [hx.2] at this; exact (Option.some.inj this).symm
    subst hyz
    have c2 : w1.cell? ⟨w.heap.size, 2, none⟩ = some (.slice (some ⟨b1, o1, none⟩) ks.length d) := (HK.out.below hb).2 2 (by simp)
    clear hf hx HY hk hb
    go_wp2
    go_ret
    exact ⟨by rw [HF.out]; rfl, HB1.out⟩
end Go.Proofs.Ytmolhhljodlhaaa
