/-
  Contracts of Kid and l8At, the program's and the specification's.
-/
import Derived.Test.YtmolhhljodlhaabImplPlace
namespace Go.Proofs.Ytmolhhljodlhaab
open Go.RowKit Go.Deep
set_option maxRecDepth 100000
set_option linter.unusedVariables false

/-- The number of the first one of that name; -1. -/
def kidR (K : List (ByteArray × Int)) (name : ByteArray) : Int := match K.findIdx? (isName name) with | some i => ((K[i]?).getD (⟨#[]⟩, 0)).2 | none => -1
theorem kidR_hit {K : List (ByteArray × Int)} {name : ByteArray} {k : Nat} {x : ByteArray × Int} (h : firstAt (isName name) K = (k : Nat)) (hx : K[k]? = some x) : kidR K name = x.2 := by
  unfold firstAt at h
  unfold kidR
  cases hf : K.findIdx? (isName name) with
  | none => rw [hf] at h; simp at h
  | some i =>
    rw [hf] at h
    have : i = k := by have h' : (i : Int) = (k : Int) := h; omega
    subst this
    simp [hx]
theorem kidR_none {K : List (ByteArray × Int)} {name : ByteArray} (h : firstAt (isName name) K = -1) : kidR K name = -1 := by
  unfold firstAt at h
  unfold kidR
  cases hf : K.findIdx? (isName name) with
  | none => rfl
  | some i => rw [hf] at h; have h' : (i : Int) = -1 := h; omega

theorem notYet_zip {ns : List ByteArray} {ks : List Int} {k : Nat} {s : ByteArray} {z : Int} (hs : ns[k]? = some s) (hz : ks[k]? = some z) : (ns.zip ks)[k]? = some (s, z) := by rw [List.getElem?_zip_eq_some]; exact ⟨hs, hz⟩

set_option maxHeartbeats 3200000 in
theorem specL8At_any (dir : Bool) (a b : Option Addr) (ns : List ByteArray) (ks : List Int) (dat name : ByteArray) (c d : Nat) (w : World) (hp : Rd w a (vsString ns)) (hl : ns.length ≤ 1048576) (hm : ks.length ≤ 1048576) :
    Calls Try.prog 13 #[.agg #[.bool dir, .slice a ns.length c, .slice b ks.length d, .string dat], .string name] w fun e w' => e = .returned (.int .i64 (firstAt (isName name) (ns.zip ks))) ∧ Below w.heap.size w w' := by
  obtain ⟨W, hW⟩ : ∃ W, W = w.alloc (Obj.cells #[.bool dir, .slice a ns.length c, .slice b ks.length d, .string dat] 27) := ⟨_, rfl⟩
  have hbW : Below w.heap.size w W := by rw [hW]; exact (Below.refl _ _).alloc (Nat.le_refl _) _
  have k0 : At W w.heap.size [.bool dir, .slice a ns.length c, .slice b ks.length d, .string dat] := by rw [hW]; exact at_new w [_, _, _, _] _
  have HP := hide (hp.below hbW)
  have HW := hide hW
  have HB := hide hbW
  have c1 : W.cell? ⟨w.heap.size, 1, none⟩ = some (.slice a ns.length c) := k0.2 1 (by simp)
  have c2 : W.cell? ⟨w.heap.size, 2, none⟩ = some (.slice b ks.length d) := k0.2 2 (by simp)
  obtain ⟨K, hK⟩ : ∃ K, K = ns.zip ks := ⟨_, rfl⟩
  have hKl : K.length = min ns.length ks.length := by rw [hK]; simp
  rw [← hK]
  have HK := hide hK
  have HKL := hide hKl
  clear hp hbW hW k0 hK hKl
  go_enter Try.func13, Try.ntmps13
  go_wp2_with fail
  rw [← HW.out]
  go_loop [5] (fun i => ∃ k : Nat, k ≤ K.length ∧ i = .int .i64 k ∧ Hid (NotYet (isName name) K k)) (fun i => K.length - (intOf i).toNat)
  case atStart => exact ⟨0, Nat.zero_le _, rfl, notYet_zero _ _⟩
  case round =>
    obtain ⟨k, hk, rfl, hny⟩ := hrel
    by_cases hlt : k < K.length
    · have hkn : k < ns.length := by have := HKL.out; omega
      have hkk : k < ks.length := by have := HKL.out; omega
      have hki1 : (k : Int) < (ns.length : Int) := by omega
      have hki2 : (k : Int) < (ks.length : Int) := by omega
      obtain ⟨b1, o1, s, ha1, h0, HX⟩ := rdString_at HP.out hkn
      subst ha1
      have hz : K[k]? = some (s, ks[k]) := by rw [HK.out]; exact notYet_zip HX.out (List.getElem?_eq_getElem hkk)
      by_cases hsn : s = name
      · subst hsn
        have HF : Hid (firstAt (isName s) K = k) := firstAt_hit hny.out hz (by unfold isName; simp)
        have hq := str_same s
        clear hz hny
        go_wp2
        go_ret
        exact ⟨by rw [HF.out]; rfl, HB.out⟩
      · have hq : (s.toList == name.toList) = false := str_other hsn
        have hq2 : ¬ s.toList = name.toList := fun h => hsn (bytes_inj h)
        have HN : Hid (NotYet (isName name) K (k + 1)) := notYet_step hny.out hz (by unfold isName; simp [hsn])
        clear hz hny hsn
        go_wp2
        go_round
        case rel => exact ⟨k + 1, by omega, by go_num, HN⟩
        case measure => simp [intOf]; omega
    · have hkl : k = K.length := by omega
      have HF : Hid (firstAt (isName name) K = -1) := firstAt_none (hkl ▸ hny.out)
      have hmin := HKL.out
      clear hny
      by_cases hkn : k < ns.length
      · have hki1 : (k : Int) < (ns.length : Int) := by omega
        have hki2 : ¬ (k : Int) < (ks.length : Int) := by omega
        have hki3 : decide ((k : Int) < (ks.length : Int)) = false := decide_eq_false hki2
        clear hkl hmin
        go_wp2
        go_ret
        exact ⟨by rw [HF.out]; rfl, HB.out⟩
      · have hki1 : ¬ (k : Int) < (ns.length : Int) := by omega
        have hki3 : decide ((k : Int) < (ns.length : Int)) = false := decide_eq_false hki1
        clear hkl hmin
        go_wp2
        go_ret
        exact ⟨by rw [HF.out]; rfl, HB.out⟩

end Go.Proofs.Ytmolhhljodlhaab
