/-
  Contracts of slices.IndexFunc over kids, with the program's two closures; placeOf; kidsOf's users: Kid.
-/
import Derived.Test.YtmolhhljodlhaabKidKit
import Derived.Test.YtmolhhljodlhaabNodeMath
namespace Go.Proofs.Ytmolhhljodlhaab
open Go.RowKit Go.Deep
set_option maxRecDepth 100000
set_option linter.unusedVariables false

/-- Where the first one stands of which P is true; -1. -/
def firstAt (P : ByteArray × Int → Bool) (K : List (ByteArray × Int)) : Int := match K.findIdx? P with | some i => (i : Int) | none => -1
def NotYet (P : ByteArray × Int → Bool) (K : List (ByteArray × Int)) (k : Nat) : Prop := ∀ j x, j < k → K[j]? = some x → P x = false
theorem notYet_zero (P : ByteArray × Int → Bool) (K : List (ByteArray × Int)) : NotYet P K 0 := fun j x h => by omega
theorem notYet_step {P : ByteArray × Int → Bool} {K : List (ByteArray × Int)} {k : Nat} {x : ByteArray × Int} (h : NotYet P K k) (hx : K[k]? = some x) (hp : P x = false) : NotYet P K (k + 1) := by
  intro j y hj hy
  by_cases hjk : j = k
  · subst hjk; rw [hx] at hy; cases hy; exact hp
  · exact h j y (by omega) hy
theorem firstAt_hit {P : ByteArray × Int → Bool} {K : List (ByteArray × Int)} {k : Nat} {x : ByteArray × Int} (h : NotYet P K k) (hx : K[k]? = some x) (hp : P x = true) : firstAt P K = k := by
  have hk : k < K.length := by
    rcases Nat.lt_or_ge k K.length with h' | h'
    · exact h'
    · simp [h'] at hx
  have e : K.findIdx? P = some k := by
    rw [List.findIdx?_eq_some_iff_getElem]
    refine ⟨hk, ?_, fun j hj => ?_⟩
    · rw [List.getElem?_eq_getElem hk] at hx; cases hx; exact hp
    · have := h j K[j] hj (List.getElem?_eq_getElem (by omega))
      simp [this]
  unfold firstAt; rw [e]
theorem firstAt_none {P : ByteArray × Int → Bool} {K : List (ByteArray × Int)} (h : NotYet P K K.length) : firstAt P K = -1 := by
  have e : K.findIdx? P = none := by
    rw [List.findIdx?_eq_none_iff]
    intro x hx
    obtain ⟨i, hi⟩ := List.mem_iff_getElem?.mp hx
    have hik : i < K.length := by
      rcases Nat.lt_or_ge i K.length with h' | h'
      · exact h'
      · simp [h'] at hi
    exact h i x hik hi
  unfold firstAt; rw [e]
theorem firstAt_cases (P : ByteArray × Int → Bool) (K : List (ByteArray × Int)) : (firstAt P K = -1 ∧ NotYet P K K.length) ∨ ∃ k x, firstAt P K = (k : Nat) ∧ k < K.length ∧ K[k]? = some x ∧ P x = true ∧ NotYet P K k := by
  cases h : K.findIdx? P with
  | none =>
    left
    rw [List.findIdx?_eq_none_iff] at h
    have hn : NotYet P K K.length := fun j x hj hx => h x (List.mem_of_getElem? hx)
    exact ⟨firstAt_none hn, hn⟩
  | some k =>
    right
    rw [List.findIdx?_eq_some_iff_getElem] at h
    obtain ⟨hk, hp, hall⟩ := h
    have hn : NotYet P K k := fun j x hj hx => by
      have := hall j hj
      have hj2 : j < K.length := by omega
      rw [List.getElem?_eq_getElem hj2] at hx; cases hx
      simpa using this
    exact ⟨k, K[k], firstAt_hit hn (List.getElem?_eq_getElem hk) hp, hk, List.getElem?_eq_getElem hk, hp, hn⟩
def isName (name : ByteArray) (x : ByteArray × Int) : Bool := decide (x.1 = name)
def isPast (name : ByteArray) (x : ByteArray × Int) : Bool := !(Op.bytesLess x.1.toList name.toList || x.1.toList == name.toList)

set_option maxHeartbeats 1600000 in
theorem placeClo_any (p : Nat) (name s : ByteArray) (z : Int) (w : World) (hc : w.cell? ⟨p, 0, none⟩ = some (.string name)) :
    Calls Try.prog 29 #[.agg #[.string s, .int .i64 z], .pointer (some ⟨p, 0, none⟩)] w fun e w' => e = .returned (.bool (isName name (s, z))) ∧ Below w.heap.size w w' := by
  have hb : Below w.heap.size w (w.alloc (Obj.cells #[.string s, .int .i64 z] 45)) := (Below.refl _ _).alloc (Nat.le_refl _) _
  have hlt := lt_of_cell hc
  have hne : p ≠ w.heap.size := by omega
  go_enter Try.func29, Try.ntmps29
  go_wp2
  go_ret
  refine ⟨?_, hb⟩
  show Ending.returned (.bool (s.toList == name.toList)) = _
  exact ret_bool (by unfold isName; rw [str_beq])

set_option maxHeartbeats 1600000 in
theorem indexPlace_any (p : Nat) (name : ByteArray) (a : Option Addr) (K : List (ByteArray × Int)) (c : Nat) (w : World) (hr : Rd w a (vsKid K)) (hc : w.cell? ⟨p, 0, none⟩ = some (.string name)) (hl : K.length ≤ 1048576) :
    Calls Try.prog 28 #[.slice a K.length c, .func (.func 29) #[] #[.pointer (some ⟨p, 0, none⟩)]] w fun e w' => e = .returned (.int .i64 (firstAt (isName name) K)) ∧ Below w.heap.size w w' := by
  have HR := hide hr
  have HC := hide (And.intro (lt_of_cell hc) hc)
  clear hr hc
  go_enter Try.func28, Try.ntmps28
  go_wp2_with fail
  go_loopw [8] (fun i wr => ∃ k : Nat, k ≤ K.length ∧ i = .int .i64 k ∧ Hid (NotYet (isName name) K k) ∧ Hid (Below w.heap.size w wr)) (fun i _ => K.length - (intOf i).toNat)
  case atStart => exact ⟨0, Nat.zero_le _, rfl, notYet_zero _ _, Below.refl _ _⟩
  case round =>
    obtain ⟨k, hk, rfl, hny, hbel⟩ := hrel
    by_cases hlt : k < K.length
    · have hki : (k : Int) < (K.length : Int) := by omega
      obtain ⟨b1, o1, x, rfl, h0, h1, HX⟩ := rdKid_at (HR.out.below hbel.out) hlt
      obtain ⟨s, z⟩ := x
      have hcc : wr.cell? ⟨p, 0, none⟩ = some (.string name) := (hbel.out.cell (p := ⟨p, 0, none⟩) HC.out.1).trans HC.out.2
      have HCL := hide (placeClo_any p name s z wr hcc)
      clear hcc
      go_wp2_with fail
      refine HCL.out.mono ?_
      rintro e w1 ⟨rfl, hb1⟩
      have HB1 := hide (after hbel.out hb1)
      clear h0 h1 HCL hb1
      cases hp : isName name (s, z) with
      | true =>
        have HF : Hid (firstAt (isName name) K = k) := firstAt_hit hny.out HX.out hp
        go_wp2
        go_ret
        exact ⟨by rw [HF.out]; rfl, HB1.out⟩
      | false =>
        have HN : Hid (NotYet (isName name) K (k + 1)) := notYet_step hny.out HX.out hp
        go_wp2
        go_roundw
        case rel => exact ⟨k + 1, by omega, by go_num, HN, HB1.out⟩
        case measure => simp [intOf]; omega
    · have hkl : k = K.length := by omega
      have HF : Hid (firstAt (isName name) K = -1) := firstAt_none (hkl ▸ hny.out)
      clear hny hkl
      go_wp2
      go_ret
      exact ⟨by rw [HF.out]; rfl, hbel.out⟩

set_option maxHeartbeats 1600000 in
theorem placeOf_any (name : ByteArray) (a : Option Addr) (K : List (ByteArray × Int)) (c : Nat) (w : World) (hr : Rd w a (vsKid K)) (hl : K.length ≤ 1048576) :
    Calls Try.prog 25 #[.slice a K.length c, .string name] w fun e w' => e = .returned (.int .i64 (firstAt (isName name) K)) ∧ Below w.heap.size w w' := by
  obtain ⟨W, hW⟩ : ∃ W, W = w.alloc (Obj.cells #[.string name] 9) := ⟨_, rfl⟩
  have hbW : Below w.heap.size w W := by rw [hW]; exact (Below.refl _ _).alloc (Nat.le_refl _) _
  have hc : W.cell? ⟨w.heap.size, 0, none⟩ = some (.string name) := by rw [hW]; simp
  have HI := hide (indexPlace_any w.heap.size name a K c W (hr.below hbW) hc hl)
  clear hr hc
  go_enter Try.func25, Try.ntmps25
  go_wp2_with fail
  rw [← hW]
  clear hW
  refine HI.out.mono ?_
  rintro e w1 ⟨rfl, hb⟩
  have HB := hide (after hbW hb)
  clear hb hbW HI
  go_wp2
  go_ret
  exact ⟨rfl, HB.out⟩
end Go.Proofs.Ytmolhhljodlhaab
