/-
  Contract of the program's LogRead; what both answer.
-/
import Derived.Test.YtdicjbabnknjhaaImplPutsOf
namespace Go.Proofs.Ytdicjbabnknjhaa
open Go.RowKit

theorem getL_bd {zs : List Int} (hb : IsBytes zs) : ∀ (n i : Nat) (acc L : List (Int × ByteArray)), (∀ y ∈ acc, y.2.size ≤ 400 ∧ 0 ≤ y.1 ∧ y.1 ≤ 1000000000) → getL zs n i acc = some L → ∀ y ∈ L, y.2.size ≤ 400 ∧ 0 ≤ y.1 ∧ y.1 ≤ 1000000000 := by
  intro n
  induction n with
  | zero => intro i acc L h hl; simp [getL] at hl; subst hl; exact h
  | succ n ih =>
    intro i acc L h hl
    cases hp : getP zs i with
    | none => rw [getL_no hp] at hl; cases hl
    | some r =>
      obtain ⟨s, ys, l⟩ := r
      rw [getL_yes hp] at hl
      refine ih _ _ _ ?_ hl
      unfold getP at hp
      split at hp
      · cases hp
      · next s1 j1 h1 =>
        split at hp
        · cases hp
        · next ys1 l1 h2 =>
          have b2 := getN_bd hb h1
          have b4 := getT_len h2
          simp only [Option.some.injEq, Prod.mk.injEq] at hp
          obtain ⟨rfl, rfl, rfl⟩ := hp
          intro y hy
          rcases List.mem_append.1 hy with hy | hy
          · exact h y hy
          · simp at hy; subst hy; exact ⟨by show (strOf _).size ≤ 400; rw [strOf_size]; exact b4, b2.1, b2.2.1⟩
theorem logI_bd (t : ByteArray) : (logI t).length ≤ 3 ∧ ∀ y ∈ logI t, y.2.size ≤ 400 ∧ 0 ≤ y.1 ∧ y.1 ≤ 1000000000 := by
  unfold logI
  split
  · simp
  · split
    · simp
    · next n j h2 =>
      cases hg : getL (strB t) (min n.toNat 3) j [] with
      | none => simp
      | some L =>
        have h1 := getL_len _ _ _ _ hg
        have h2 := getL_bd (strB_bytes t) _ _ _ _ (fun y hy => by simp at hy) hg
        exact ⟨by show L.length ≤ 3; rw [h1]; simp; omega, h2⟩

set_option maxRecDepth 100000 in
set_option maxHeartbeats 3200000 in
theorem implLogRead_any (t : ByteArray) (w : World) (ht : t.size ≤ 1048576) :
    Calls Try.prog 12 #[.string t] w fun e w' => ReadIs w w' e (logR t) := by
  have hcv := fun w => run_bytes_of_string (P := Try.prog) w 9 54 5 t Try.underlying9 Try.underlying54 Try.underlying5
  obtain ⟨R, hR⟩ : ∃ R, R = logR t := ⟨_, rfl⟩
  rw [← hR]
  obtain ⟨I, hI⟩ : ∃ I, I = logI t := ⟨_, rfl⟩
  have hbd := logI_bd t
  rw [← hI] at hbd
  have HRY : Hid (I ≠ [] → logT I = t → R = some I) := fun h1 h2 => by rw [hR, hI]; rw [hI] at h1 h2; exact logI_text h1 h2
  have HRN : Hid (¬ (I ≠ [] ∧ logT I = t) → R = none) := fun h => by rw [hR]; rw [hI] at h; exact logI_none h
  obtain ⟨C, hC⟩ : ∃ C, C = grownCap w t.size 0 5 := ⟨_, rfl⟩
  have hcap : t.size ≤ C := by rw [hC]; exact grownCap_ge _ _ _ _
  obtain ⟨X, hX⟩ : ∃ X, X = Obj.cells (bytesRow t C) 5 ((bytesRow t C).size, (bytesRow t C).size + 1) := ⟨_, rfl⟩
  obtain ⟨W, hW⟩ : ∃ W, W = (w.alloc X).drew := ⟨_, rfl⟩
  have hbW : Below w.heap.size w W := by rw [hW]; exact after_drew ((Below.refl _ _).alloc (Nat.le_refl _) _) 1
  have hrd : Rd W (some ⟨w.heap.size, 0, none⟩) (u8s (strB t)) := by
    have := (rd_bytes t w C)
    rw [← hX] at this
    rw [hW]; exact this
  have HPO := hide (putsOf_any (some ⟨w.heap.size, 0, none⟩) t C W hrd ht hcap)
  rw [← hI] at HPO
  have HBW := hide hbW
  have HBD := hide hbd
  have hIl := hbd.1
  clear hR hI hrd hbW hbd
  go_enter Try.func12, Try.ntmps12
  go_wp2_with fail
  rw [← hC]
  rw [← hX]
  rw [← hW]
  clear hC hX hW hcv
  refine HPO.out.mono ?_
  rintro e w1 ⟨v, rfl, ho, hb1⟩
  obtain ⟨a1, c1, rfl⟩ := ho.shape
  have HB1 := hide (after HBW.out hb1)
  have HO := hide (owns_mono ho HBW.out.size)
  have hrd1 := rd_of_ownN ho
  clear ho hb1 HPO
  by_cases h0 : I.length = 0
  · have h0' : ((I.length : Int) == 0) = true := by rw [h0]; rfl
    have HN : Hid (R = none) := HRN.out (fun h => h.1 (List.eq_nil_of_length_eq_zero h0))
    clear h0
    go_wp2
    exact bodyPost_ret (v := .tuple #[.slice none 0 0, .bool false]) (by simp [results, Try.results12, go_sem]) rfl (by rw [HN.out]; exact ⟨_, rfl, World.ownsRow_nil _ _ _ _, HB1.out⟩)
  · have h0' : ((I.length : Int) == 0) = false := beq_false_of_ne (by omega)
    have HNE : Hid (I ≠ []) := fun h => h0 (by rw [h]; rfl)
    have HLT := hide (implLogText_any a1 I c1 w1 hrd1 (by omega) (fun y hy => ⟨by have := (HBD.out.2 y hy).1; unfold maxLen; omega, by have := (HBD.out.2 y hy).2; omega⟩))
    obtain ⟨U, hU⟩ : ∃ U, U = logT I := ⟨_, rfl⟩
    rw [← hU] at HLT HRY HRN
    clear h0 hrd1 hU
    by_cases heq : U = t
    · have HY := hide (HRY.out HNE.out heq)
      subst heq
      have hne : (U.toList == U.toList) = true := by simp
      go_wp2_with (refine HLT.out.mono ?_; rintro e u5 ⟨rfl, hb5⟩; have HB5 := hide hb5; clear hb5)
      exact bodyPost_ret (v := .tuple #[.slice a1 I.length c1, .bool true]) (by simp [results, Try.results12, go_sem]) rfl (by rw [HY.out]; exact ⟨_, rfl, owns_below HO.out HB5.out, after HB1.out HB5.out⟩)
    · have HN := hide (HRN.out (fun h => heq h.2))
      have hne : (U.toList == t.toList) = false := by simpa using fun h => heq (text_inj h)
      clear heq
      go_wp2_with (refine HLT.out.mono ?_; rintro e u5 ⟨rfl, hb5⟩; have HB5 := hide hb5; clear hb5)
      exact bodyPost_ret (v := .tuple #[.slice none 0 0, .bool false]) (by simp [results, Try.results12, go_sem]) rfl (by rw [HN.out]; exact ⟨_, rfl, World.ownsRow_nil _ _ _ _, after HB1.out HB5.out⟩)

theorem logR_len (t : ByteArray) : ((logR t).getD []).length ≤ 3 := by
  cases h : logR t with
  | none => simp
  | some L =>
    obtain ⟨h1, h2⟩ := logR_some h
    have := (logT_some (L := L) (by rw [h1]; exact h2)).1.1
    simpa using this
end Go.Proofs.Ytdicjbabnknjhaa
