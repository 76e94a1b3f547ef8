/-
  Contracts of the program's contentOf and NodeOk.
-/
import Derived.Test.YtmolhhljodlhaaaImplFits
namespace Go.Proofs.Ytmolhhljodlhaaa
open Go.RowKit Go.Deep
set_option maxRecDepth 100000
set_option linter.unusedVariables false

set_option maxHeartbeats 3200000 in
theorem contentOf_any (dir : Bool) (a b : Option Addr) (ns : List ByteArray) (ks : List Int) (dat : ByteArray) (c d : Nat) (w : World) (hp : Rd w a (vsString ns)) (hw : Rd w b (vsInt ks)) (hl : ns.length ≤ 1048576) (hm : ks.length ≤ 1048576) :
    Calls Try.prog 31 #[.agg #[.bool dir, .slice a ns.length c, .slice b ks.length d, .string dat]] w fun e w' => Below w.heap.size w w' ∧
      ((dir = true ∧ dat.size = 0 ∧ ns.length = ks.length ∧ ∃ v, e = .returned (.iface 69 v) ∧ KidsOwn w' w.heap.size v (ns.zip ks)) ∨
       (dir = false ∧ ns.length = 0 ∧ ks.length = 0 ∧ e = .returned (.iface 70 (.string dat))) ∨
       (¬ (dir = true ∧ dat.size = 0 ∧ ns.length = ks.length) ∧ ¬ (dir = false ∧ ns.length = 0 ∧ ks.length = 0) ∧ e = .returned .nilIface)) := by
  obtain ⟨W, hW⟩ : ∃ W, W = w.alloc (Obj.cells #[.bool dir, .slice a ns.length c, .slice b ks.length d, .string dat] 29) := ⟨_, rfl⟩
  have hbW : Below w.heap.size w W := by rw [hW]; exact (Below.refl _ _).alloc (Nat.le_refl _) _
  have HP := hide (hp.below hbW)
  have HQ := hide (hw.below hbW)
  have HW := hide hW
  have HB := hide hbW
  clear hp hw hbW hW
  cases dir with
  | true =>
    by_cases hd : dat.size = 0
    · have he := list_none hd
      have he2 : dat.toList.isEmpty = true := by rw [he]; rfl
      by_cases hn : ns.length = ks.length
      · have hn' : (ns.length : Int) = (ks.length : Int) := by omega
        have HN := hide hn
        have HD := hide hd
        clear hn hd
        go_enter Try.func31, Try.ntmps31
        go_wp2_with fail
        rw [← HW.out]
        refine (kidsOf_any true a b ns ks dat c d W HP.out HQ.out hl hm).mono ?_
        rintro e w1 ⟨v, rfl, ho, hb⟩
        have HO := hide (owns_mono ho HB.out.size)
        have HB1 := hide (after HB.out hb)
        clear ho hb hn'
        go_wp2
        go_ret
        exact ⟨HB1.out, .inl ⟨trivial, HD.out, HN.out, _, rfl, HO.out⟩⟩
      · have hn' : ¬ (ns.length : Int) = (ks.length : Int) := by omega
        have HN := hide hn
        have HD := hide hd
        clear hn hd
        go_enter Try.func31, Try.ntmps31
        go_wp2
        go_ret
        exact ⟨HW.out ▸ HB.out, .inr (.inr ⟨fun h => HN.out h.2.2, fun h => (by cases h.1), rfl⟩)⟩
    · have he := list_some hd
      have he2 : dat.toList.isEmpty = false := by simpa using he
      have HD := hide hd
      clear hd
      go_enter Try.func31, Try.ntmps31
      go_wp2
      go_ret
      exact ⟨HW.out ▸ HB.out, .inr (.inr ⟨fun h => HD.out h.2.1, fun h => (by cases h.1), rfl⟩)⟩
  | false =>
    by_cases hn : ns.length = 0
    · have hn' : (ns.length : Int) = 0 := by omega
      by_cases hk : ks.length = 0
      · have hk' : (ks.length : Int) = 0 := by omega
        have HN := hide hn
        have HK := hide hk
        clear hn hk
        go_enter Try.func31, Try.ntmps31
        go_wp2
        go_ret
        exact ⟨HW.out ▸ HB.out, .inr (.inl ⟨trivial, HN.out, HK.out, rfl⟩)⟩
      · have hk' : ((ks.length : Int) == 0) = false := by rw [beq_eq_false_iff_ne]; omega
        have HN := hide hn
        have HK := hide hk
        clear hn hk
        go_enter Try.func31, Try.ntmps31
        go_wp2
        go_ret
        exact ⟨HW.out ▸ HB.out, .inr (.inr ⟨fun h => (by cases h.1), fun h => HK.out h.2.2, rfl⟩)⟩
    · have hn' : ((ns.length : Int) == 0) = false := by rw [beq_eq_false_iff_ne]; omega
      have HN := hide hn
      clear hn
      go_enter Try.func31, Try.ntmps31
      go_wp2
      go_ret
      exact ⟨HW.out ▸ HB.out, .inr (.inr ⟨fun h => (by cases h.1), fun h => HN.out h.2.1, rfl⟩)⟩

theorem nodeB_no {dir : Bool} {ns : List ByteArray} {ks : List Int} {dat : ByteArray} (h1 : ¬ (dir = true ∧ dat.size = 0 ∧ ns.length = ks.length)) (h2 : ¬ (dir = false ∧ ns.length = 0 ∧ ks.length = 0)) : nodeB dir ns ks dat = false := by
  unfold nodeB
  cases dir with
  | true =>
    by_cases hA : dat.size = 0
    · by_cases hB : ns.length = ks.length
      · exact absurd ⟨rfl, hA, hB⟩ h1
      · simp only [hB, decide_false, Bool.and_false, Bool.false_and, if_true]
    · simp only [hA, decide_false, Bool.false_and, if_true]
  | false =>
    by_cases hA : ns.length = 0
    · by_cases hB : ks.length = 0
      · exact absurd ⟨rfl, hA, hB⟩ h2
      · simp only [hB, decide_false, Bool.and_false, Bool.false_and]; rfl
    · simp only [hA, decide_false, Bool.false_and]; rfl
/-- Which methods a folder and a file have. -/
theorem folder_fits (v : Value) (w : World) : (method 203 69 v "loop.example/g00246/impl.fits").run Try.prog w = .ok (83, v) w := by kernel_rfl
theorem file_fits (v : Value) (w : World) : (method 203 70 v "loop.example/g00246/impl.fits").run Try.prog w = .ok (86, v) w := by kernel_rfl

set_option maxHeartbeats 3200000 in
theorem implNodeOk_any (dir : Bool) (a b : Option Addr) (ns : List ByteArray) (ks : List Int) (dat : ByteArray) (c d : Nat) (w : World) (hp : Rd w a (vsString ns)) (hw : Rd w b (vsInt ks)) (hl : ns.length ≤ 1048576) (hm : ks.length ≤ 1048576) (hs : ∀ s ∈ ns, s.size ≤ 1048576) (hd : dat.size ≤ 1048576) :
    Calls Try.prog 14 #[.agg #[.bool dir, .slice a ns.length c, .slice b ks.length d, .string dat]] w fun e w' => e = .returned (.bool (nodeB dir ns ks dat)) ∧ Below w.heap.size w w' := by
  obtain ⟨W, hW⟩ : ∃ W, W = w.alloc (Obj.cells #[.bool dir, .slice a ns.length c, .slice b ks.length d, .string dat] 29) := ⟨_, rfl⟩
  have hbW : Below w.heap.size w W := by rw [hW]; exact (Below.refl _ _).alloc (Nat.le_refl _) _
  have HP := hide (hp.below hbW)
  have HQ := hide (hw.below hbW)
  have HW := hide hW
  have HB := hide hbW
  have HS := hide hs
  clear hp hw hbW hW hs
  go_enter Try.func14, Try.ntmps14
  go_wp2_with fail
  rw [← HW.out]
  refine (contentOf_any dir a b ns ks dat c d W HP.out HQ.out hl hm).mono ?_
  rintro e w1 ⟨hb, h | h | h⟩
  · obtain ⟨h1, h2, h3, v, rfl, ho⟩ := h
    obtain ⟨a1, c1, rfl⟩ := ho.shape
    have HB1 := hide (after HB.out hb)
    have HN : Hid (nodeB dir ns ks dat = fitsB (ns.zip ks)) := by show _ = _; unfold nodeB; simp [h1, h2, h3]
    obtain ⟨a2, c2, hv2, hr2⟩ := ho.rd
    have hlen : ns.length = (ns.zip ks).length := by simp; omega
    have hsz : ∀ x ∈ ns.zip ks, x.1.size ≤ 1048576 := fun x hx => HS.out x.1 (List.of_mem_zip (a := x.1) (b := x.2) hx).1
    have hm' := folder_fits (.slice a1 (ns.zip ks).length c1)
    injection hv2 with e1 e2 e3
    subst e1 e3
    generalize hK : ns.zip ks = K at ho hr2 HN hsz hm' hlen ⊢
    have hKl : K.length ≤ 1048576 := by omega
    have HSZ := hide hsz
    clear h1 h2 h3 hb hlen hsz hK ho
    go_wp2_with fail
    refine (folderFits_any a1 K c1 w1 hr2 hKl HSZ.out).mono ?_
    rintro e w2 ⟨rfl, hb2⟩
    have HB2 := hide (after HB1.out hb2)
    clear hb2
    go_wp2
    go_ret
    exact ⟨by rw [HN.out]; rfl, HB2.out⟩
  · obtain ⟨h1, h2, h3, rfl⟩ := h
    have HB1 := hide (after HB.out hb)
    have HN : Hid (nodeB dir ns ks dat = decide (dat.size ≤ 60)) := by show _ = _; unfold nodeB; simp [h1, h2, h3]
    have hm' := file_fits (.string dat)
    clear h1 h2 h3 hb
    go_wp2_with fail
    refine (fileFits_any dat (by omega) w1).mono ?_
    rintro e w2 ⟨rfl, hw2⟩
    have hw2' := hw2.symm
    subst hw2'
    go_wp2
    go_ret
    exact ⟨by rw [HN.out]; rfl, HB1.out⟩
  · obtain ⟨h1, h2, rfl⟩ := h
    have HB1 := hide (after HB.out hb)
    have HN : Hid (nodeB dir ns ks dat = false) := nodeB_no h1 h2
    clear h1 h2 hb
    go_wp2
    go_ret
    exact ⟨by rw [HN.out]; rfl, HB1.out⟩
end Go.Proofs.Ytmolhhljodlhaaa
