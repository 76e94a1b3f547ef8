/-
  Contract of the program's NodeText.
-/
import Derived.Test.YtmolhhljodlhaaaImplNodeOk
import Derived.Test.YtmolhhljodlhaaaImplBody
import Derived.Deep.RegionHeld
namespace Go.Proofs.Ytmolhhljodlhaaa
open Go.RowKit Go.Deep
set_option maxRecDepth 100000
set_option linter.unusedVariables false

theorem enc_d : Utf8.encode (((⟨#[100, 102]⟩ : ByteArray)[0]).toNat : Int) = ⟨#[100]⟩ := by kernel_rfl
theorem enc_f : Utf8.encode (((⟨#[100, 102]⟩ : ByteArray)[1]).toNat : Int) = ⟨#[102]⟩ := by kernel_rfl
theorem folder_kind (v : Value) (w : World) : (method 203 69 v "loop.example/g00246/impl.kind").run Try.prog w = .ok (84, v) w := by kernel_rfl
theorem file_kind (v : Value) (w : World) : (method 203 70 v "loop.example/g00246/impl.kind").run Try.prog w = .ok (87, v) w := by kernel_rfl
theorem folder_body (v : Value) (w : World) : (method 203 69 v "loop.example/g00246/impl.body").run Try.prog w = .ok (82, v) w := by kernel_rfl
theorem file_body (v : Value) (w : World) : (method 203 70 v "loop.example/g00246/impl.body").run Try.prog w = .ok (85, v) w := by kernel_rfl

/-- Two texts one behind the other, as a step of a region that draws its order. -/
theorem step_concat {P : Program} {w : World} {ops : Array Oper} {o : Oper} {a : Act} {K : Act → World → Prop} {Q : Exit → Act → World → Prop} {E : Prop} (hgd : o.guard = none) (s x : Operand) (t u : TypeId)
    (ho : o.op = .binOp .add t s x u) (A B : ByteArray) (hs : a.eval s = .string A) (hx : a.eval x = .string B) (hl : A.size + B.size ≤ 9223372036854775807) (h : K (a.put o.dst (.string (A ++ B))) w) :
    if Region.wanted o (yielded ops a.tmps) = true then Oper.wp P o a w K Q else E := by
  have hw : Region.wanted o (yielded ops a.tmps) = true := by simp [Region.wanted, hgd]
  have hg : eqGuard BinOp.add t s x (Value.string A) (Value.string B) = pure () := rfl
  rw [if_pos hw]
  unfold Oper.wp execOp
  simp only [ho, Sem.run_bind, Sem.run_pure, hg, hs, hx, binOp_string_add, run_string_add_sum w A B hl, Result.andThen_ok]
  exact h
theorem folderKind_any (v : Value) (w : World) : Calls Try.prog 84 #[v] w fun e w' => e = .returned (.int .i64 0) ∧ w' = w := by
  go_enter Try.func84, Try.ntmps84
  go_wp2
  go_ret
  exact ⟨rfl, rfl⟩
theorem fileKind_any (v : Value) (w : World) : Calls Try.prog 87 #[v] w fun e w' => e = .returned (.int .i64 1) ∧ w' = w := by
  go_enter Try.func87, Try.ntmps87
  go_wp2
  go_ret
  exact ⟨rfl, rfl⟩
theorem fileBody_any (s : ByteArray) (w : World) : Calls Try.prog 85 #[.string s] w fun e w' => e = .returned (.string s) ∧ w' = w := by
  go_enter Try.func85, Try.ntmps85
  go_wp2
  go_ret
  exact ⟨rfl, rfl⟩

set_option maxHeartbeats 6400000 in
theorem implNodeText_any (dir : Bool) (a b : Option Addr) (ns : List ByteArray) (ks : List Int) (dat : ByteArray) (c d : Nat) (w : World) (hp : Rd w a (vsString ns)) (hw : Rd w b (vsInt ks)) (hl : ns.length ≤ 1048576) (hm : ks.length ≤ 1048576) (hs : ∀ s ∈ ns, s.size ≤ 1048576) (hd : dat.size ≤ 1048576) :
    Calls Try.prog 17 #[.agg #[.bool dir, .slice a ns.length c, .slice b ks.length d, .string dat]] w fun e w' => e = .returned (.string (nodeT dir ns ks dat)) ∧ Below w.heap.size w w' := by
  obtain ⟨W, hW⟩ : ∃ W, W = w.alloc (Obj.cells #[.bool dir, .slice a ns.length c, .slice b ks.length d, .string dat] 29) := ⟨_, rfl⟩
  have hbW : Below w.heap.size w W := by rw [hW]; exact (Below.refl _ _).alloc (Nat.le_refl _) _
  have HP := hide (hp.below hbW)
  have HQ := hide (hw.below hbW)
  have HW := hide hW
  have HB := hide hbW
  have HS := hide hs
  clear hp hw hbW hW hs
  go_enter Try.func17, Try.ntmps17
  go_wp2_with fail
  rw [← HW.out]
  refine (contentOf_any dir a b ns ks dat c d W HP.out HQ.out hl hm).mono ?_
  rintro e w1 ⟨hb, h | h | h⟩
  · obtain ⟨h1, h2, h3, v, rfl, ho⟩ := h
    obtain ⟨a1, c1, rfl⟩ := ho.shape
    have HB1 := hide (after HB.out hb)
    have HN : Hid (nodeB dir ns ks dat = fitsB (ns.zip ks)) := by show _ = _; unfold nodeB; simp [h1, h2, h3]
    obtain ⟨a2, c2, hv2, hr2⟩ := ho.rd
    have hlen : ns.length = (ns.zip ks).length := by simp; omega
    have hsz : ∀ x ∈ ns.zip ks, x.1.size ≤ 1048576 := fun x hx => HS.out x.1 (List.of_mem_zip (a := x.1) (b := x.2) hx).1
    have hm' := folder_fits (.slice a1 (ns.zip ks).length c1)
    have hm2 := folder_kind (.slice a1 (ns.zip ks).length c1)
    have hm3 := folder_body (.slice a1 (ns.zip ks).length c1)
    injection hv2 with e1 e2 e3
    subst e1 e3
    have HZ : Hid (nodeZ dir ns ks dat = 100 :: bodyZ (ns.zip ks)) := by show _ = _; unfold nodeZ; rw [h1]; rfl
    generalize hK : ns.zip ks = K at ho hr2 HN hsz hm' hm2 hm3 hlen HZ ⊢
    have hKl : K.length ≤ 1048576 := by omega
    have HSZ := hide hsz
    clear h1 h2 h3 hb hlen hsz hK ho
    go_wp2_with fail
    refine (folderFits_any a1 K c1 w1 hr2 hKl HSZ.out).mono ?_
    rintro e w2 ⟨rfl, hb2⟩
    have HB2 := hide (after HB1.out hb2)
    have hr3 := hr2.below hb2
    clear hb2 hr2 HB1 hm'
    cases hF : fitsB K with
    | false =>
      have HT : Hid (nodeT dir ns ks dat = ⟨#[]⟩) := nodeT_no (by rw [HN.out, hF])
      go_wp2
      go_ret
      exact ⟨by rw [HT.out]; rfl, HB2.out⟩
    | true =>
      obtain ⟨X, hX⟩ : ∃ X, X = strOf (bodyZ K) := ⟨_, rfl⟩
      have HT : Hid (nodeT dir ns ks dat = ⟨#[100]⟩ ++ X) := by show _ = _; rw [nodeT_yes (by rw [HN.out, hF]), HZ.out, hX]; exact strOf_app [100] (bodyZ K)
      have HM := hide (fun x hx => fitsB_mem hF (x := x) hx)
      have HRW : Hid (∀ u, Below w2.heap.size w2 u → Rd u a1 (vsKid K)) := fun u hu => hr3.below hu
      have HC : Hid (∀ u, Below w2.heap.size w2 u → Calls Try.prog 82 #[.slice a1 K.length c1] u fun e w' => e = .returned (.string X) ∧ Below u.heap.size u w') := fun u hu => hX ▸ folderBody_any a1 K c1 u (HRW.out u hu) hKl (fun x hx => by have := HM.out x hx; exact ⟨(nameB_size this.1).2, this.2.1, this.2.2⟩)
      have hXs : X.size ≤ 8388608 := by rw [hX, strOf_size]; have := bodyZ_len (K := K) (fun x hx => (nameB_size (HM.out x hx).1).2); omega
      clear HN HZ hr3 HRW hX
      have hsum : (Utf8.encode (((⟨#[100, 102]⟩ : ByteArray)[0]).toNat : Int)).size + X.size ≤ 9223372036854775807 := by rw [enc_d]; have : (⟨#[100]⟩ : ByteArray).size = 1 := rfl; omega
      have hno : ¬ (9223372036854775807 < (Utf8.encode (((⟨#[100, 102]⟩ : ByteArray)[0]).toNat : Int)).size + X.size) := by omega
      clear hsum
      have HD1 : Hid (Below w2.heap.size w2 w2.drew) := after_drew (Below.refl _ _) 1
      have HD2 : Hid (Below w2.heap.size w2 w2.drew.drew) := after_drew (Below.refl _ _) 2
      go_wp2
      go_region_held (fun u => True) (exact True.intro)
        ((first
          | (go_at_call 84; refine (folderKind_any _ _).mono ?_; rintro e u ⟨rfl, hu⟩; have hu' := hu.symm; subst hu'; clear hu)
          | (go_at_call 82; refine (HC.out _ (by first | exact HD1.out | exact HD2.out)).mono ?_; rintro e u ⟨rfl, hbu⟩; have HBU := hide hbu; clear hbu)))
      all_goals first
        | (have HBF := hide (after (after HB2.out HD1.out) HBU.out); go_wp2; go_ret; exact ⟨by rw [HT.out, ← enc_d]; rfl, HBF.out⟩)
        | (have HBF := hide (after (after HB2.out HD2.out) HBU.out); go_wp2; go_ret; exact ⟨by rw [HT.out, ← enc_d]; rfl, HBF.out⟩)
  · obtain ⟨h1, h2, h3, rfl⟩ := h
    have HB1 := hide (after HB.out hb)
    have HN : Hid (nodeB dir ns ks dat = decide (dat.size ≤ 60)) := by show _ = _; unfold nodeB; simp [h1, h2, h3]
    have HZ : Hid (nodeZ dir ns ks dat = 102 :: strB dat) := by show _ = _; unfold nodeZ; rw [h1]; rfl
    have hm' := file_fits (.string dat)
    have hm2 := file_kind (.string dat)
    have hm3 := file_body (.string dat)
    clear h1 h2 h3 hb
    go_wp2_with fail
    refine (fileFits_any dat (by omega) w1).mono ?_
    rintro e w2 ⟨rfl, hw2⟩
    have hw2' := hw2.symm
    subst hw2'
    by_cases h60 : dat.size ≤ 60
    · have hdd : decide (dat.size ≤ 60) = true := decide_eq_true h60
      have HT : Hid (nodeT dir ns ks dat = ⟨#[102]⟩ ++ dat) := by show _ = _; rw [nodeT_yes (by rw [HN.out, hdd]), HZ.out]; have := strOf_app [102] (strB dat); rw [strOf_strB] at this; exact this
      have hno : ¬ (9223372036854775807 < (Utf8.encode (((⟨#[100, 102]⟩ : ByteArray)[1]).toNat : Int)).size + dat.size) := by rw [enc_f]; have : (⟨#[102]⟩ : ByteArray).size = 1 := rfl; omega
      rw [hdd]
      clear h60 hdd
      go_wp2
      go_quiet ((first | (go_at_call 87; exact Calls.quiet_of_same (fileKind_any _ _)) | (go_at_call 85; exact Calls.quiet_of_same (fileBody_any _ _))))
      go_wp2
      go_ret
      exact ⟨by rw [HT.out, ← enc_f]; rfl, after_drew HB1.out _⟩
    · have hdd : decide (dat.size ≤ 60) = false := decide_eq_false h60
      have HT : Hid (nodeT dir ns ks dat = ⟨#[]⟩) := nodeT_no (by rw [HN.out, hdd])
      rw [hdd]
      clear h60 hdd
      go_wp2
      go_ret
      exact ⟨by rw [HT.out]; rfl, HB1.out⟩
  · obtain ⟨h1, h2, rfl⟩ := h
    have HB1 := hide (after HB.out hb)
    have HT : Hid (nodeT dir ns ks dat = ⟨#[]⟩) := nodeT_no (nodeB_no h1 h2)
    clear h1 h2 hb
    go_wp2
    go_ret
    exact ⟨by rw [HT.out]; rfl, HB1.out⟩
end Go.Proofs.Ytmolhhljodlhaaa
