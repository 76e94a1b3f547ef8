/-
  Contracts of the program's records: RecOk, RecText, takeRec.
-/
import Derived.Test.YtdicjbabnknjhaaHelpRec
namespace Go.Proofs.Ytdicjbabnknjhaa
open Go.RowKit

set_option maxRecDepth 100000 in
set_option maxHeartbeats 1600000 in
theorem implRecOk_any (s q : Int) (d : ByteArray) (w : World) (hd : d.size ≤ maxLen) :
    Calls Try.prog 83 #[.agg #[.int .i64 s, .int .i64 q, .string d]] w fun e w' => e = .returned (.bool (recOkB s q d)) ∧ Below w.heap.size w w' := by
  unfold maxLen at hd
  have hbW : Below w.heap.size w (w.alloc (Obj.cells #[.int .i64 s, .int .i64 q, .string d] 84)) := (Below.refl _ _).alloc (Nat.le_refl _) _
  obtain ⟨R, hR⟩ : ∃ R, R = recOkB s q d := ⟨_, rfl⟩
  rw [← hR]
  have HR := hide hR
  clear hR
  go_enter Try.func83, Try.ntmps83
  by_cases h1 : 0 ≤ s
  · by_cases h2 : s < 26
    · by_cases h3 : 1 ≤ q
      · by_cases h4 : q ≤ 1000000000
        · by_cases h5 : (d.size : Int) ≤ 400
          · go_wp2
            go_ret
            exact ⟨ret_bool (by rw [HR.out]; simp [recOkB]; omega), hbW⟩
          · go_wp2
            go_ret
            exact ⟨ret_bool (by rw [HR.out]; simp [recOkB]; omega), hbW⟩
        · go_wp2
          go_ret
          exact ⟨ret_bool (by rw [HR.out]; simp [recOkB]; omega), hbW⟩
      · go_wp2
        go_ret
        exact ⟨ret_bool (by rw [HR.out]; simp [recOkB]; omega), hbW⟩
    · go_wp2
      go_ret
      exact ⟨ret_bool (by rw [HR.out]; simp [recOkB]; omega), hbW⟩
  · go_wp2
    go_ret
    exact ⟨ret_bool (by rw [HR.out]; simp [recOkB]; omega), hbW⟩

/-- What a record's three parts tell from a place on. -/
def getR (zs : List Int) (i : Int) : Option (Int × Int × List Int × Nat) :=
  match getN zs i with
  | none => none
  | some (s, j) => match getN zs (j : Int) with
    | none => none
    | some (q, k) => match getT zs (k : Int) with
      | none => none
      | some (ys, l) => some (s, q, ys, l)
theorem getR_no1 {zs : List Int} {i : Int} (h : getN zs i = none) : getR zs i = none := by unfold getR; rw [h]
theorem getR_no2 {zs : List Int} {i s : Int} {j : Nat} (h : getN zs i = some (s, j)) (h2 : getN zs (j : Int) = none) : getR zs i = none := by unfold getR; rw [h]; simp only []; rw [h2]
theorem getR_no3 {zs : List Int} {i s q : Int} {j k : Nat} (h : getN zs i = some (s, j)) (h2 : getN zs (j : Int) = some (q, k)) (h3 : getT zs (k : Int) = none) : getR zs i = none := by unfold getR; rw [h]; simp only []; rw [h2]; simp only []; rw [h3]
theorem getR_yes {zs : List Int} {i s q : Int} {j k l : Nat} {ys : List Int} (h : getN zs i = some (s, j)) (h2 : getN zs (j : Int) = some (q, k)) (h3 : getT zs (k : Int) = some (ys, l)) : getR zs i = some (s, q, ys, l) := by unfold getR; rw [h]; simp only []; rw [h2]; simp only []; rw [h3]
/-- How taking a record ends. -/
def TookR (pb : Nat) (r : Option (Int × Int × List Int × Nat)) (e : Ending) (w' : World) : Prop :=
  match r with
  | none => ∃ s, e = .panicked [{ v := .iface 9 (.string s), recovered := false }]
  | some (s, q, ys, l) => e = .returned (.agg #[.int .i64 s, .int .i64 q, .string (strOf ys)]) ∧ w'.cell? ⟨pb, 0, none⟩ = some (.int .i64 l) ∧ w'.frozen? ⟨pb, 0, none⟩ = false
theorem tookR_no {pb : Nat} {r : Option (Int × Int × List Int × Nat)} {e : Ending} {w' : World} {s : ByteArray} (h : r = none) (he : e = .panicked [{ v := .iface 9 (.string s), recovered := false }]) : TookR pb r e w' := by subst h; exact ⟨s, he⟩
theorem tookR_yes {pb : Nat} {r : Option (Int × Int × List Int × Nat)} {e : Ending} {w' : World} {s q : Int} {ys : List Int} {l : Nat} (h : r = some (s, q, ys, l)) (he : e = .returned (.agg #[.int .i64 s, .int .i64 q, .string (strOf ys)])) (hc : w'.cell? ⟨pb, 0, none⟩ = some (.int .i64 l)) (hf : w'.frozen? ⟨pb, 0, none⟩ = false) : TookR pb r e w' := by subst h; exact ⟨he, hc, hf⟩

set_option maxRecDepth 100000 in
set_option maxHeartbeats 1600000 in
theorem takeRec_any (a : Option Addr) (zs : List Int) (cap pb : Nat) (i0 : Int) (w : World) (hr : ∀ w', Below pb w w' → Rd w' a (u8s zs)) (hb : IsBytes zs) (hm : zs.length ≤ 1048576) (hcap : zs.length ≤ cap) (hp : w.cell? ⟨pb, 0, none⟩ = some (.int .i64 i0)) (hf : w.frozen? ⟨pb, 0, none⟩ = false) :
    Calls Try.prog 82 #[.slice a zs.length cap, .pointer (some ⟨pb, 0, none⟩)] w fun e w' => Below pb w w' ∧ TookR pb (getR zs i0) e w' := by
  have hpb : pb < w.heap.size := lt_of_cell hp
  obtain ⟨W, hW⟩ : ∃ W, W = w.alloc (Obj.cells #[.int .i64 0, .int .i64 0, .string ⟨#[]⟩] 84) := ⟨_, rfl⟩
  have hbW : Below w.heap.size w W := by rw [hW]; exact (Below.refl _ _).alloc (Nat.le_refl _) _
  have hbp : Below pb w W := hbW.mono (by omega)
  have k0 : C3 W w.heap.size (.int .i64 0) (.int .i64 0) (.string ⟨#[]⟩) := by rw [hW]; exact c3_new _ _ _ _ _
  have p0 : W.cell? ⟨pb, 0, none⟩ = some (.int .i64 i0) := (hbW.cell (p := ⟨pb, 0, none⟩) hpb).trans hp
  have f0 : W.frozen? ⟨pb, 0, none⟩ = false := (hbW.frozen (p := ⟨pb, 0, none⟩) hpb).trans hf
  have hsW := k0.lt
  clear hp hf hbW
  go_enter Try.func82, Try.ntmps82
  go_wp2_with fail
  rw [← hW]
  clear hW
  refine (takeNum_grown a zs cap pb i0 W (fun u hu => hr u (hbp.trans hu)) hb hm p0 f0).mono ?_
  rintro e w1 ⟨hg1, ht⟩
  have hb1 := hbp.trans (belowGrown hg1 (by omega))
  have k1 := k0.grown hg1 (by omega)
  cases hg : getN zs i0 with
  | none =>
    rw [hg] at ht
    obtain ⟨s, rfl⟩ := ht
    have hT := hide (getR_no1 hg)
    clear hg hr p0 f0 k0 k1
    go_wp2
    exact ⟨rfl, hb1, tookR_no hT.out rfl⟩
  | some r =>
    obtain ⟨n, j⟩ := r
    rw [hg] at ht
    obtain ⟨rfl, p1, f1⟩ := ht
    have H1 := hide hg
    clear hg p0 f0 k0 hg1
    go_wp2_with fail
    refine (takeNum_grown a zs cap pb j w1 (fun u hu => hr u (hb1.trans hu)) hb hm p1 f1).mono ?_
    rintro e w2 ⟨hg2, ht⟩
    have hb2 := hb1.trans (belowGrown hg2 (Nat.le_of_lt (lt_of_cell p1)))
    have k2 := k1.grown hg2 (by omega)
    cases hg : getN zs (j : Int) with
    | none =>
      rw [hg] at ht
      obtain ⟨s, rfl⟩ := ht
      have hT := hide (getR_no2 H1.out hg)
      clear hg hr p1 f1 k1 k2
      go_wp2
      exact ⟨rfl, hb2, tookR_no hT.out rfl⟩
    | some r =>
      obtain ⟨q, k⟩ := r
      rw [hg] at ht
      obtain ⟨rfl, p2, f2⟩ := ht
      have H2 := hide hg
      clear hg p1 f1 k1 hg2
      go_wp2_with fail
      refine (takeText_grown a zs cap pb k w2 (fun u hu => hr u (hb2.trans hu)) hb hm hcap p2 f2).mono ?_
      rintro e w3 ⟨hg3, ht⟩
      have hb3 := hb2.trans (belowGrown hg3 (Nat.le_of_lt (lt_of_cell p2)))
      have k3 := k2.grown hg3 (by omega)
      cases hg : getT zs (k : Int) with
      | none =>
        rw [hg] at ht
        obtain ⟨s, rfl⟩ := ht
        have hT := hide (getR_no3 H1.out H2.out hg)
        clear hg hr p2 f2 k2 k3
        go_wp2
        exact ⟨rfl, hb3, tookR_no hT.out rfl⟩
      | some r =>
        obtain ⟨ys, l⟩ := r
        rw [hg] at ht
        obtain ⟨rfl, p3, f3⟩ := ht
        have hT := hide (getR_yes H1.out H2.out hg)
        obtain ⟨⟨c0, c1, c2⟩, cf⟩ := k3
        have g0 := cf 0
        have g1 := cf 1
        have g2 := cf 2
        have hne : pb ≠ w.heap.size := by omega
        clear hg hr p2 f2 k2 hg3 cf
        go_wp2
        exact bodyPost_ret (v := .agg #[.int .i64 n, .int .i64 q, .string (strOf ys)]) (by simp [results, Try.results82, go_sem, c0, c1, c2]) rfl
          ⟨((hb3.setCell (by show _ ≤ _; simp; omega) _).setCell (by show _ ≤ _; simp; omega) _).setCell (by show _ ≤ _; simp; omega) _,
            tookR_yes hT.out rfl (cell_aside (cell_aside (cell_aside p3 (by omega)) (by omega)) (by omega)) (by simpa using f3)⟩

end Go.Proofs.Ytdicjbabnknjhaa
