/-
  Contracts of the laws' helpers over records: eqRec, toRec, szRec.
  Contracts of the program's records: RecOk, RecText, takeRec.
  Contracts of the program's RecRead, and of recOf: a panic is recovered, the record is then none.
-/
import Derived.Test.YtdicjbabnknjhaaGreatJRecover8
namespace Go.Proofs.YtdicjbabnknjhaaGreat
open Go.RowKit

theorem cell_aside {w : World} {p o q k : Nat} {v u : Value} (h : w.cell? ⟨p, o, none⟩ = some v) (hne : q ≠ p) : (w.setCell ⟨q, k, none⟩ u).cell? ⟨p, o, none⟩ = some v := by
  rw [World.cell?_of_block (w := w) (a := ⟨p, o, none⟩) (Below.heap_setCell w _ u _ (by show p ≠ q; omega))]
  exact h
/-- Three cells of a variable. -/
def C3 (u : World) (p : Nat) (x0 x1 x2 : Value) : Prop :=
  (u.cell? ⟨p, 0, none⟩ = some x0 ∧ u.cell? ⟨p, 1, none⟩ = some x1 ∧ u.cell? ⟨p, 2, none⟩ = some x2) ∧ ∀ j, u.frozen? ⟨p, j, none⟩ = false
theorem C3.lt {u : World} {p : Nat} {x0 x1 x2 : Value} (h : C3 u p x0 x1 x2) : p < u.heap.size := lt_of_cell h.1.1
theorem C3.below {u u' : World} {p : Nat} {x0 x1 x2 : Value} (h : C3 u p x0 x1 x2) (hb : Below u.heap.size u u') : C3 u' p x0 x1 x2 :=
  ⟨⟨(hb.cell (p := ⟨p, 0, none⟩) h.lt).trans h.1.1, (hb.cell (p := ⟨p, 1, none⟩) h.lt).trans h.1.2.1, (hb.cell (p := ⟨p, 2, none⟩) h.lt).trans h.1.2.2⟩, fun j => (hb.frozen (p := ⟨p, j, none⟩) h.lt).trans (h.2 j)⟩
theorem C3.grown {u u' : World} {p q : Nat} {x0 x1 x2 : Value} (h : C3 u p x0 x1 x2) (hg : u.grownBy u' (some q)) (hne : q ≠ p) : C3 u' p x0 x1 x2 := by
  have e := hg.block p h.lt (fun he => hne (by cases he; rfl))
  exact ⟨⟨(World.cell?_of_block (a := ⟨p, 0, none⟩) e).trans h.1.1, (World.cell?_of_block (a := ⟨p, 1, none⟩) e).trans h.1.2.1, (World.cell?_of_block (a := ⟨p, 2, none⟩) e).trans h.1.2.2⟩, fun j => (World.frozen?_of_block (a := ⟨p, j, none⟩) e).trans (h.2 j)⟩
theorem c3_new (u : World) (x0 x1 x2 : Value) (t : TypeId) : C3 (u.alloc (.cells #[x0, x1, x2] t)) u.heap.size x0 x1 x2 := ⟨⟨by simp, by simp, by simp⟩, fun j => by simp⟩

end Go.Proofs.YtdicjbabnknjhaaGreat

namespace Go.Proofs.YtdicjbabnknjhaaGreat
open Go.RowKit

set_option maxRecDepth 100000 in
set_option maxHeartbeats 1600000 in
theorem implRecOk_any (s q : Int) (d : ByteArray) (w : World) (hd : d.size ≤ maxLen) :
    Calls Tryz.prog 110 #[.agg #[.int .i64 s, .int .i64 q, .string d]] w fun e w' => e = .returned (.bool (recOkB s q d)) ∧ Below w.heap.size w w' := by
  unfold maxLen at hd
  have hbW : Below w.heap.size w (w.alloc (Obj.cells #[.int .i64 s, .int .i64 q, .string d] 87)) := (Below.refl _ _).alloc (Nat.le_refl _) _
  obtain ⟨R, hR⟩ : ∃ R, R = recOkB s q d := ⟨_, rfl⟩
  rw [← hR]
  have HR := hide hR
  clear hR
  go_enter Tryz.func110, Tryz.ntmps110
  by_cases h1 : 0 ≤ s
  · by_cases h2 : s < 26
    · by_cases h3 : 1 ≤ q
      · by_cases h4 : q ≤ 1000000000
        · by_cases h5 : (d.size : Int) ≤ 400
          · go_wp2
            go_ret
            exact ⟨ret_bool (by rw [HR.out]; simp [recOkB]; omega), hbW⟩
          · go_wp2
            go_ret
            exact ⟨ret_bool (by rw [HR.out]; simp [recOkB]; omega), hbW⟩
        · go_wp2
          go_ret
          exact ⟨ret_bool (by rw [HR.out]; simp [recOkB]; omega), hbW⟩
      · go_wp2
        go_ret
        exact ⟨ret_bool (by rw [HR.out]; simp [recOkB]; omega), hbW⟩
    · go_wp2
      go_ret
      exact ⟨ret_bool (by rw [HR.out]; simp [recOkB]; omega), hbW⟩
  · go_wp2
    go_ret
    exact ⟨ret_bool (by rw [HR.out]; simp [recOkB]; omega), hbW⟩

set_option maxRecDepth 100000 in
set_option maxHeartbeats 3200000 in
theorem implRecText_any (s q : Int) (d : ByteArray) (w : World) (hd : d.size ≤ maxLen) (hs0 : -9223372036854775808 ≤ s) (hs1 : s ≤ 9223372036854775807) (hq0 : -9223372036854775808 ≤ q) (hq1 : q ≤ 9223372036854775807) :
    Calls Tryz.prog 123 #[.agg #[.int .i64 s, .int .i64 q, .string d]] w fun e w' => e = .returned (.string (recT s q d)) ∧ Below w.heap.size w w' := by
  obtain ⟨W, hW⟩ : ∃ W, W = w.alloc (Obj.cells #[.int .i64 s, .int .i64 q, .string d] 87) := ⟨_, rfl⟩
  have hbW : Below w.heap.size w W := by subst hW; exact (Below.refl _ _).alloc (Nat.le_refl _) _
  have cW : W.cell? ⟨w.heap.size, 0, none⟩ = some (.int .i64 s) ∧ W.cell? ⟨w.heap.size, 1, none⟩ = some (.int .i64 q) ∧ W.cell? ⟨w.heap.size, 2, none⟩ = some (.string d) := by
    subst hW; refine ⟨?_, ?_, ?_⟩ <;> simp
  have hsW : w.heap.size < W.heap.size := by subst hW; simp
  obtain ⟨R, hR⟩ : ∃ R, R = recT s q d := ⟨_, rfl⟩
  rw [← hR]
  go_enter Tryz.func123, Tryz.ntmps123
  go_wp2_with fail
  rw [← hW]
  clear hW
  refine (implRecOk_any s q d W hd).mono ?_
  rintro e w1 ⟨rfl, hb1⟩
  have hbw1 := after hbW hb1
  have hs1' := hb1.size
  cases hok : recOkB s q d with
  | false =>
    have HR : Hid (R = ByteArray.empty) := by show _ = _; rw [hR, recT, recB, hok]; rfl
    clear hR hok hb1 hbW cW
    go_wp2
    go_ret
    exact ⟨by rw [HR.out]; rfl, hbw1⟩
  | true =>
    obtain ⟨⟨a0, a1⟩, ⟨b0, b1⟩, d4⟩ := recOkB_iff.1 hok
    have HR : Hid (R = strOf (putB (sumOf (restB s q d)) ++ restB s q d)) := by show _ = _; rw [hR, recT, recB, if_pos hok]
    have HC : Hid (∀ u, Below w1.heap.size w1 u → u.cell? ⟨w.heap.size, 0, none⟩ = some (.int .i64 s) ∧ u.cell? ⟨w.heap.size, 1, none⟩ = some (.int .i64 q) ∧ u.cell? ⟨w.heap.size, 2, none⟩ = some (.string d)) := by
      intro u hu
      have h := after hb1 hu
      exact ⟨(h.cell (p := ⟨w.heap.size, 0, none⟩) (by show _ < _; exact hsW)).trans cW.1, (h.cell (p := ⟨w.heap.size, 1, none⟩) (by show _ < _; exact hsW)).trans cW.2.1, (h.cell (p := ⟨w.heap.size, 2, none⟩) (by show _ < _; exact hsW)).trans cW.2.2⟩
    obtain ⟨i0, hi, hz0, hz1, hz2⟩ := info_parts info5
    have hdr : Below w1.heap.size w1 w1.drew := after_drew (Below.refl _ _) 1
    obtain ⟨c0, c1, c2⟩ := HC.out w1 (Below.refl _ _)
    have hps := putB_len s
    have hpq := putB_len q
    have hpd := textB_len d
    have hpp := putB_pos (x := q) (by omega) b1
    have HD := hide d4
    obtain ⟨L, hL⟩ : ∃ L, L = putB s ++ putB q := ⟨_, rfl⟩
    have HLQ := hide hL
    have hLl : L.length ≤ 10 := by rw [hL]; simp; omega
    obtain ⟨T, hT⟩ : ∃ T, T = L ++ textB d := ⟨_, rfl⟩
    have HTQ := hide hT
    have hTl : T.length ≤ 415 := by rw [hT]; simp; omega
    have HTR : Hid (T = restB s q d) := by show _ = _; rw [hT, hL]; rfl
    have hTb : IsBytes T := by rw [HTR.out]; exact restB_bytes s q d
    have hsum := sumOf_bd T
    obtain ⟨Z, hZ⟩ : ∃ Z, Z = sumOf T := ⟨_, rfl⟩
    rw [← hZ] at hsum
    have HZ := hide hZ
    have hpz := putB_len Z
    obtain ⟨F, hF⟩ : ∃ F, F = putB Z ++ T := ⟨_, rfl⟩
    have HFQ := hide hF
    have hFb : IsBytes F := by rw [hF]; exact (putB_bytes Z).app hTb
    have hFl : F.length ≤ 420 := by rw [hF]; simp; omega
    have HRF : Hid (R = strOf F) := by show _ = _; rw [HR.out, hF, hZ, HTR.out]
    have HTB := hide hTb
    have HFB := hide hFb
    clear hL hT hZ hF hTb hFb HR
    clear hR hok hb1 hbW cW d4
    go_wp2_with fail
    go_region_held_law (fun w' => w'.cell? ⟨w.heap.size, 0, none⟩ = some (.int .i64 s) ∧ w'.cell? ⟨w.heap.size, 1, none⟩ = some (.int .i64 q) ∧ w'.cell? ⟨w.heap.size, 2, none⟩ = some (.string d))
      (first | assumption | go_keep)
      ((first
        | (refine step_append_two rfl (.tmp 9) (.tmp 12) 82 rfl w1.heap.size w2.heap.size 5 i0 (.int .u8 0) 1 Tryz.underlying82 hi hz0 hz1 hz2 rfl _ _ _ (by rfl) HO2'.out _ _ _ (by rfl) HO3.out (u8s_one _) hpp (by omega) (by omega) HS3.out.size ?_; intro v4 w4 ho4 hb4; have HS4 : Hid (Below w1.heap.size w1 w4) := HS3.out.trans hb4; have hS4 := HC.out w4 HS4.out; rw [u8s_app, ← List.length_append, ← HLQ.out] at ho4; obtain ⟨a4, k4, hv4, -⟩ := owns_open ho4; subst hv4; have HO4 := hide ho4; clear ho4 hb4)
        | (go_at_call_of 66 (Value.int IntKind.i64 s); refine (implPutNum_any s _ hs0 hs1).mono ?_; rintro e w2 ⟨v2, rfl, ho2, hb2⟩; obtain ⟨a2, k2, hv2, -⟩ := owns_open ho2; subst hv2; have HS2 : Hid (Below w1.heap.size w1 w2) := after hdr hb2; have hS2 := HC.out w2 HS2.out; have HO2 := hide ho2; clear ho2 hb2)
        | (go_at_call_of 66 (Value.int IntKind.i64 q); refine (implPutNum_any q _ hq0 hq1).mono ?_; rintro e w3 ⟨v3, rfl, ho3, hb3⟩; obtain ⟨a3, k3, hv3, -⟩ := owns_open ho3; subst hv3; have HS3 : Hid (Below w1.heap.size w1 w3) := after HS2.out hb3; have hS3 := HC.out w3 HS3.out; have HO2' := hide (owns_below HO2.out hb3); have HO3 := hide ho3; clear ho3 hb3)))
    have hbw4 := after hbw1 HS4.out
    have hs4 : w1.heap.size ≤ w4.heap.size := HS4.out.size
    obtain ⟨-, -, e2⟩ := id hS4
    clear c0 c1 c2 hS2 hS3 hS4 HC HO2 HO2' HO3 HS2 HS3 hdr
    go_wp2_with fail
    refine (implPutText_any d w4 hd).mono ?_
    rintro e w5 ⟨v5, rfl, ho5, hb5⟩
    obtain ⟨a5, k5, rfl, -⟩ := owns_open ho5
    have HO4' := hide (owns_below HO4.out hb5)
    have HO5 := hide ho5
    have hs5 := hb5.size
    have hbw5 := after hbw4 hb5
    clear ho5 hb5 HO4
    go_wp2_with (at_builtin; refine wpList_append_two rfl (.tmp 14) (.tmp 17) 82 rfl w1.heap.size w4.heap.size 5 i0 (.int .u8 0) 1 Tryz.underlying82 hi hz0 hz1 hz2 rfl _ _ _ rfl HO4'.out _ _ _ rfl HO5.out (u8s_one _) (by omega) (by omega) (by omega) ?_; intro v6 w6 ho6 hb6; rw [u8s_app, ← List.length_append, ← HTQ.out] at ho6; obtain ⟨a6, k6, hv6, hr6⟩ := owns_open ho6; subst hv6; have HO6 := hide ho6; have HR6 := hide hr6; clear ho6 hr6)
    have hbw6 : Below w.heap.size w w6 := hbw5.trans (hb6.mono (by have := hbw1.size; omega))
    have hs6 := hb6.size
    clear hb6 HO4' HO5
    refine (implSum_any a6 T k6 w6 HR6.out HTB.out (by unfold maxLen; omega)).mono ?_
    rw [← HZ.out]
    rintro e u ⟨rfl, hu⟩
    have hu' := hu.symm
    subst hu'
    go_wp2_with fail
    refine (implPutNum_any Z w6 (by omega) (by omega)).mono ?_
    rintro e w7 ⟨v7, rfl, ho7, hb7⟩
    obtain ⟨a7, k7, rfl, -⟩ := owns_open ho7
    have HO6' := hide (owns_below HO6.out hb7)
    have HO7 := hide ho7
    have hs7 := hb7.size
    have hbw7 := after hbw6 hb7
    clear ho7 hb7 HO6 HR6
    go_wp2_with (at_builtin; refine wpList_append_two rfl (.tmp 21) (.tmp 22) 82 rfl w6.heap.size w1.heap.size 5 i0 (.int .u8 0) 1 Tryz.underlying82 hi hz0 hz1 hz2 rfl _ _ _ rfl HO7.out _ _ _ rfl HO6'.out (u8s_one _) (by omega) (by omega) (by omega) ?_; intro v8 w8 ho8 hb8; rw [u8s_app, ← List.length_append, ← HFQ.out] at ho8; obtain ⟨a8, k8, hv8, -⟩ := owns_open ho8; subst hv8; have hcv := conv_owned HFB.out ho8; clear ho8)
    go_ret
    exact ⟨by rw [HRF.out]; rfl, hbw7.trans (hb8.mono hbw6.size)⟩

/-- What a record's three parts tell from a place on. -/
def getR (zs : List Int) (i : Int) : Option (Int × Int × List Int × Nat) :=
  match getN zs i with
  | none => none
  | some (s, j) => match getN zs (j : Int) with
    | none => none
    | some (q, k) => match getT zs (k : Int) with
      | none => none
      | some (ys, l) => some (s, q, ys, l)
theorem getR_no1 {zs : List Int} {i : Int} (h : getN zs i = none) : getR zs i = none := by unfold getR; rw [h]
theorem getR_no2 {zs : List Int} {i s : Int} {j : Nat} (h : getN zs i = some (s, j)) (h2 : getN zs (j : Int) = none) : getR zs i = none := by unfold getR; rw [h]; simp only []; rw [h2]
theorem getR_no3 {zs : List Int} {i s q : Int} {j k : Nat} (h : getN zs i = some (s, j)) (h2 : getN zs (j : Int) = some (q, k)) (h3 : getT zs (k : Int) = none) : getR zs i = none := by unfold getR; rw [h]; simp only []; rw [h2]; simp only []; rw [h3]
theorem getR_yes {zs : List Int} {i s q : Int} {j k l : Nat} {ys : List Int} (h : getN zs i = some (s, j)) (h2 : getN zs (j : Int) = some (q, k)) (h3 : getT zs (k : Int) = some (ys, l)) : getR zs i = some (s, q, ys, l) := by unfold getR; rw [h]; simp only []; rw [h2]; simp only []; rw [h3]
/-- How taking a record ends. -/
def TookR (pb : Nat) (r : Option (Int × Int × List Int × Nat)) (e : Ending) (w' : World) : Prop :=
  match r with
  | none => ∃ s, e = .panicked [{ v := .iface 9 (.string s), recovered := false }]
  | some (s, q, ys, l) => e = .returned (.agg #[.int .i64 s, .int .i64 q, .string (strOf ys)]) ∧ w'.cell? ⟨pb, 0, none⟩ = some (.int .i64 l) ∧ w'.frozen? ⟨pb, 0, none⟩ = false
theorem tookR_no {pb : Nat} {r : Option (Int × Int × List Int × Nat)} {e : Ending} {w' : World} {s : ByteArray} (h : r = none) (he : e = .panicked [{ v := .iface 9 (.string s), recovered := false }]) : TookR pb r e w' := by subst h; exact ⟨s, he⟩
theorem tookR_yes {pb : Nat} {r : Option (Int × Int × List Int × Nat)} {e : Ending} {w' : World} {s q : Int} {ys : List Int} {l : Nat} (h : r = some (s, q, ys, l)) (he : e = .returned (.agg #[.int .i64 s, .int .i64 q, .string (strOf ys)])) (hc : w'.cell? ⟨pb, 0, none⟩ = some (.int .i64 l)) (hf : w'.frozen? ⟨pb, 0, none⟩ = false) : TookR pb r e w' := by subst h; exact ⟨he, hc, hf⟩

set_option maxRecDepth 100000 in
set_option maxHeartbeats 1600000 in
theorem takeRec_any (a : Option Addr) (zs : List Int) (cap pb : Nat) (i0 : Int) (w : World) (hr : ∀ w', Below pb w w' → Rd w' a (u8s zs)) (hb : IsBytes zs) (hm : zs.length ≤ 1048576) (hcap : zs.length ≤ cap) (hp : w.cell? ⟨pb, 0, none⟩ = some (.int .i64 i0)) (hf : w.frozen? ⟨pb, 0, none⟩ = false) :
    Calls Tryz.prog 109 #[.slice a zs.length cap, .pointer (some ⟨pb, 0, none⟩)] w fun e w' => Below pb w w' ∧ TookR pb (getR zs i0) e w' := by
  have hpb : pb < w.heap.size := lt_of_cell hp
  obtain ⟨W, hW⟩ : ∃ W, W = w.alloc (Obj.cells #[.int .i64 0, .int .i64 0, .string ⟨#[]⟩] 87) := ⟨_, rfl⟩
  have hbW : Below w.heap.size w W := by rw [hW]; exact (Below.refl _ _).alloc (Nat.le_refl _) _
  have hbp : Below pb w W := hbW.mono (by omega)
  have k0 : C3 W w.heap.size (.int .i64 0) (.int .i64 0) (.string ⟨#[]⟩) := by rw [hW]; exact c3_new _ _ _ _ _
  have p0 : W.cell? ⟨pb, 0, none⟩ = some (.int .i64 i0) := (hbW.cell (p := ⟨pb, 0, none⟩) hpb).trans hp
  have f0 : W.frozen? ⟨pb, 0, none⟩ = false := (hbW.frozen (p := ⟨pb, 0, none⟩) hpb).trans hf
  have hsW := k0.lt
  clear hp hf hbW
  go_enter Tryz.func109, Tryz.ntmps109
  go_wp2_with fail
  rw [← hW]
  clear hW
  refine (takeNum_grown a zs cap pb i0 W (fun u hu => hr u (hbp.trans hu)) hb hm p0 f0).mono ?_
  rintro e w1 ⟨hg1, ht⟩
  have hb1 := hbp.trans (belowGrown hg1 (by omega))
  have k1 := k0.grown hg1 (by omega)
  cases hg : getN zs i0 with
  | none =>
    rw [hg] at ht
    obtain ⟨s, rfl⟩ := ht
    have hT := hide (getR_no1 hg)
    clear hg hr p0 f0 k0 k1
    go_wp2
    exact ⟨rfl, hb1, tookR_no hT.out rfl⟩
  | some r =>
    obtain ⟨n, j⟩ := r
    rw [hg] at ht
    obtain ⟨rfl, p1, f1⟩ := ht
    have H1 := hide hg
    clear hg p0 f0 k0 hg1
    go_wp2_with fail
    refine (takeNum_grown a zs cap pb j w1 (fun u hu => hr u (hb1.trans hu)) hb hm p1 f1).mono ?_
    rintro e w2 ⟨hg2, ht⟩
    have hb2 := hb1.trans (belowGrown hg2 (Nat.le_of_lt (lt_of_cell p1)))
    have k2 := k1.grown hg2 (by omega)
    cases hg : getN zs (j : Int) with
    | none =>
      rw [hg] at ht
      obtain ⟨s, rfl⟩ := ht
      have hT := hide (getR_no2 H1.out hg)
      clear hg hr p1 f1 k1 k2
      go_wp2
      exact ⟨rfl, hb2, tookR_no hT.out rfl⟩
    | some r =>
      obtain ⟨q, k⟩ := r
      rw [hg] at ht
      obtain ⟨rfl, p2, f2⟩ := ht
      have H2 := hide hg
      clear hg p1 f1 k1 hg2
      go_wp2_with fail
      refine (takeText_grown a zs cap pb k w2 (fun u hu => hr u (hb2.trans hu)) hb hm hcap p2 f2).mono ?_
      rintro e w3 ⟨hg3, ht⟩
      have hb3 := hb2.trans (belowGrown hg3 (Nat.le_of_lt (lt_of_cell p2)))
      have k3 := k2.grown hg3 (by omega)
      cases hg : getT zs (k : Int) with
      | none =>
        rw [hg] at ht
        obtain ⟨s, rfl⟩ := ht
        have hT := hide (getR_no3 H1.out H2.out hg)
        clear hg hr p2 f2 k2 k3
        go_wp2
        exact ⟨rfl, hb3, tookR_no hT.out rfl⟩
      | some r =>
        obtain ⟨ys, l⟩ := r
        rw [hg] at ht
        obtain ⟨rfl, p3, f3⟩ := ht
        have hT := hide (getR_yes H1.out H2.out hg)
        obtain ⟨⟨c0, c1, c2⟩, cf⟩ := k3
        have g0 := cf 0
        have g1 := cf 1
        have g2 := cf 2
        have hne : pb ≠ w.heap.size := by omega
        clear hg hr p2 f2 k2 hg3 cf
        go_wp2
        exact bodyPost_ret (v := .agg #[.int .i64 n, .int .i64 q, .string (strOf ys)]) (by simp [results, Tryz.results109, go_sem, c0, c1, c2]) rfl
          ⟨((hb3.setCell (by show _ ≤ _; simp; omega) _).setCell (by show _ ≤ _; simp; omega) _).setCell (by show _ ≤ _; simp; omega) _,
            tookR_yes hT.out rfl (cell_aside (cell_aside (cell_aside p3 (by omega)) (by omega)) (by omega)) (by simpa using f3)⟩

end Go.Proofs.YtdicjbabnknjhaaGreat

namespace Go.Proofs.YtdicjbabnknjhaaGreat
open Go.RowKit

/-- What bytes tell of a record. -/
def recD (zs : List Int) : Option (Int × Int × List Int) :=
  match getN zs 0 with
  | none => none
  | some (n, j) => if n = sumOf (zs.drop j) then
      match getR (zs.drop j) 0 with
      | none => none
      | some (s, q, ys, l) => if l = (zs.drop j).length ∧ recOkB s q (strOf ys) = true then some (s, q, ys) else none
    else none

theorem recD_no1 {zs : List Int} (h : getN zs 0 = none) : recD zs = none := by unfold recD; rw [h]
theorem recD_no2 {zs : List Int} {n : Int} {j : Nat} (h : getN zs 0 = some (n, j)) (h2 : n ≠ sumOf (zs.drop j)) : recD zs = none := by unfold recD; rw [h]; simp only []; rw [if_neg h2]
theorem recD_no3 {zs : List Int} {n : Int} {j : Nat} (h : getN zs 0 = some (n, j)) (h3 : getR (zs.drop j) 0 = none) : recD zs = none := by
  unfold recD; rw [h]; simp only []; rw [h3]; simp
theorem recD_no4 {zs : List Int} {n s q : Int} {j l : Nat} {ys : List Int} (h : getN zs 0 = some (n, j)) (h3 : getR (zs.drop j) 0 = some (s, q, ys, l)) (h4 : ¬ (l = (zs.drop j).length ∧ recOkB s q (strOf ys) = true)) : recD zs = none := by
  unfold recD; rw [h]; simp only []; rw [h3]; simp only []; rw [if_neg h4]; simp
theorem recD_yes {zs : List Int} {n s q : Int} {j l : Nat} {ys : List Int} (h : getN zs 0 = some (n, j)) (h2 : n = sumOf (zs.drop j)) (h3 : getR (zs.drop j) 0 = some (s, q, ys, l)) (h4 : l = (zs.drop j).length ∧ recOkB s q (strOf ys) = true) : recD zs = some (s, q, ys) := by
  unfold recD; rw [h]; simp only []; rw [if_pos h2, h3]; simp only []; rw [if_pos h4]

theorem getR_parts {zs : List Int} {i s q : Int} {ys : List Int} {l : Nat} (h : getR zs i = some (s, q, ys, l)) : ∃ j k : Nat, getN zs i = some (s, j) ∧ getN zs (j : Int) = some (q, k) ∧ getT zs (k : Int) = some (ys, l) := by
  unfold getR at h
  split at h
  · simp at h
  · split at h
    · simp at h
    · split at h
      · simp at h
      · simp only [Option.some.injEq, Prod.mk.injEq] at h
        obtain ⟨rfl, rfl, rfl, rfl⟩ := h
        exact ⟨_, _, by assumption, by assumption, by assumption⟩

theorem take_on {zs : List Int} {i j : Nat} (h : i ≤ j) : zs.take i ++ (zs.drop i).take (j - i) = zs.take j := by
  have e : j = i + (j - i) := by omega
  conv => rhs; rw [e, List.take_add]

theorem getR_rest {zs : List Int} (hb : IsBytes zs) {s q : Int} {ys : List Int} {l : Nat} (h : getR zs 0 = some (s, q, ys, l)) : restB s q (strOf ys) = zs.take l := by
  obtain ⟨j, k, h1, h2, h3⟩ := getR_parts h
  have a1 := getN_inv hb h1
  have a2 := getN_inv hb h2
  have a3 := getT_inv hb h3
  obtain ⟨-, b1, c1⟩ := a1
  obtain ⟨-, b2, c2⟩ := a2
  obtain ⟨-, b3, -, -, c3⟩ := a3
  simp only [Int.toNat_natCast] at c1 c2 c3
  unfold restB
  rw [c1, c2, c3]
  have e1 : (zs.drop (0 : Int).toNat).take (j - (0 : Int).toNat) = zs.take j := by simp
  rw [e1, take_on (by omega), take_on (by omega)]

theorem recD_is (t : ByteArray) (s q : Int) (ys : List Int) (h : recD (strB t) = some (s, q, ys)) : recR t = some (s, q, strOf ys) := by
  have hb := strB_bytes t
  unfold recD at h
  split at h
  · simp at h
  · rename_i n j hg
    split at h
    · rename_i hs
      split at h
      · simp at h
      · rename_i s' q' ys' l hr
        split at h
        · rename_i hok
          simp only [Option.some.injEq, Prod.mk.injEq] at h
          obtain ⟨rfl, rfl, rfl⟩ := h
          obtain ⟨rfl, hok⟩ := hok
          refine recR_iff.2 ⟨hok, ?_⟩
          have hbd : IsBytes ((strB t).drop j) := fun z hz => hb z (List.mem_of_mem_drop hz)
          have e := getR_rest hbd hr
          rw [List.take_length] at e
          have a1 := (getN_inv hb hg).2.2
          simp at a1
          unfold recT recB
          rw [if_pos hok, e, ← hs, a1, List.take_append_drop, strOf_strB]
        · simp at h
    · simp at h

theorem recD_of {t : ByteArray} {s q : Int} {d : ByteArray} (h : recR t = some (s, q, d)) : recD (strB t) = some (s, q, strB d) := by
  obtain ⟨hok, ht⟩ := recR_iff.1 h
  obtain ⟨⟨s0, s1⟩, ⟨q0, q1⟩, hd⟩ := recOkB_iff.1 hok
  have hB : strB t = putB (sumOf (restB s q d)) ++ restB s q d := by
    rw [← ht, recT, strB_strOf (recB_bytes s q d), recB, if_pos hok]
  have hsum := sumOf_bd (restB s q d)
  have hg : getN (strB t) 0 = some (sumOf (restB s q d), (putB (sumOf (restB s q d))).length) := by
    rw [hB]; exact getN_putB _ (by omega) (by omega)
  have hdr : (strB t).drop (putB (sumOf (restB s q d))).length = restB s q d := by rw [hB]; simp
  have e1 : restB s q d = putB s ++ (putB q ++ textB d) := by simp [restB]
  have e2 : restB s q d = (putB s ++ putB q) ++ textB d := rfl
  have hR : getR (restB s q d) 0 = some (s, q, strB d, (restB s q d).length) := by
    refine getR_yes (j := (putB s).length) (k := (putB s ++ putB q).length) ?_ ?_ ?_
    · rw [e1]; exact getN_putB _ s0 (by omega)
    · rw [e1, getN_mid _ _ (by omega) q1]; simp
    · rw [e2, getT_mid _ (by omega)]; simp [Nat.add_assoc]
  exact recD_yes hg (by rw [hdr]) (by rw [hdr]; exact hR) (by rw [hdr, strOf_strB]; exact ⟨rfl, hok⟩)

theorem recD_none {t : ByteArray} : recD (strB t) = none ↔ recR t = none := by
  constructor
  · intro h
    cases hr : recR t with
    | none => rfl
    | some r => obtain ⟨s, q, d⟩ := r; rw [recD_of hr] at h; simp at h
  · intro h
    cases hr : recD (strB t) with
    | none => rfl
    | some r => obtain ⟨s, q, d⟩ := r; rw [recD_is _ _ _ _ hr] at h; simp at h

set_option maxRecDepth 100000 in
set_option maxHeartbeats 800000 in
theorem recOf1_panicking (B : Nat) (x0 x1 x2 : Value) (u : TypeId) (pv : Value) (older : List PanicEntry) (w : World) (h : C3 w B x0 x1 x2) :
    CallsD Tryz.prog 108 #[.pointer (some ⟨B, 0, none⟩)] (.panicking ({ v := .iface u pv, recovered := false } :: older)) w fun e u' w' =>
      e = .returned (.tuple #[]) ∧ u' = .panicking ({ v := .iface u pv, recovered := true } :: older) ∧ w' = ((w.setCell ⟨B, 0, none⟩ (.int .i64 0)).setCell ⟨B, 1, none⟩ (.int .i64 0)).setCell ⟨B, 2, none⟩ (.string ⟨#[]⟩) := by
  obtain ⟨⟨h1, h2, h3⟩, hf⟩ := h
  have f1 := hf 0
  have f2 := hf 1
  have f3 := hf 2
  refine callsD_of_wpS Tryz.func108 rfl fun c₀ cs hu => ?_
  apply wpS_seq
  apply wpS_region
  simp [wpOpsS, go_sem, recoverD, hu, Tryz.ntmps108, Exit.thenS]
  refine wpS_cond (t := true) (by simp [Act.eval, Array.replicate]) ?_
  simp only [if_true]
  apply wpS_region
  simp [wpOpsS, go_sem, h1, h2, h3, f1, f2, f3, bodyPostS, results, Tryz.results108]

theorem recOf1_idle (B : Nat) (w : World) :
    CallsD Tryz.prog 108 #[.pointer (some ⟨B, 0, none⟩)] .returning w fun e u' w' => e = .returned (.tuple #[]) ∧ u' = .returning ∧ w' = w := by
  refine callsD_of_wpS Tryz.func108 rfl fun c₀ cs hu => ?_
  apply wpS_seq
  apply wpS_region
  simp [wpOpsS, go_sem, recoverD, hu, Tryz.ntmps108, Exit.thenS]
  refine wpS_cond (t := false) (by simp [Act.eval, Array.replicate]) ?_
  simp only [Bool.false_eq_true, if_false]
  refine wpS_of_wp (wp_skip ?_)
  cases c₀
  simp_all [bodyPostS, results, Tryz.results108]

end Go.Proofs.YtdicjbabnknjhaaGreat
