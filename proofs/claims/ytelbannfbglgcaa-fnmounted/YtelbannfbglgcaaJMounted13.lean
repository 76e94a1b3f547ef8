/-
  Contracts of the specification's l5Open and Worst.
  Contract of the program's ChipOk.
  Contracts of what the program takes of the library over []int and []string: slices.Equal, Index, Contains; cmp.Compare; and of its own allClear, placeIn.
-/
import Derived.Test.YtelbannfbglgcaaJMounted11
import Derived.Test.YtelbannfbglgcaaJMounted12
import Derived.Test.YtelbannfbglgcaaJMounted7
import Derived.Test.YtelbannfbglgcaaJMounted8
namespace Go.Proofs.Ytelbannfbglgcaa
open Go.RowKit

theorem nxt_bd {ps : List ByteArray} {ws : List Int} : ∀ (f b : Nat) (best : Int), b + f = 10 → -1 ≤ best → best < 10 → -1 ≤ nxt ps ws f b best ∧ nxt ps ws f b best ≤ 59 := by
  intro f
  induction f with
  | zero =>
    intro b best _ h1 h2
    unfold nxt
    split <;> omega
  | succ f ih =>
    intro b best hb h1 h2
    by_cases hh : 0 < (clr ps b 6).1 ∧ (clr ps b 6).1 < 6 ∧ (clr ps b 6).2 = (clr ps b 6).1
    · rw [nxt_here rfl rfl hh]; omega
    · by_cases h3 : (clr ps b 6).1 = 6 ∧ (best < 0 ∨ ws[b]?.getD 0 < ws[best.toNat]?.getD 0)
      · rw [nxt_take rfl rfl hh h3]; exact ih (b + 1) _ (by omega) (by omega) (by omega)
      · rw [nxt_pass rfl rfl hh h3]; exact ih (b + 1) _ (by omega) h1 h2
theorem nextP_bd (ps : List ByteArray) (ws : List Int) : -1 ≤ nextP ps ws ∧ nextP ps ws ≤ 59 := nxt_bd 10 0 (-1) (by omega) (by omega) (by omega)

/-- The block that is begun, if there is one. -/
noncomputable def openB (ps : List ByteArray) (ws : List Int) : Int := if nextP ps ws < 0 ∨ nextP ps ws % 6 = 0 then -1 else nextP ps ws / 6

set_option maxHeartbeats 1600000 in
theorem open_any (a b : Option Addr) (ps : List ByteArray) (ws : List Int) (c d : Nat) (w : World) (hp : Rd w a (vsString ps)) (hw : Rd w b (vsInt ws)) (hl : ps.length = 60) (hm : ws.length = 10) :
    Calls Try.prog 138 #[.agg #[.slice a ps.length c, .slice b ws.length d]] w fun e w' => e = .returned (.int .i64 (openB ps ws)) ∧ Below w.heap.size w w' := by
  obtain ⟨W, hW⟩ : ∃ W, W = w.alloc (Obj.cells #[.slice a ps.length c, .slice b ws.length d] 27) := ⟨_, rfl⟩
  have hbW : Below w.heap.size w W := by rw [hW]; exact (Below.refl _ _).alloc (Nat.le_refl _) _
  have HN := hide (next_any a b ps ws c d W (hp.below hbW) (hw.below hbW) hl hm)
  obtain ⟨R, hR⟩ : ∃ R, R = openB ps ws := ⟨_, rfl⟩
  rw [← hR]
  have hbd := nextP_bd ps ws
  unfold openB at hR
  obtain ⟨p, hpp⟩ : ∃ p, p = nextP ps ws := ⟨_, rfl⟩
  rw [← hpp] at HN hbd hR
  have HR := hide hR
  clear hp hw hl hm hR hpp
  go_enter Try.func138, Try.ntmps138
  go_wp2_with fail
  rw [← hW]
  clear hW
  refine HN.out.mono ?_
  rintro e w1 ⟨rfl, hb1⟩
  have hbw1 := after hbW hb1
  clear HN hb1
  by_cases h0 : p < 0
  · have HV : Hid (R = -1) := by show _ = _; rw [HR.out, if_pos (.inl h0)]
    go_wp2
    go_ret
    exact ⟨by rw [HV.out]; rfl, hbw1⟩
  · obtain ⟨k, rfl⟩ : ∃ k : Nat, p = k := ⟨p.toNat, by omega⟩
    by_cases h6 : (k : Int) % 6 = 0
    · have HV : Hid (R = -1) := by show _ = _; rw [HR.out, if_pos (.inr h6)]
      have ht : Int.tmod (k : Int) 6 = 0 := by rw [Int.tmod_eq_emod_of_nonneg (by omega)]; exact h6
      go_wp2
      go_ret
      exact ⟨by rw [HV.out]; rfl, hbw1⟩
    · have HV : Hid (R = (k : Int) / 6) := by show _ = _; rw [HR.out, if_neg (by omega)]
      have ht : ¬ Int.tmod (k : Int) 6 = 0 := by rw [Int.tmod_eq_emod_of_nonneg (by omega)]; exact h6
      have ht2 : ((k : Int) % 6 == 0) = false := by simpa using h6
      have hq : Int.tdiv (k : Int) 6 = (k : Int) / 6 := by rw [Int.tdiv_eq_ediv_of_nonneg (by omega)]
      go_wp2
      go_ret
      exact ⟨by rw [HV.out]; first | rfl | (rw [← hq]; rfl), hbw1⟩

/-- One more block: the best, and how few Lives it has. -/
noncomputable def worstS (ps : List ByteArray) (ws ms : List Int) (o : Int) (st : Int × Int) (b : Nat) : Int × Int :=
  if (clr ps b 6).1 = 6 ∨ (b : Int) = o then st
  else if st.1 < 0 ∨ ((livesU ms b 6).length : Int) < st.2 ∨ (((livesU ms b 6).length : Int) = st.2 ∧ ws[b]?.getD 0 < ws[st.1.toNat]?.getD 0) then ((b : Int), ((livesU ms b 6).length : Int)) else st
noncomputable def worstU (ps : List ByteArray) (ws ms : List Int) (o : Int) : Nat → Int × Int
  | 0 => (-1, 0)
  | k + 1 => worstS ps ws ms o (worstU ps ws ms o k) k
noncomputable def worstB (ps : List ByteArray) (ws ms : List Int) : Int := if (worstU ps ws ms (openB ps ws) 10).2 = 6 then -1 else (worstU ps ws ms (openB ps ws) 10).1
noncomputable def worstOf (ps : List ByteArray) (ws ms : List Int) (q : Int) : Int := if ftlOkB ps ws ms q = true then worstB ps ws ms else -1
theorem worstU_bd (ps : List ByteArray) (ws ms : List Int) (o : Int) (hm : ms.length = 26) (k : Nat) : -1 ≤ (worstU ps ws ms o k).1 ∧ (worstU ps ws ms o k).1 < k ∧ 0 ≤ (worstU ps ws ms o k).2 ∧ (worstU ps ws ms o k).2 ≤ 156 := by
  induction k with
  | zero => simp [worstU]
  | succ k ih =>
    have hl := livesU_len ms k 6
    rw [hm] at hl
    unfold worstU worstS
    split
    · omega
    · split
      · simp only []; omega
      · omega

set_option maxRecDepth 100000 in
set_option maxHeartbeats 6400000 in
theorem specWorst_ok (a b e0 : Option Addr) (ps : List ByteArray) (ws ms : List Int) (c d f : Nat) (q : Int) (w : World) (hp : Rd w a (vsString ps)) (hw : Rd w b (vsInt ws)) (hms : Rd w e0 (vsInt ms)) (hok : ftlOkB ps ws ms q = true) :
    Calls Try.prog 139 #[.agg #[.slice a ps.length c, .slice b ws.length d, .slice e0 ms.length f, .int .i64 q]] w fun e w' => e = .returned (.int .i64 (worstB ps ws ms)) ∧ Below w.heap.size w w' := by
  obtain ⟨hch, hmm, -⟩ := ftlOk_parts hok
  have hm26 : ms.length = 26 := by rw [← hmm]; exact mMap_len ps
  obtain ⟨R, hR⟩ : ∃ R, R = worstB ps ws ms := ⟨_, rfl⟩
  rw [← hR]
  unfold worstB at hR
  obtain ⟨o, hoo⟩ : ∃ o, o = openB ps ws := ⟨_, rfl⟩
  rw [← hoo] at hR
  have HR := hide hR
  obtain ⟨A, hA⟩ : ∃ A, A = w.alloc (Obj.cells #[.slice a ps.length c, .slice b ws.length d, .slice e0 ms.length f, .int .i64 q] 47) := ⟨_, rfl⟩
  have hbA : Below w.heap.size w A := by rw [hA]; exact (Below.refl _ _).alloc (Nat.le_refl _) _
  have xA : At A w.heap.size [.slice a ps.length c, .slice b ws.length d, .slice e0 ms.length f, .int .i64 q] := by rw [hA]; exact at_new w [.slice a ps.length c, .slice b ws.length d, .slice e0 ms.length f, .int .i64 q] _
  have x0 : A.cell? ⟨w.heap.size, 0, none⟩ = some (.slice a ps.length c) := xA.2 0 (by simp)
  have x1 : A.cell? ⟨w.heap.size, 1, none⟩ = some (.slice b ws.length d) := xA.2 1 (by simp)
  have x2 : A.cell? ⟨w.heap.size, 2, none⟩ = some (.slice e0 ms.length f) := xA.2 2 (by simp)
  have x3 : A.cell? ⟨w.heap.size, 3, none⟩ = some (.int .i64 q) := xA.2 3 (by simp)
  have HF := hide (specFtlOk_any a b e0 ps ws ms c d f q A (hp.below hbA) (hw.below hbA) (hms.below hbA) (by rw [hch.1]; decide) (by rw [hch.2.1]; decide) (by omega) (fun s h => by have := hch.2.2.1 s h; omega))
  rw [hok] at HF
  have HX : Hid (∀ u, Below A.heap.size A u → u.cell? ⟨w.heap.size, 0, none⟩ = some (.slice a ps.length c) ∧ u.cell? ⟨w.heap.size, 1, none⟩ = some (.slice b ws.length d) ∧ u.cell? ⟨w.heap.size, 2, none⟩ = some (.slice e0 ms.length f) ∧ u.cell? ⟨w.heap.size, 3, none⟩ = some (.int .i64 q)) := fun u hu =>
    ⟨(xA.below hu).2 0 (by simp), (xA.below hu).2 1 (by simp), (xA.below hu).2 2 (by simp), (xA.below hu).2 3 (by simp)⟩
  have HRD := hide (And.intro (hp.below hbA) (And.intro (hw.below hbA) (hms.below hbA)))
  have HCH := hide hch
  have HM := hide hm26
  have hml : ms.length ≤ 26 := by omega
  have hol := nextP_bd ps ws
  have hob : -1 ≤ o ∧ o ≤ 9 := by rw [hoo, openB]; split <;> omega
  have HO := hide hoo
  clear hp hw hms hok hch hmm hm26 hR hoo hol xA
  go_enter Try.func139, Try.ntmps139
  go_wp2_with fail
  rw [← hA]
  clear hA
  refine HF.out.mono ?_
  rintro e w1 ⟨rfl, hb1⟩
  obtain ⟨y0, y1, y2, y3⟩ := HX.out w1 hb1
  have HOP := hide (open_any a b ps ws c d w1 (HRD.out.1.below hb1) (HRD.out.2.1.below hb1) HCH.out.1 HCH.out.2.1)
  rw [← HO.out] at HOP
  clear HF x0 x1 x2 x3
  go_wp2_with fail
  refine HOP.out.mono ?_
  rintro e w2 ⟨rfl, hb2⟩
  have hb02 := after hb1 hb2
  clear HOP hb1 hb2 y0 y1 y2 y3
  go_wp2_with fail
  go_loopw [3, 4, 6] (fun x y i wr => ∃ k : Nat, k ≤ 10 ∧ i = .int .i64 k ∧ x = .int .i64 (worstU ps ws ms o k).1 ∧ y = .int .i64 (worstU ps ws ms o k).2 ∧ Below A.heap.size A wr) (fun _ _ i _ => 10 - (intOf i).toNat)
  case atStart => exact ⟨0, by omega, rfl, rfl, rfl, hb02⟩
  case round =>
    obtain ⟨k, hk, rfl, rfl, rfl, hbr⟩ := hrel
    obtain ⟨q1, q2, q3, q4⟩ := worstU_bd ps ws ms o HM.out k
    by_cases hlt : k < 10
    · obtain ⟨x0, x1, x2, x3⟩ := HX.out wr hbr
      have HCL := hide (clear_any a b ps ws c d k wr (HRD.out.1.below hbr) HCH.out.1 hlt)
      have HLV : Hid (∀ u, Below A.heap.size A u → Calls Try.prog 90 #[.agg #[.slice a ps.length c, .slice b ws.length d, .slice e0 ms.length f, .int .i64 q], .int .i64 k] u fun e w' => ∃ v, e = .returned v ∧ w'.ownsRow u.heap.size 3 1 v (livesU ms k 6).length (vsInt (livesU ms k 6)) ∧ Below u.heap.size u w') := fun u hu =>
        lives_any _ _ e0 ms f k q u (HRD.out.2.2.below hu) (by have := HM.out; omega) hlt
      have hll := livesU_len ms k 6
      have hl156 : (livesU ms k 6).length ≤ 156 := by have := HM.out; omega
      have hcb := clr_bd ps k 6
      have HE : Hid (worstU ps ws ms o (k + 1) = worstS ps ws ms o (worstU ps ws ms o k) k) := rfl
      obtain ⟨st, hst⟩ : ∃ st, st = worstU ps ws ms o k := ⟨_, rfl⟩
      rw [← hst] at q1 q2 q3 q4 HE ⊢
      obtain ⟨N, hN⟩ : ∃ N, N = (clr ps k 6).1 := ⟨_, rfl⟩
      obtain ⟨L, hL⟩ : ∃ L, L = (livesU ms k 6).length := ⟨_, rfl⟩
      have HNL := hide (And.intro hN hL)
      rw [← hN] at HCL hcb
      rw [← hL] at HLV hl156
      unfold worstS at HE
      rw [← hN, ← hL] at HE
      obtain ⟨T, hT⟩ : ∃ T, T = (clr ps k 6).2 := ⟨_, rfl⟩
      rw [← hT] at HCL hcb
      obtain ⟨B, F⟩ := st
      simp only [] at q1 q2 q3 q4 HE ⊢
      clear hst hN hL hT hll
      by_cases hc1 : N = 6
      · rw [if_pos (.inl hc1)] at HE
        subst hc1
        go_wp2_with (first
          | (go_at_call 88; refine HCL.out.mono ?_; rintro e u1 ⟨rfl, hb1⟩; have HU1 := hide hb1; obtain ⟨y0, y1, y2, y3⟩ := HX.out u1 (after hbr hb1); clear HCL hb1)
          | (go_at_call 90; refine (HLV.out u1 (after hbr HU1.out)).mono ?_; rintro e u2 ⟨v2, rfl, ho2, hb2⟩; obtain ⟨a2, c2, rfl⟩ := owns_shape ho2; have HU2 := hide (after HU1.out hb2); obtain ⟨z0, z1, z2, z3⟩ := HX.out u2 (after hbr HU2.out); clear HLV hb2 ho2))
        exact ⟨⟨k + 1, by omega, by go_num, by rw [HE.out], by rw [HE.out], after hbr HU2.out⟩, by simp [intOf]; omega⟩
      · have t1 : (N == 6) = false := by simpa using hc1
        by_cases hc2 : (k : Int) = o
        · rw [if_pos (.inr hc2)] at HE
          have t2 : ((k : Int) == o) = true := by simpa using hc2
          clear hc1 hc2
          go_wp2_with (first
            | (go_at_call 88; refine HCL.out.mono ?_; rintro e u1 ⟨rfl, hb1⟩; have HU1 := hide hb1; obtain ⟨y0, y1, y2, y3⟩ := HX.out u1 (after hbr hb1); clear HCL hb1)
            | (go_at_call 90; refine (HLV.out u1 (after hbr HU1.out)).mono ?_; rintro e u2 ⟨v2, rfl, ho2, hb2⟩; obtain ⟨a2, c2, rfl⟩ := owns_shape ho2; have HU2 := hide (after HU1.out hb2); obtain ⟨z0, z1, z2, z3⟩ := HX.out u2 (after hbr HU2.out); clear HLV hb2 ho2))
          exact ⟨⟨k + 1, by omega, by go_num, by rw [HE.out], by rw [HE.out], after hbr HU2.out⟩, by simp [intOf]; omega⟩
        · have t2 : ((k : Int) == o) = false := by simpa using hc2
          rw [if_neg (by rintro (h | h); exact hc1 h; exact hc2 h)] at HE
          clear hc1 hc2
          go_wp2_with (first
            | (go_at_call 88; refine HCL.out.mono ?_; rintro e u1 ⟨rfl, hb1⟩; have HU1 := hide hb1; obtain ⟨y0, y1, y2, y3⟩ := HX.out u1 (after hbr hb1); clear HCL hb1)
            | (go_at_call 90; refine (HLV.out u1 (after hbr HU1.out)).mono ?_; rintro e u2 ⟨v2, rfl, ho2, hb2⟩; obtain ⟨a2, c2, rfl⟩ := owns_shape ho2; have HU2 := hide (after HU1.out hb2); obtain ⟨z0, z1, z2, z3⟩ := HX.out u2 (after hbr HU2.out); clear HLV hb2 ho2))
          by_cases h3 : B < 0
          · rw [if_pos (.inl h3)] at HE
            have t3 : decide (B < 0) = true := by simpa using h3
            go_quiet (fail)
            go_wp2
            exact ⟨⟨k + 1, by omega, by go_num, by rw [HE.out], by rw [HE.out], after_drew (after hbr HU2.out) nq⟩, by simp [intOf]; omega⟩
          obtain ⟨Bn, rfl⟩ : ∃ Bn : Nat, B = Bn := ⟨B.toNat, by omega⟩
          have t3 : decide (((Bn : Nat) : Int) < 0) = false := by simp
          by_cases h4 : (L : Int) < F
          · rw [if_pos (.inr (.inl h4))] at HE
            have t4 : decide ((L : Int) < F) = true := by simpa using h4
            go_quiet (fail)
            go_wp2
            exact ⟨⟨k + 1, by omega, by go_num, by rw [HE.out], by rw [HE.out], after_drew (after hbr HU2.out) nq⟩, by simp [intOf]; omega⟩
          have t4 : decide ((L : Int) < F) = false := by simpa using h4
          by_cases h5 : (L : Int) = F
          · have hlen : ws.length = 10 := HCH.out.2.1
            have hw2 := HRD.out.2.1.below (after hbr HU2.out)
            obtain ⟨bb, ob, x, rfl, hcx, HXx⟩ := rdInt_at hw2 (show k < ws.length by omega)
            obtain ⟨bb', ob', y, hb', hcy, HXy⟩ := rdInt_at hw2 (show Bn < ws.length by omega)
            simp at hb'
            obtain ⟨rfl, rfl⟩ := hb'
            have t5 : ((L : Int) == F) = true := by simpa using h5
            have i1 : (k : Int) < (ws.length : Int) := by omega
            have i2 : ((Bn : Nat) : Int) < (ws.length : Int) := by omega
            have hex : ws[k]?.getD 0 = x := by rw [HXx.out]; rfl
            have hey : ws[((Bn : Nat) : Int).toNat]?.getD 0 = y := by rw [Int.toNat_natCast, HXy.out]; rfl
            clear hw2 hlen
            by_cases h6 : x < y
            · rw [if_pos (.inr (.inr ⟨h5, by rw [hex, hey]; exact h6⟩))] at HE
              have t6 : decide (x < y) = true := by simpa using h6
              clear hex hey
              go_quiet (fail)
              go_wp2
              exact ⟨⟨k + 1, by omega, by go_num, by rw [HE.out], by rw [HE.out], after_drew (after hbr HU2.out) nq⟩, by simp [intOf]; omega⟩
            · rw [if_neg (by rintro (h | h | ⟨_, h⟩); omega; omega; rw [hex, hey] at h; exact h6 h)] at HE
              have t6 : decide (x < y) = false := by simpa using h6
              clear hex hey
              go_quiet (fail)
              go_wp2
              exact ⟨⟨k + 1, by omega, by go_num, by rw [HE.out], by rw [HE.out], after_drew (after hbr HU2.out) nq⟩, by simp [intOf]; omega⟩
          · have t5 : ((L : Int) == F) = false := by simpa using h5
            rw [if_neg (by rintro (h | h | ⟨h, _⟩); omega; exact h4 h; exact h5 h)] at HE
            go_quiet (fail)
            go_wp2
            exact ⟨⟨k + 1, by omega, by go_num, by rw [HE.out], by rw [HE.out], after_drew (after hbr HU2.out) nq⟩, by simp [intOf]; omega⟩
    · obtain rfl : k = 10 := by omega
      obtain ⟨st, hst⟩ : ∃ st, st = worstU ps ws ms o 10 := ⟨_, rfl⟩
      rw [← hst] at q1 q2 q3 q4 HR ⊢
      obtain ⟨B, F⟩ := st
      simp only [] at q1 q2 q3 q4 HR ⊢
      clear hst
      have hbw := after hbA hbr
      by_cases h6 : F = 6
      · have HV : Hid (R = -1) := by show _ = _; rw [HR.out, if_pos h6]
        subst h6
        go_wp2
        go_ret
        exact ⟨by rw [HV.out]; rfl, hbw⟩
      · have HV : Hid (R = B) := by show _ = _; rw [HR.out, if_neg h6]
        have t1 : (F == 6) = false := by simpa using h6
        clear h6
        go_wp2
        go_ret
        exact ⟨by rw [HV.out]; rfl, hbw⟩

set_option maxHeartbeats 1600000 in
theorem specWorst_any (a b e0 : Option Addr) (ps : List ByteArray) (ws ms : List Int) (c d f : Nat) (q : Int) (w : World) (hp : Rd w a (vsString ps)) (hw : Rd w b (vsInt ws)) (hms : Rd w e0 (vsInt ms)) (hl : ps.length ≤ 1048576) (hm : ws.length ≤ 1048576) (hn : ms.length ≤ 1048576) (hs : ∀ s ∈ ps, s.size ≤ 1048576) :
    Calls Try.prog 139 #[.agg #[.slice a ps.length c, .slice b ws.length d, .slice e0 ms.length f, .int .i64 q]] w fun e w' => e = .returned (.int .i64 (worstOf ps ws ms q)) ∧ Below w.heap.size w w' := by
  cases hok : ftlOkB ps ws ms q with
  | true =>
    rw [worstOf, if_pos hok]
    exact specWorst_ok a b e0 ps ws ms c d f q w hp hw hms hok
  | false =>
    rw [worstOf, if_neg (by simp [hok])]
    obtain ⟨A, hA⟩ : ∃ A, A = w.alloc (Obj.cells #[.slice a ps.length c, .slice b ws.length d, .slice e0 ms.length f, .int .i64 q] 47) := ⟨_, rfl⟩
    have hbA : Below w.heap.size w A := by rw [hA]; exact (Below.refl _ _).alloc (Nat.le_refl _) _
    have HF := hide (specFtlOk_any a b e0 ps ws ms c d f q A (hp.below hbA) (hw.below hbA) (hms.below hbA) hl hm hn hs)
    rw [hok] at HF
    clear hp hw hms hs hok
    go_enter Try.func139, Try.ntmps139
    go_wp2_with fail
    rw [← hA]
    clear hA
    refine HF.out.mono ?_
    rintro e w1 ⟨rfl, hb1⟩
    have hbw1 := after hbA hb1
    clear HF hb1
    go_wp2
    go_ret
    exact ⟨rfl, hbw1⟩

end Go.Proofs.Ytelbannfbglgcaa

namespace Go.Proofs.Ytelbannfbglgcaa
open Go.RowKit
attribute [local go_sem ↓] Go.wp_at_zero Go.wp_at_succ

set_option maxHeartbeats 1600000 in
theorem implChipOk_any (a b : Option Addr) (ps : List ByteArray) (ws : List Int) (c d : Nat) (w : World) (hp : Rd w a (vsString ps)) (hw : Rd w b (vsInt ws)) (hl : ps.length ≤ 1048576) (hm : ws.length ≤ 1048576) (hs : ∀ s ∈ ps, s.size ≤ 1048576) :
    Calls Try.prog 12 #[.agg #[.slice a ps.length c, .slice b ws.length d]] w fun e w' => e = .returned (.bool (chipOkB ps ws)) ∧ Below w.heap.size w w' := by
  obtain ⟨X, hX⟩ : ∃ X, X = Obj.cells #[.slice a ps.length c, .slice b ws.length d] 27 := ⟨_, rfl⟩
  have hbW : Below w.heap.size w (w.alloc X) := (Below.refl _ _).alloc (Nat.le_refl _) _
  have hp' := hp.below hbW
  have hw' := hw.below hbW
  clear hp hw
  subst hX
  by_cases hn : ps.length = 60 ∧ ws.length = 10
  · have t1 : ((ps.length : Int) != 60) = false := by simp; omega
    have t2 : ((ws.length : Int) != 10) = false := by simp; omega
    have hn1 : ps.length ≤ 60 := by omega
    have HN : Hid (ps.length = 60 ∧ ws.length = 10) := hn
    clear hn
    go_enter Try.func12, Try.ntmps12
    go_wp2
    go_loop [20] (fun i => ∃ k : Nat, k ≤ ps.length ∧ i = .int .i64 k ∧ Hid (∀ s ∈ ps.take k, s.size ≤ 800)) (fun i => ps.length - (intOf i).toNat)
    case atStart => exact ⟨0, Nat.zero_le _, rfl, by show ∀ _, _; simp⟩
    case round =>
      obtain ⟨k, hk, rfl, hall⟩ := hrel
      by_cases hlt : k < ps.length
      · obtain ⟨b1, o1, x, rfl, hck, HX⟩ := rdString_at hp' hlt
        have hx := hs x (List.mem_of_getElem? HX.out)
        clear hp' hw'
        by_cases hbig : (800 : Int) < (x.size : Int)
        · have hf : Hid (chipOkB ps ws = false) := chipOkB_false (fun h => by have := h.2.2.1 x (List.mem_of_getElem? HX.out); omega)
          clear hs
          go_wp2
          go_ret
          exact ⟨ret_bool hf.out.symm, hbW⟩
        · have hall' : Hid (∀ s ∈ ps.take (k + 1), s.size ≤ 800) := by
            show ∀ _, _
            intro s hs'
            rw [List.take_add_one, HX.out] at hs'
            simp only [Option.toList_some, List.mem_append, List.mem_singleton] at hs'
            rcases hs' with h | rfl
            · exact hall.out s h
            · omega
          clear hs
          go_wp2
          go_round
          case rel => exact ⟨k + 1, by omega, by go_num, hall'⟩
          case measure => simp [intOf]; omega
      · have hall' : Hid (∀ s ∈ ps, s.size ≤ 800) := by
          have := hall.out
          rw [List.take_of_length_le (by omega)] at this
          exact this
        clear hs hp' hall
        go_wp2
        go_loop [31] (fun i => ∃ k : Nat, k ≤ ws.length ∧ i = .int .i64 k ∧ Hid (∀ x ∈ ws.take k, 0 ≤ x ∧ x ≤ 1000000000)) (fun i => ws.length - (intOf i).toNat)
        case atStart => exact ⟨0, Nat.zero_le _, rfl, by show ∀ _, _; simp⟩
        case round =>
          obtain ⟨j, hj, rfl, hallw⟩ := hrel
          by_cases hlj : j < ws.length
          · obtain ⟨b2, o2, x, rfl, hck, HX⟩ := rdInt_at hw' hlj
            clear hw'
            by_cases hin : 0 ≤ x ∧ x ≤ 1000000000
            · have hallw' : Hid (∀ y ∈ ws.take (j + 1), 0 ≤ y ∧ y ≤ 1000000000) := by
                show ∀ _, _
                intro s hs'
                rw [List.take_add_one, HX.out] at hs'
                simp only [Option.toList_some, List.mem_append, List.mem_singleton] at hs'
                rcases hs' with h | rfl
                · exact hallw.out s h
                · exact hin
              have q1 : ¬ x < 0 := by omega
              have q2 : ¬ 1000000000 < x := by omega
              clear hin
              go_wp2
              go_round
              case rel => exact ⟨j + 1, by omega, by go_num, hallw'⟩
              case measure => simp [intOf]; omega
            · have hf : Hid (chipOkB ps ws = false) := chipOkB_false (fun h => hin (h.2.2.2 x (List.mem_of_getElem? HX.out)))
              by_cases q1 : x < 0
              · clear hin
                go_wp2
                go_ret
                exact ⟨ret_bool hf.out.symm, hbW⟩
              · have q2 : 1000000000 < x := by omega
                clear hin
                go_wp2
                go_ret
                exact ⟨ret_bool hf.out.symm, hbW⟩
          · have ht : Hid (chipOkB ps ws = true) := chipOkB_true ⟨HN.out.1, HN.out.2, hall'.out, by
              have := hallw.out
              rw [List.take_of_length_le (by omega)] at this
              exact this⟩
            clear hw'
            go_wp2
            go_ret
            exact ⟨ret_bool ht.out.symm, hbW⟩
  · have hf : Hid (chipOkB ps ws = false) := chipOkB_false (fun h => hn ⟨h.1, h.2.1⟩)
    clear hp' hw' hs
    by_cases h60 : ps.length = 60
    · have t1 : ((ps.length : Int) != 60) = false := by simp; omega
      have t2 : ((ws.length : Int) != 10) = true := by simp; omega
      clear hn h60
      go_enter Try.func12, Try.ntmps12
      go_wp2
      go_ret
      exact ⟨ret_bool hf.out.symm, hbW⟩
    · have t1 : ((ps.length : Int) != 60) = true := by simp; omega
      clear hn h60
      go_enter Try.func12, Try.ntmps12
      go_wp2
      go_ret
      exact ⟨ret_bool hf.out.symm, hbW⟩

end Go.Proofs.Ytelbannfbglgcaa

namespace Go.Proofs.Ytelbannfbglgcaa
open Go.RowKit

set_option maxHeartbeats 400000 in
theorem equalInt_any (a b : Option Addr) (xs ys : List Int) (c d : Nat) (w : World) (hr : Rd w a (vsInt xs)) (hs : Rd w b (vsInt ys)) (hm : xs.length ≤ 1048576) (_hn : ys.length ≤ 1048576) :
    Calls Try.prog 78 #[.slice a xs.length c, .slice b ys.length d] w fun e w' => e = .returned (.bool (decide (xs = ys))) ∧ ∃ n, w' = w.drewN n := by
  by_cases hl : xs.length = ys.length
  · have hl' : ((xs.length : Int) != (ys.length : Int)) = false := by simp [hl]
    have HL : Hid (xs.length = ys.length) := hl
    clear hl
    go_enter Try.func78, Try.ntmps78
    go_wp2
    go_loopw [13] (fun i wr => ∃ k : Nat, k ≤ xs.length ∧ i = .int .i64 k ∧ xs.take k = ys.take k ∧ ∃ n, wr = w.drewN n) (fun i _ => xs.length - (intOf i).toNat)
    case atStart => exact ⟨0, Nat.zero_le _, rfl, by simp, 0, rfl⟩
    case round =>
      obtain ⟨k, hk, rfl, htk, n, rfl⟩ := hrel
      by_cases hlt : k < xs.length
      · have hlt' : k < ys.length := by have := HL.out; omega
        obtain ⟨ba, oa, z, rfl, hck, HZ⟩ := rdInt_at hr hlt
        obtain ⟨bb, ob, y, rfl, hcy, HY⟩ := rdInt_at hs hlt'
        have HT : Hid (xs.take k = ys.take k) := htk
        clear hr hs htk hl'
        by_cases hzy : z = y
        · subst hzy
          have HE : Hid (xs.take (k + 1) = ys.take (k + 1)) := takeInt_step HT.out HZ.out HY.out
          go_wp2
          go_quiet (fail)
          go_wp2
          go_roundw
          case rel => exact ⟨k + 1, by omega, by go_num, HE.out, _, rfl⟩
          case measure => simp [intOf]; omega
        · have HE : Hid (xs ≠ ys) := neInt_at HZ.out HY.out hzy
          have ht : (z != y) = true := by simpa using hzy
          clear hzy
          go_wp2
          go_quiet (fail)
          go_wp2
          go_ret
          exact ⟨ret_bool (by simp [HE.out]), _, World.drewN_drewN _ _ _⟩
      · have HE : Hid (xs = ys) := by
          have := HL.out
          rw [List.take_of_length_le (by omega), List.take_of_length_le (by omega)] at htk; exact htk
        clear htk hl'
        go_wp2
        go_ret
        exact ⟨ret_bool (by simp [HE.out]), _, rfl⟩
  · have hl' : ((xs.length : Int) != (ys.length : Int)) = true := by simp; omega
    have HE : Hid (xs ≠ ys) := fun e => hl (by rw [e])
    clear hl
    go_enter Try.func78, Try.ntmps78
    go_wp2
    go_ret
    exact ⟨ret_bool (by simp [HE.out]), 0, rfl⟩

theorem notin_step {α : Type} {xs : List α} {k : Nat} {x y : α} (h : x ∉ xs.take k) (hy : xs[k]? = some y) (hne : ¬ x = y) : x ∉ xs.take (k + 1) := by
  rw [List.take_add_one, hy]
  simp only [Option.toList_some, List.mem_append, List.mem_singleton]
  rintro (h' | h')
  · exact h h'
  · exact hne h'

/-- Where x is first, or -1. -/
def FirstAt {α : Type} (xs : List α) (x : α) (r : Int) : Prop := (r = -1 ∧ x ∉ xs) ∨ ∃ i : Nat, r = i ∧ xs[i]? = some x ∧ x ∉ xs.take i

set_option maxHeartbeats 400000 in
theorem indexInt_any (a : Option Addr) (xs : List Int) (c : Nat) (x : Int) (w : World) (hr : Rd w a (vsInt xs)) (hm : xs.length ≤ 1048576) :
    Calls Try.prog 134 #[.slice a xs.length c, .int .i64 x] w fun e w' => (∃ r : Int, e = .returned (.int .i64 r) ∧ FirstAt xs x r) ∧ w' = w := by
  go_enter Try.func134, Try.ntmps134
  go_wp2
  go_loop [8] (fun i => ∃ k : Nat, k ≤ xs.length ∧ i = .int .i64 k ∧ Hid (x ∉ xs.take k)) (fun i => xs.length - (intOf i).toNat)
  case atStart => exact ⟨0, Nat.zero_le _, rfl, (show _ ∉ _ by simp)⟩
  case round =>
    obtain ⟨k, hk, rfl, HN⟩ := hrel
    by_cases hlt : k < xs.length
    · obtain ⟨ba, oa, z, rfl, hck, HZ⟩ := rdInt_at hr hlt
      clear hr
      by_cases hzy : x = z
      · subst hzy
        go_wp2
        go_ret
        exact ⟨⟨_, rfl, .inr ⟨k, rfl, HZ.out, HN.out⟩⟩, rfl⟩
      · have HE : Hid (x ∉ xs.take (k + 1)) := notin_step HN.out HZ.out hzy
        have ht : (x == z) = false := by simpa using hzy
        clear hzy
        go_wp2
        go_round
        case rel => exact ⟨k + 1, by omega, by go_num, HE⟩
        case measure => simp [intOf]; omega
    · have HE : Hid (x ∉ xs) := by
        have := HN.out
        rw [List.take_of_length_le (by omega)] at this
        exact this
      clear hr HN
      go_wp2
      go_ret
      exact ⟨⟨_, rfl, .inl ⟨rfl, HE.out⟩⟩, rfl⟩

theorem FirstAt.mem {α : Type} {xs : List α} {x : α} {r : Int} (h : FirstAt xs x r) : (0 ≤ r ↔ x ∈ xs) ∧ -1 ≤ r ∧ r < max xs.length 1 := by
  rcases h with ⟨rfl, h⟩ | ⟨i, rfl, h, -⟩
  · exact ⟨⟨fun h => by omega, fun h' => absurd h' h⟩, by omega, by omega⟩
  · have : i < xs.length := by
      rcases Nat.lt_or_ge i xs.length with h' | h'
      · exact h'
      · simp [h'] at h
    exact ⟨⟨fun _ => List.mem_of_getElem? h, fun _ => by omega⟩, by omega, by omega⟩

set_option maxHeartbeats 400000 in
theorem containsInt_any (a : Option Addr) (xs : List Int) (c : Nat) (x : Int) (w : World) (hr : Rd w a (vsInt xs)) (hm : xs.length ≤ 1048576) :
    Calls Try.prog 118 #[.slice a xs.length c, .int .i64 x] w fun e w' => e = .returned (.bool (decide (x ∈ xs))) ∧ w' = w := by
  go_enter Try.func118, Try.ntmps118
  go_wp2_with fail
  refine (indexInt_any a xs c x w hr hm).mono ?_
  rintro e u ⟨⟨r, rfl, hf⟩, hu⟩
  have hu' := hu.symm
  subst hu'
  have hb := hf.mem
  have HF := hide hb.1
  have hb1 := hb.2.1
  clear hr hf hb
  go_wp2
  go_ret
  refine ⟨ret_bool ?_, rfl⟩
  by_cases h : x ∈ xs
  · have := HF.out.2 h; simp [h, this]
  · have : ¬ 0 ≤ r := fun h' => h (HF.out.1 h'); simp [h]; omega

set_option maxHeartbeats 400000 in
theorem indexString_any (a : Option Addr) (xs : List ByteArray) (c : Nat) (w : World) (hr : Rd w a (vsString xs)) (hm : xs.length ≤ 1048576) :
    Calls Try.prog 82 #[.slice a xs.length c, .string ⟨#[]⟩] w fun e w' => (∃ r : Int, e = .returned (.int .i64 r) ∧ FirstAt xs ByteArray.empty r) ∧ w' = w := by
  go_enter Try.func82, Try.ntmps82
  go_wp2
  go_loop [8] (fun i => ∃ k : Nat, k ≤ xs.length ∧ i = .int .i64 k ∧ Hid (ByteArray.empty ∉ xs.take k)) (fun i => xs.length - (intOf i).toNat)
  case atStart => exact ⟨0, Nat.zero_le _, rfl, (show _ ∉ _ by simp)⟩
  case round =>
    obtain ⟨k, hk, rfl, HN⟩ := hrel
    by_cases hlt : k < xs.length
    · obtain ⟨ba, oa, z, rfl, hck, HZ⟩ := rdString_at hr hlt
      clear hr
      by_cases hzy : z = ByteArray.empty
      · subst hzy
        go_wp2
        go_ret
        exact ⟨⟨_, rfl, .inr ⟨k, rfl, HZ.out, HN.out⟩⟩, rfl⟩
      · have HE : Hid (ByteArray.empty ∉ xs.take (k + 1)) := notin_step HN.out HZ.out (fun e => hzy e.symm)
        have hxi := isEmpty_str hzy
        clear hzy
        go_wp2
        go_round
        case rel => exact ⟨k + 1, by omega, by go_num, HE⟩
        case measure => simp [intOf]; omega
    · have HE : Hid (ByteArray.empty ∉ xs) := by
        have := HN.out
        rw [List.take_of_length_le (by omega)] at this
        exact this
      clear hr HN
      go_wp2
      go_ret
      exact ⟨⟨_, rfl, .inl ⟨rfl, HE.out⟩⟩, rfl⟩

/-- All of them are clear. -/
def AllClr (xs : List ByteArray) : Prop := ∀ x ∈ xs, x = ByteArray.empty
open Classical in
noncomputable def allClrB (xs : List ByteArray) : Bool := decide (AllClr xs)
theorem allClrB_true {xs : List ByteArray} (h : AllClr xs) : allClrB xs = true := by simp [allClrB, h]
theorem allClrB_false {xs : List ByteArray} (h : ¬ AllClr xs) : allClrB xs = false := by simp [allClrB, h]

set_option maxHeartbeats 400000 in
theorem allClear_any (a : Option Addr) (xs : List ByteArray) (c : Nat) (w : World) (hr : Rd w a (vsString xs)) (hm : xs.length ≤ 1048576) :
    Calls Try.prog 83 #[.slice a xs.length c] w fun e w' => e = .returned (.bool (allClrB xs)) ∧ w' = w := by
  go_enter Try.func83, Try.ntmps83
  go_wp2
  go_loop [7] (fun i => ∃ k : Nat, k ≤ xs.length ∧ i = .int .i64 k ∧ Hid (AllClr (xs.take k))) (fun i => xs.length - (intOf i).toNat)
  case atStart => exact ⟨0, Nat.zero_le _, rfl, (show AllClr _ by simp [AllClr])⟩
  case round =>
    obtain ⟨k, hk, rfl, HN⟩ := hrel
    by_cases hlt : k < xs.length
    · obtain ⟨ba, oa, z, rfl, hck, HZ⟩ := rdString_at hr hlt
      clear hr
      by_cases hzy : z = ByteArray.empty
      · have HE : Hid (AllClr (xs.take (k + 1))) := by
          show AllClr _
          intro x hx
          rw [List.take_add_one, HZ.out] at hx
          simp only [Option.toList_some, List.mem_append, List.mem_singleton] at hx
          rcases hx with hx | hx
          · exact HN.out x hx
          · rw [hx, hzy]
        subst hzy
        go_wp2
        go_round
        case rel => exact ⟨k + 1, by omega, by go_num, HE⟩
        case measure => simp [intOf]; omega
      · have HE : Hid (¬ AllClr xs) := fun h => hzy (h z (List.mem_of_getElem? HZ.out))
        have hxi := isEmpty_str hzy
        clear hzy HN
        go_wp2
        go_ret
        exact ⟨ret_bool (by first | rw [allClrB_true HE.out] | rw [allClrB_false HE.out]), rfl⟩
    · have HE : Hid (AllClr xs) := by
        have := HN.out
        rw [List.take_of_length_le (by omega)] at this
        exact this
      clear hr HN
      go_wp2
      go_ret
      exact ⟨ret_bool (by first | rw [allClrB_true HE.out] | rw [allClrB_false HE.out]), rfl⟩

set_option maxHeartbeats 400000 in
theorem placeIn_any (a : Option Addr) (n c : Nat) (w : World) : Calls Try.prog 73 #[.slice a n c] w fun e w' => e = .returned (.func (.func 107) #[] #[.pointer (some ⟨w.heap.size, 0, none⟩)]) ∧ w' = w.alloc (.cells #[.slice a n c] 25) := by
  have hmf : ∀ (fn : Fn) (first cap : Array Value) (w : World), (Instr.makeFunc fn first cap).run Try.prog w = .ok (.func fn first cap) w := fun _ _ _ _ => rfl
  go_enter Try.func73, Try.ntmps73
  go_wp2
  go_ret
  exact ⟨rfl, rfl⟩

set_option maxHeartbeats 400000 in
theorem place_in (p : Nat) (a : Option Addr) (xs : List Int) (c k : Nat) (z : Int) (w : World) (hc : w.cell? ⟨p, 0, none⟩ = some (.slice a xs.length c)) (hr : Rd w a (vsInt xs)) (_hm : xs.length ≤ 1048576) (hz : xs[k]? = some z) :
    Calls Try.prog 107 #[.int .i64 k, .pointer (some ⟨p, 0, none⟩)] w fun e w' => e = .returned (.int .i64 z) ∧ w' = w := by
  have hk : k < xs.length := by
    rcases Nat.lt_or_ge k xs.length with h' | h'
    · exact h'
    · simp [h'] at hz
  obtain ⟨ba, oa, y, rfl, hck, HZ⟩ := rdInt_at hr hk
  obtain rfl : y = z := by have := HZ.out; rw [hz] at this; simpa using this.symm
  clear hr hz
  go_enter Try.func107, Try.ntmps107
  go_wp2
  go_ret
  exact ⟨rfl, rfl⟩

set_option maxHeartbeats 400000 in
theorem place_out (p : Nat) (a : Option Addr) (xs : List Int) (c : Nat) (s : Int) (w : World) (hc : w.cell? ⟨p, 0, none⟩ = some (.slice a xs.length c)) (_hm : xs.length ≤ 1048576) (hs : s < 0 ∨ (xs.length : Int) ≤ s) :
    Calls Try.prog 107 #[.int .i64 s, .pointer (some ⟨p, 0, none⟩)] w fun e w' => e = .returned (.int .i64 (-1)) ∧ w' = w := by
  by_cases h0 : s < 0
  · clear hs
    go_enter Try.func107, Try.ntmps107
    go_wp2
    go_ret
    exact ⟨rfl, rfl⟩
  · have h1 : (xs.length : Int) ≤ s := by omega
    clear hs
    go_enter Try.func107, Try.ntmps107
    go_wp2
    go_ret
    exact ⟨rfl, rfl⟩

end Go.Proofs.Ytelbannfbglgcaa
