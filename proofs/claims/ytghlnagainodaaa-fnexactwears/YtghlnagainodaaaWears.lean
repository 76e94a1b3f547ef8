/-
  Contracts of slices.Min and slices.Max at int, and of both Wears.
-/
import Derived.Test.YtghlnagainodaaaSpecSector
import Derived.Test.YtghlnagainodaaaImplFtlOk
import Derived.Test.YtghlnagainodaaaMinMax
namespace Go.Proofs.Ytghlnagainodaaa
open Go.RowKit

/-- The least, and the greatest, of the first numbers. -/
def loW (ws : List Int) : Nat → Int
  | 0 => ws[0]?.getD 0
  | k + 1 => min (loW ws k) (ws[k + 1]?.getD 0)
def hiW (ws : List Int) : Nat → Int
  | 0 => ws[0]?.getD 0
  | k + 1 => max (hiW ws k) (ws[k + 1]?.getD 0)

set_option maxHeartbeats 800000 in
theorem sliceMin_any (b : Option Addr) (ws : List Int) (d : Nat) (w : World) (hw : Rd w b (vsInt ws)) (hl : ws.length ≤ 1048576) (hpos : 0 < ws.length) :
    Calls Try.prog 34 #[.slice b ws.length d] w fun e w' => e = .returned (.int .i64 (loW ws (ws.length - 1))) ∧ Below w.heap.size w w' := by
  obtain ⟨ba, oa, z, rfl, hck, HZ⟩ := rdInt_at hw hpos
  rw [Nat.add_zero] at hck
  have hlen1 : ¬ ((ws.length : Int) < 1) := by omega
  have HRL := hide hw
  clear hw
  go_enter Try.func34, Try.ntmps34
  go_wp2
  go_loopw [3, 4] (fun m i wr => ∃ k : Nat, k + 1 ≤ ws.length ∧ i = .int .i64 ((k + 1 : Nat) : Int) ∧ m = .int .i64 (loW ws k) ∧ Below w.heap.size w wr) (fun _ i _ => ws.length - (intOf i).toNat)
  case atStart => exact ⟨0, by omega, rfl, by rw [loW, HZ.out]; rfl, Below.refl _ _⟩
  case round =>
    obtain ⟨k, hk, rfl, rfl, hbr⟩ := hrel
    obtain ⟨M, hM⟩ : ∃ M, M = loW ws k := ⟨_, rfl⟩
    rw [← hM]
    by_cases hlt : k + 1 < ws.length
    · obtain ⟨ba', oa', x, hb', hcx, HX⟩ := rdInt_at (HRL.out.below hbr) hlt
      simp at hb'
      obtain ⟨rfl, rfl⟩ := hb'
      have HE : Hid (loW ws (k + 1) = if x < M then x else M) := by show _ = _; rw [loW, HX.out, hM]; show min _ x = _; split <;> omega
      have q1 : (k : Int) + 1 < (ws.length : Int) := by omega
      have HBR := hide hbr
      clear hM hbr
      go_wp2
      exact ⟨⟨k + 1, by omega, by go_num, by rw [HE.out], HBR.out⟩, by simp [intOf]; omega⟩
    · have HE : Hid (k = ws.length - 1) := by show _ = _; omega
      have q1 : ¬ (k : Int) + 1 < (ws.length : Int) := by omega
      have HM := hide hM
      clear hM
      go_wp2
      go_ret
      exact ⟨by rw [HM.out, HE.out]; rfl, by assumption⟩

set_option maxHeartbeats 800000 in
theorem sliceMax_any (b : Option Addr) (ws : List Int) (d : Nat) (w : World) (hw : Rd w b (vsInt ws)) (hl : ws.length ≤ 1048576) (hpos : 0 < ws.length) :
    Calls Try.prog 35 #[.slice b ws.length d] w fun e w' => e = .returned (.int .i64 (hiW ws (ws.length - 1))) ∧ Below w.heap.size w w' := by
  obtain ⟨ba, oa, z, rfl, hck, HZ⟩ := rdInt_at hw hpos
  rw [Nat.add_zero] at hck
  have hlen1 : ¬ ((ws.length : Int) < 1) := by omega
  have HRL := hide hw
  clear hw
  go_enter Try.func35, Try.ntmps35
  go_wp2
  go_loopw [3, 4] (fun m i wr => ∃ k : Nat, k + 1 ≤ ws.length ∧ i = .int .i64 ((k + 1 : Nat) : Int) ∧ m = .int .i64 (hiW ws k) ∧ Below w.heap.size w wr) (fun _ i _ => ws.length - (intOf i).toNat)
  case atStart => exact ⟨0, by omega, rfl, by rw [hiW, HZ.out]; rfl, Below.refl _ _⟩
  case round =>
    obtain ⟨k, hk, rfl, rfl, hbr⟩ := hrel
    obtain ⟨M, hM⟩ : ∃ M, M = hiW ws k := ⟨_, rfl⟩
    rw [← hM]
    by_cases hlt : k + 1 < ws.length
    · obtain ⟨ba', oa', x, hb', hcx, HX⟩ := rdInt_at (HRL.out.below hbr) hlt
      simp at hb'
      obtain ⟨rfl, rfl⟩ := hb'
      have HE : Hid (hiW ws (k + 1) = if M < x then x else M) := by show _ = _; rw [hiW, HX.out, hM]; show max _ x = _; split <;> omega
      have q1 : (k : Int) + 1 < (ws.length : Int) := by omega
      have HBR := hide hbr
      clear hM hbr
      go_wp2
      exact ⟨⟨k + 1, by omega, by go_num, by rw [HE.out], HBR.out⟩, by simp [intOf]; omega⟩
    · have HE : Hid (k = ws.length - 1) := by show _ = _; omega
      have q1 : ¬ (k : Int) + 1 < (ws.length : Int) := by omega
      have HM := hide hM
      clear hM
      go_wp2
      go_ret
      exact ⟨by rw [HM.out, HE.out]; rfl, by assumption⟩

/-- What Wears answers. -/
def wearsR (ps : List ByteArray) (ws ms : List Int) (q : Int) : Int × Int := if ftlOkB ps ws ms q = true then (loW ws 9, hiW ws 9) else (0, 0)

set_option maxRecDepth 100000 in
set_option maxHeartbeats 3200000 in
theorem implWears_any (a b e0 : Option Addr) (ps : List ByteArray) (ws ms : List Int) (c d f : Nat) (q : Int) (w : World) (hp : Rd w a (vsString ps)) (hw : Rd w b (vsInt ws)) (hms : Rd w e0 (vsInt ms)) (hl : ps.length ≤ 1048576) (hm : ws.length ≤ 1048576) (hn : ms.length ≤ 1048576) (hs : ∀ s ∈ ps, s.size ≤ 1048576) :
    Calls Try.prog 16 #[.agg #[.slice a ps.length c, .slice b ws.length d, .slice e0 ms.length f, .int .i64 q]] w fun e w' => e = .returned (.tuple #[.int .i64 (wearsR ps ws ms q).1, .int .i64 (wearsR ps ws ms q).2]) ∧ Below w.heap.size w w' := by
  obtain ⟨R, hR⟩ : ∃ R, R = wearsR ps ws ms q := ⟨_, rfl⟩
  rw [← hR]
  obtain ⟨A, hA⟩ : ∃ A, A = w.alloc (Obj.cells #[.slice a ps.length c, .slice b ws.length d, .slice e0 ms.length f, .int .i64 q] 32) := ⟨_, rfl⟩
  have hbA : Below w.heap.size w A := by rw [hA]; exact (Below.refl _ _).alloc (Nat.le_refl _) _
  have xA : At A w.heap.size [.slice a ps.length c, .slice b ws.length d, .slice e0 ms.length f, .int .i64 q] := by rw [hA]; exact at_new w [.slice a ps.length c, .slice b ws.length d, .slice e0 ms.length f, .int .i64 q] _
  have x0 : A.cell? ⟨w.heap.size, 0, none⟩ = some (.slice a ps.length c) := xA.2 0 (by simp)
  have x1 : A.cell? ⟨w.heap.size, 1, none⟩ = some (.slice b ws.length d) := xA.2 1 (by simp)
  have x2 : A.cell? ⟨w.heap.size, 2, none⟩ = some (.slice e0 ms.length f) := xA.2 2 (by simp)
  have x3 : A.cell? ⟨w.heap.size, 3, none⟩ = some (.int .i64 q) := xA.2 3 (by simp)
  have HF := hide (implFtlOk_any a b e0 ps ws ms c d f q A (hp.below hbA) (hw.below hbA) (hms.below hbA) hl hm hn hs)
  cases hok : ftlOkB ps ws ms q with
  | false =>
    have HR : Hid (R = (0, 0)) := by show _ = _; rw [hR, wearsR, if_neg (by simp [hok])]
    rw [hok] at HF
    clear hR hp hw hms hs hok
    go_enter Try.func16, Try.ntmps16
    go_wp2_with (first | (rw [← hA]; clear hA) | (go_at_call 25; refine HF.out.mono ?_; rintro e w1 ⟨rfl, hb1⟩; have HB1 := hide hb1; clear hb1))
    go_ret2
    exact ⟨by rw [HR.out]; rfl, after hbA HB1.out⟩
  | true =>
    have HR : Hid (R = (loW ws (ws.length - 1), hiW ws (ws.length - 1))) := by show _ = _; rw [hR, wearsR, if_pos hok, (ftlOk_parts hok).1.2.1]
    have HW10 : Hid (ws.length = 10) := (ftlOk_parts hok).1.2.1
    rw [hok] at HF
    have HMin : Hid (∀ u, Below A.heap.size A u → Calls Try.prog 34 #[.slice b ws.length d] u fun e w' => e = .returned (.int .i64 (loW ws (ws.length - 1))) ∧ Below u.heap.size u w') :=
      fun u hu => sliceMin_any b ws d u (hw.below (after hbA hu)) hm (by have := HW10.out; omega)
    have HMax : Hid (∀ u, Below A.heap.size A u → Calls Try.prog 35 #[.slice b ws.length d] u fun e w' => e = .returned (.int .i64 (hiW ws (ws.length - 1))) ∧ Below u.heap.size u w') :=
      fun u hu => sliceMax_any b ws d u (hw.below (after hbA hu)) hm (by have := HW10.out; omega)
    obtain ⟨lo, hlo⟩ : ∃ lo, lo = loW ws (ws.length - 1) := ⟨_, rfl⟩
    obtain ⟨hi, hhi⟩ : ∃ hi, hi = hiW ws (ws.length - 1) := ⟨_, rfl⟩
    rw [← hlo, ← hhi] at HR
    rw [← hlo] at HMin
    rw [← hhi] at HMax
    clear hR hp hw hms hs hok hlo hhi HW10
    go_enter Try.func16, Try.ntmps16
    go_wp2_with (first | (rw [← hA]; clear hA) | (go_at_call 25; refine HF.out.mono ?_; rintro e w1 ⟨rfl, hb1⟩; have HB1 := hide hb1; have x1 : w1.cell? ⟨w.heap.size, 1, none⟩ = some (.slice b ws.length d) := (xA.below hb1).2 1 (by simp); clear hb1))
    have hdr : Below A.heap.size A w1.drew := after_drew HB1.out 1
    go_region_held (fun w' => w'.cell? ⟨w.heap.size, 1, none⟩ = some (.slice b ws.length d)) (first | assumption | go_keep)
      ((first
        | (go_at_call 34; refine (HMin.out _ hdr).mono ?_; rintro e w2 ⟨rfl, hb2⟩; have HB2 := hide (after hdr hb2); have hS2 : w2.cell? ⟨w.heap.size, 1, none⟩ = some (.slice b ws.length d) := (xA.below HB2.out).2 1 (by simp); clear hb2)
        | (go_at_call 35; refine (HMax.out _ HB2.out).mono ?_; rintro e w3 ⟨rfl, hb3⟩; have HB3 := hide (after HB2.out hb3); have hS3 : w3.cell? ⟨w.heap.size, 1, none⟩ = some (.slice b ws.length d) := (xA.below HB3.out).2 1 (by simp); clear hb3)))
    go_wp2
    go_ret2
    exact ⟨by rw [HR.out]; rfl, after hbA HB3.out⟩

set_option maxRecDepth 100000 in
set_option maxHeartbeats 3200000 in
theorem specWears_any (a b e0 : Option Addr) (ps : List ByteArray) (ws ms : List Int) (c d f : Nat) (q : Int) (w : World) (hp : Rd w a (vsString ps)) (hw : Rd w b (vsInt ws)) (hms : Rd w e0 (vsInt ms)) (hl : ps.length ≤ 1048576) (hm : ws.length ≤ 1048576) (hn : ms.length ≤ 1048576) (hs : ∀ s ∈ ps, s.size ≤ 1048576) :
    Calls Try.prog 15 #[.agg #[.slice a ps.length c, .slice b ws.length d, .slice e0 ms.length f, .int .i64 q]] w fun e w' => e = .returned (.tuple #[.int .i64 (wearsR ps ws ms q).1, .int .i64 (wearsR ps ws ms q).2]) ∧ Below w.heap.size w w' := by
  obtain ⟨R, hR⟩ : ∃ R, R = wearsR ps ws ms q := ⟨_, rfl⟩
  rw [← hR]
  obtain ⟨A, hA⟩ : ∃ A, A = w.alloc (Obj.cells #[.slice a ps.length c, .slice b ws.length d, .slice e0 ms.length f, .int .i64 q] 32) := ⟨_, rfl⟩
  have hbA : Below w.heap.size w A := by rw [hA]; exact (Below.refl _ _).alloc (Nat.le_refl _) _
  have xA : At A w.heap.size [.slice a ps.length c, .slice b ws.length d, .slice e0 ms.length f, .int .i64 q] := by rw [hA]; exact at_new w [.slice a ps.length c, .slice b ws.length d, .slice e0 ms.length f, .int .i64 q] _
  have x0 : A.cell? ⟨w.heap.size, 0, none⟩ = some (.slice a ps.length c) := xA.2 0 (by simp)
  have x1 : A.cell? ⟨w.heap.size, 1, none⟩ = some (.slice b ws.length d) := xA.2 1 (by simp)
  have x2 : A.cell? ⟨w.heap.size, 2, none⟩ = some (.slice e0 ms.length f) := xA.2 2 (by simp)
  have x3 : A.cell? ⟨w.heap.size, 3, none⟩ = some (.int .i64 q) := xA.2 3 (by simp)
  have HF := hide (specFtlOk_any a b e0 ps ws ms c d f q A (hp.below hbA) (hw.below hbA) (hms.below hbA) hl hm hn hs)
  cases hok : ftlOkB ps ws ms q with
  | false =>
    have HR : Hid (R = (0, 0)) := by show _ = _; rw [hR, wearsR, if_neg (by simp [hok])]
    rw [hok] at HF
    clear hR hp hw hms hs hok
    go_enter Try.func15, Try.ntmps15
    go_wp2_with (first | (rw [← hA]; clear hA) | (go_at_call 21; refine HF.out.mono ?_; rintro e w1 ⟨rfl, hb1⟩; have HB1 := hide hb1; clear hb1))
    go_ret2
    exact ⟨by rw [HR.out]; rfl, after hbA HB1.out⟩
  | true =>
    have HR : Hid (R = (loW ws 9, hiW ws 9)) := by show _ = _; rw [hR, wearsR, if_pos hok]
    have HW10 : Hid (ws.length = 10) := (ftlOk_parts hok).1.2.1
    have hw1 : 10 ≤ ws.length ∧ ws.length ≤ 10 := by have := HW10.out; omega
    rw [hok] at HF
    have HRW := hide hw
    have HBA := hide hbA
    clear hR hp hw hms hs hok hbA
    go_enter Try.func15, Try.ntmps15
    go_wp2_with fail
    rw [← hA]
    clear hA
    refine HF.out.mono ?_
    rintro e w1 ⟨rfl, hb1⟩
    have HB1 := hide hb1
    have y1 : w1.cell? ⟨w.heap.size, 1, none⟩ = some (.slice b ws.length d) := (xA.below hb1).2 1 (by simp)
    obtain ⟨ba, oa, z, rfl, hck, HZ⟩ := rdInt_at (HRW.out.below (after HBA.out hb1)) (show 0 < ws.length by omega)
    rw [Nat.add_zero] at hck
    clear hb1 x0 x1 x2 x3 xA HF
    have hw0 : (0 : Int) < (ws.length : Int) := by omega
    go_wp2
    go_quiet (fail)
    go_wp2
    go_loopw [4, 5, 6] (fun lo hi i wr => ∃ k : Nat, k + 1 ≤ 10 ∧ i = .int .i64 ((k + 1 : Nat) : Int) ∧ lo = .int .i64 (loW ws k) ∧ hi = .int .i64 (hiW ws k) ∧ Below w1.heap.size w1 wr) (fun _ _ i _ => 10 - (intOf i).toNat)
    case atStart => exact ⟨0, by omega, rfl, by rw [loW, HZ.out]; rfl, by rw [hiW, HZ.out]; rfl, after_drew (Below.refl _ _) _⟩
    case round =>
      obtain ⟨k, hk, rfl, rfl, rfl, hbr⟩ := hrel
      obtain ⟨M, hM⟩ : ∃ M, M = loW ws k := ⟨_, rfl⟩
      obtain ⟨N, hN⟩ : ∃ N, N = hiW ws k := ⟨_, rfl⟩
      rw [← hM, ← hN]
      have y2 := (hbr.cell (p := ⟨w.heap.size, 1, none⟩) (lt_of_cell y1)).trans y1
      by_cases hlt : k + 1 < 10
      · obtain ⟨ba', oa', x, hb', hcx, HX⟩ := rdInt_at (HRW.out.below (after (after HBA.out HB1.out) hbr)) (show k + 1 < ws.length by omega)
        simp at hb'
        obtain ⟨rfl, rfl⟩ := hb'
        have HE : Hid (loW ws (k + 1) = min M x) := by show _ = _; rw [loW, HX.out, hM]; rfl
        have HE2 : Hid (hiW ws (k + 1) = max N x) := by show _ = _; rw [hiW, HX.out, hN]; rfl
        have q1 : (k : Int) + 1 < 10 := by omega
        have q2 : (k : Int) + 1 < (ws.length : Int) := by omega
        have HBR := hide hbr
        clear hM hbr hN
        go_wp2_with (first | (go_at_call 32; refine (min_any _ _ _).mono ?_; rintro e u ⟨rfl, hu⟩; have hu' := hu.symm; subst hu') | (go_at_call 33; refine (max_any _ _ _).mono ?_; rintro e u ⟨rfl, hu⟩; have hu' := hu.symm; subst hu'))
        exact ⟨⟨k + 1, by omega, by go_num, by rw [HE.out], by rw [HE2.out], HBR.out⟩, by simp [intOf]; omega⟩
      · have HK : Hid (k = 9) := by show _ = _; omega
        have q1 : ¬ (k : Int) + 1 < 10 := by omega
        have HM := hide hM
        have HN := hide hN
        have HBR := hide hbr
        clear hM hN hbr
        go_wp2
        go_ret2
        exact ⟨by rw [HR.out, HM.out, HN.out, HK.out]; rfl, after (after HBA.out HB1.out) HBR.out⟩

theorem fnExactWears_both (ps : List ByteArray) (ws : List Int) (ms : List Int) (q : Int) (hk0 : ps.length ≤ 1048576) (hk1 : ws.length ≤ 1048576) (hk2 : ms.length ≤ 1048576) (hs : ∀ s ∈ ps, s.size ≤ 1048576) (_hq : (Lit.int .i64 q).wf = true) :
    ∃ (S0 S1 : Int), Hid (∀ (u : World) (v : Value), FtlRd u v ps ws ms q → Calls Try.prog 15 #[v] u fun e w' => e = .returned (.tuple #[.int .i64 S0, .int .i64 S1]) ∧ Below u.heap.size u w') ∧ Hid (∀ (u : World) (v : Value), FtlRd u v ps ws ms q → Calls Try.prog 16 #[v] u fun e w' => e = .returned (.tuple #[.int .i64 S0, .int .i64 S1]) ∧ Below u.heap.size u w') := by
  refine ⟨(wearsR ps ws ms q).1, (wearsR ps ws ms q).2, ?_, ?_⟩
  · rintro u v ⟨a, c, b, d, e, f, rfl, h1, h2, h3⟩
    exact specWears_any a b e ps ws ms c d f q u h1 h2 h3 hk0 hk1 hk2 hs
  · rintro u v ⟨a, c, b, d, e, f, rfl, h1, h2, h3⟩
    exact implWears_any a b e ps ws ms c d f q u h1 h2 h3 hk0 hk1 hk2 hs

end Go.Proofs.Ytghlnagainodaaa
