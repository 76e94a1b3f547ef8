/-
  Contracts of the specification's l4Sector and Sector.
  Contracts of the specification's l5Open and Worst.
  Contract of the program's ChipOk.
-/
import Derived.Test.YtdicjbabnknjhaaGreatJRecover11
import Derived.Test.YtdicjbabnknjhaaGreatJRecover10
import Derived.Deep.RegionHeld
import Derived.Test.YtdicjbabnknjhaaGreatJRecover12
import Derived.Test.YtdicjbabnknjhaaGreatJRecover2
namespace Go.Proofs.YtdicjbabnknjhaaGreat
open Go.RowKit

/-- What stands at a page: its record's data. -/
def dataAt (ps : List ByteArray) (m : Int) : ByteArray := if m < 0 then ByteArray.empty else (recC ps m.toNat).2.2

set_option maxHeartbeats 1600000 in
theorem specSec_none (p0 p1 : Value) (e0 : Option Addr) (ms : List Int) (f S : Nat) (q m : Int) (w : World) (hms : Rd w e0 (vsInt ms)) (hS : ms[S]? = some m) (_hS6 : S < 26) (hm : m < 0) :
    Calls Tryz.prog 26 #[.agg #[p0, p1, .slice e0 ms.length f, .int .i64 q], .int .i64 S] w fun e w' => e = .returned (.string ⟨#[]⟩) ∧ Below w.heap.size w w' := by
  have hlt : S < ms.length := by
    rcases Nat.lt_or_ge S ms.length with h' | h'
    · exact h'
    · simp [h'] at hS
  obtain ⟨A, hA⟩ : ∃ A, A = w.alloc (Obj.cells #[p0, p1, .slice e0 ms.length f, .int .i64 q] 34) := ⟨_, rfl⟩
  have hbA : Below w.heap.size w A := by rw [hA]; exact (Below.refl _ _).alloc (Nat.le_refl _) _
  have x2 : A.cell? ⟨w.heap.size, 2, none⟩ = some (.slice e0 ms.length f) := by rw [hA]; simp
  obtain ⟨ba, oa, x, rfl, hcx, HX⟩ := rdInt_at (hms.below hbA) hlt
  obtain rfl : x = m := by have := HX.out; rw [hS] at this; simpa using this.symm
  clear hms hS
  go_enter Tryz.func26, Tryz.ntmps26
  go_wp2_with (rw [← hA]; clear hA)
  go_ret
  exact ⟨rfl, hbA⟩

theorem set3_keep {w1 : World} {B x j : Nat} {v a b c : Value} (h : w1.cell? ⟨x, j, none⟩ = some v) (hne : B ≠ x) : (((w1.setCell ⟨B, 0, none⟩ a).setCell ⟨B, 1, none⟩ b).setCell ⟨B, 2, none⟩ c).cell? ⟨x, j, none⟩ = some v :=
  cell_other (cell_other (cell_other h hne) hne) hne
theorem sec_aux {A w1 : World} (hb : Below (A.alloc (Obj.cells #[.int .i64 0, .int .i64 0, .string ⟨#[]⟩] 87)).drew.heap.size (A.alloc (Obj.cells #[.int .i64 0, .int .i64 0, .string ⟨#[]⟩] 87)).drew w1) :
    Hid (Below A.heap.size A.drew w1) ∧ (w1.cell? ⟨A.heap.size, 0, none⟩ = some (.int .i64 0) ∧ w1.cell? ⟨A.heap.size, 1, none⟩ = some (.int .i64 0) ∧ w1.cell? ⟨A.heap.size, 2, none⟩ = some (.string ⟨#[]⟩)) ∧ ∀ j, w1.frozen? ⟨A.heap.size, j, none⟩ = false := by
  have hsz : (A.alloc (Obj.cells #[.int .i64 0, .int .i64 0, .string ⟨#[]⟩] 87)).drew.heap.size = A.heap.size + 1 := by simp
  refine ⟨(show Below A.heap.size A.drew (A.alloc (Obj.cells #[.int .i64 0, .int .i64 0, .string ⟨#[]⟩] 87)).drew from ?_).trans (hb.mono (by omega)), ⟨?_, ?_, ?_⟩, fun j => ?_⟩
  · have : Below A.heap.size A (A.alloc (Obj.cells #[.int .i64 0, .int .i64 0, .string ⟨#[]⟩] 87)) := (Below.refl _ A).alloc (Nat.le_refl _) _
    exact ⟨this.os, this.tape, this.output, this.size, this.block⟩
  · exact (hb.cell (p := ⟨A.heap.size, 0, none⟩) (by show A.heap.size < _; omega)).trans (by simp)
  · exact (hb.cell (p := ⟨A.heap.size, 1, none⟩) (by show A.heap.size < _; omega)).trans (by simp)
  · exact (hb.cell (p := ⟨A.heap.size, 2, none⟩) (by show A.heap.size < _; omega)).trans (by simp)
  · exact (hb.frozen (p := ⟨A.heap.size, j, none⟩) (by show A.heap.size < _; omega)).trans (by simp)

set_option maxRecDepth 100000 in
set_option maxHeartbeats 3200000 in
theorem specSec_some (a : Option Addr) (p1 : Value) (e0 : Option Addr) (ps : List ByteArray) (ms : List Int) (c f S p : Nat) (q : Int) (w : World) (hp : Rd w a (vsString ps)) (hms : Rd w e0 (vsInt ms)) (hS : ms[S]? = some (p : Int)) (_hS6 : S < 26) (hpl : p < ps.length) (_hl : ps.length ≤ 1048576) (hs : ∀ s ∈ ps, s.size ≤ 1048576) :
    Calls Tryz.prog 26 #[.agg #[.slice a ps.length c, p1, .slice e0 ms.length f, .int .i64 q], .int .i64 S] w fun e w' => e = .returned (.string (recC ps p).2.2) ∧ Below w.heap.size w w' := by
  have hlt : S < ms.length := by
    rcases Nat.lt_or_ge S ms.length with h' | h'
    · exact h'
    · simp [h'] at hS
  obtain ⟨A, hA⟩ : ∃ A, A = w.alloc (Obj.cells #[.slice a ps.length c, p1, .slice e0 ms.length f, .int .i64 q] 34) := ⟨_, rfl⟩
  have hbA : Below w.heap.size w A := by rw [hA]; exact (Below.refl _ _).alloc (Nat.le_refl _) _
  have x0 : A.cell? ⟨w.heap.size, 0, none⟩ = some (.slice a ps.length c) := by rw [hA]; simp
  have x2 : A.cell? ⟨w.heap.size, 2, none⟩ = some (.slice e0 ms.length f) := by rw [hA]; simp
  obtain ⟨ba, oa, x, rfl, hcx, HX⟩ := rdInt_at (hms.below hbA) hlt
  obtain rfl : x = (p : Int) := by have := HX.out; rw [hS] at this; simpa using this.symm
  obtain ⟨bp, op, t, rfl, hct, HT⟩ := rdString_at (hp.below hbA) hpl
  have ht : Hid (t.size ≤ 1048576) := hs t (List.mem_of_getElem? HT.out)
  have he : ps[p]?.getD ByteArray.empty = t := by rw [HT.out]; rfl
  obtain ⟨s, q', d, B, he2, hcall⟩ : ∃ (s q : Int) (d : ByteArray) (B : Bool), Hid (recC ps p = (s, q, d)) ∧ Hid (∀ u, Calls Tryz.prog 58 #[.string t] u fun e w' => e = .returned (.tuple #[.agg #[.int .i64 s, .int .i64 q, .string d], .bool B]) ∧ Below u.heap.size u w') := by
    cases hr : recR t with
    | none => exact ⟨0, 0, ByteArray.empty, false, recC_none (by rw [he]; exact hr), fun u => (specRecRead_any t u ht.out).mono fun e w' h => ⟨h.2.1 hr, h.2.2⟩⟩
    | some r => obtain ⟨s, q, d⟩ := r; exact ⟨s, q, d, true, recC_some (by rw [he]; exact hr), fun u => (specRecRead_any t u ht.out).mono fun e w' h => ⟨h.1 s q d hr, h.2.2⟩⟩
  have hn0 : ¬ ((p : Int) < 0) := by omega
  have hltA := lt_of_cell x0
  have hltx := lt_of_cell hcx
  have hltt := lt_of_cell hct
  have HK : Hid (∀ u, Below A.heap.size A.drew u → u.cell? ⟨w.heap.size, 0, none⟩ = some (.slice (some ⟨bp, op, none⟩) ps.length c) ∧ u.cell? ⟨w.heap.size, 2, none⟩ = some (.slice (some ⟨ba, oa, none⟩) ms.length f) ∧ u.cell? ⟨ba, oa + S, none⟩ = some (.int .i64 p) ∧ u.cell? ⟨bp, op + p, none⟩ = some (.string t)) := fun u hu =>
    ⟨(hu.cell (p := ⟨w.heap.size, 0, none⟩) hltA).trans (by simpa using x0), (hu.cell (p := ⟨w.heap.size, 2, none⟩) hltA).trans (by simpa using x2), (hu.cell (p := ⟨ba, oa + S, none⟩) hltx).trans (by simpa using hcx), (hu.cell (p := ⟨bp, op + p, none⟩) hltt).trans (by simpa using hct)⟩
  have m1 : A.heap.size ≠ w.heap.size := by omega
  have m2 : A.heap.size ≠ ba := by omega
  have m3 : A.heap.size ≠ bp := by omega
  have HB := hide hbA
  clear hms hS hp hs he hbA
  go_enter Tryz.func26, Tryz.ntmps26
  go_wp2_with (rw [← hA]; clear hA)
  go_region_held (fun w' => w'.cell? ⟨w.heap.size, 0, none⟩ = some (.slice (some ⟨bp, op, none⟩) ps.length c) ∧ w'.cell? ⟨w.heap.size, 2, none⟩ = some (.slice (some ⟨ba, oa, none⟩) ms.length f) ∧ w'.cell? ⟨ba, oa + S, none⟩ = some (.int .i64 p) ∧ w'.cell? ⟨bp, op + p, none⟩ = some (.string t)) (first | assumption | go_keep | exact ⟨set3_keep hK1.1 m1, set3_keep hK1.2.1 m1, set3_keep hK1.2.2.1 m2, set3_keep hK1.2.2.2 m3⟩)
    ((first
      | (go_at_call 58; refine (hcall.out (A.alloc (Obj.cells #[.int .i64 0, .int .i64 0, .string ⟨#[]⟩] 87)).drew).mono ?_; rintro e w1 ⟨rfl, hb1⟩; obtain ⟨HBA, ⟨n0, n1, n2⟩, nf⟩ := sec_aux hb1; have hK1 := HK.out w1 HBA.out; clear hb1)
      | (go_at_call 58; refine (hcall.out A.drew).mono ?_; rintro e w1 ⟨rfl, hb1⟩; have hK1 := HK.out w1 hb1; have HBA : Hid (Below A.heap.size A.drew w1) := hb1; clear hb1)))
  all_goals
    have HBW : Hid (Below w.heap.size w w1) := (after_drew HB.out 1).trans (HBA.out.mono HB.out.size)
    have HSZ := hide HB.out.size
    clear HBA HK hcall hK1
  · go_wp2
    go_ret
    exact ⟨by rw [he2.out]; rfl, HBW.out.alloc HBW.out.size _⟩
  · go_wp2
    go_ret
    exact ⟨by rw [he2.out]; rfl, ((HBW.out.setCell HSZ.out _).setCell HSZ.out _).setCell HSZ.out _⟩

/-- What sector s has, of what is right. -/
def sectOf (ps : List ByteArray) (ws ms : List Int) (q s : Int) : ByteArray := if ftlOkB ps ws ms q = true ∧ 0 ≤ s ∧ s ≤ 25 then dataAt ps ((mMap ps)[s.toNat]?.getD (-1)) else ByteArray.empty

theorem ftlOk_parts {ps : List ByteArray} {ws ms : List Int} {q : Int} (h : ftlOkB ps ws ms q = true) : chipOkP ps ws ∧ mMap ps = ms ∧ mSeq ps = q := by
  simp only [ftlOkB, Bool.and_eq_true, decide_eq_true_eq] at h
  exact ⟨chipOkB_iff.1 h.1.1, h.1.2, h.2⟩

end Go.Proofs.YtdicjbabnknjhaaGreat

namespace Go.Proofs.YtdicjbabnknjhaaGreat
open Go.RowKit

theorem nxt_bd {ps : List ByteArray} {ws : List Int} : ∀ (f b : Nat) (best : Int), b + f = 10 → -1 ≤ best → best < 10 → -1 ≤ nxt ps ws f b best ∧ nxt ps ws f b best ≤ 59 := by
  intro f
  induction f with
  | zero =>
    intro b best _ h1 h2
    unfold nxt
    split <;> omega
  | succ f ih =>
    intro b best hb h1 h2
    by_cases hh : 0 < (clr ps b 6).1 ∧ (clr ps b 6).1 < 6 ∧ (clr ps b 6).2 = (clr ps b 6).1
    · rw [nxt_here rfl rfl hh]; omega
    · by_cases h3 : (clr ps b 6).1 = 6 ∧ (best < 0 ∨ ws[b]?.getD 0 < ws[best.toNat]?.getD 0)
      · rw [nxt_take rfl rfl hh h3]; exact ih (b + 1) _ (by omega) (by omega) (by omega)
      · rw [nxt_pass rfl rfl hh h3]; exact ih (b + 1) _ (by omega) h1 h2
theorem nextP_bd (ps : List ByteArray) (ws : List Int) : -1 ≤ nextP ps ws ∧ nextP ps ws ≤ 59 := nxt_bd 10 0 (-1) (by omega) (by omega) (by omega)

/-- The block that is begun, if there is one. -/
noncomputable def openB (ps : List ByteArray) (ws : List Int) : Int := if nextP ps ws < 0 ∨ nextP ps ws % 6 = 0 then -1 else nextP ps ws / 6

set_option maxHeartbeats 1600000 in
theorem open_any (a b : Option Addr) (ps : List ByteArray) (ws : List Int) (c d : Nat) (w : World) (hp : Rd w a (vsString ps)) (hw : Rd w b (vsInt ws)) (hl : ps.length = 60) (hm : ws.length = 10) :
    Calls Tryz.prog 101 #[.agg #[.slice a ps.length c, .slice b ws.length d]] w fun e w' => e = .returned (.int .i64 (openB ps ws)) ∧ Below w.heap.size w w' := by
  obtain ⟨W, hW⟩ : ∃ W, W = w.alloc (Obj.cells #[.slice a ps.length c, .slice b ws.length d] 32) := ⟨_, rfl⟩
  have hbW : Below w.heap.size w W := by rw [hW]; exact (Below.refl _ _).alloc (Nat.le_refl _) _
  have HN := hide (next_any a b ps ws c d W (hp.below hbW) (hw.below hbW) hl hm)
  obtain ⟨R, hR⟩ : ∃ R, R = openB ps ws := ⟨_, rfl⟩
  rw [← hR]
  have hbd := nextP_bd ps ws
  unfold openB at hR
  obtain ⟨p, hpp⟩ : ∃ p, p = nextP ps ws := ⟨_, rfl⟩
  rw [← hpp] at HN hbd hR
  have HR := hide hR
  clear hp hw hl hm hR hpp
  go_enter Tryz.func101, Tryz.ntmps101
  go_wp2_with fail
  rw [← hW]
  clear hW
  refine HN.out.mono ?_
  rintro e w1 ⟨rfl, hb1⟩
  have hbw1 := after hbW hb1
  clear HN hb1
  by_cases h0 : p < 0
  · have HV : Hid (R = -1) := by show _ = _; rw [HR.out, if_pos (.inl h0)]
    go_wp2
    go_ret
    exact ⟨by rw [HV.out]; rfl, hbw1⟩
  · obtain ⟨k, rfl⟩ : ∃ k : Nat, p = k := ⟨p.toNat, by omega⟩
    by_cases h6 : (k : Int) % 6 = 0
    · have HV : Hid (R = -1) := by show _ = _; rw [HR.out, if_pos (.inr h6)]
      have ht : Int.tmod (k : Int) 6 = 0 := by rw [Int.tmod_eq_emod_of_nonneg (by omega)]; exact h6
      go_wp2
      go_ret
      exact ⟨by rw [HV.out]; rfl, hbw1⟩
    · have HV : Hid (R = (k : Int) / 6) := by show _ = _; rw [HR.out, if_neg (by omega)]
      have ht : ¬ Int.tmod (k : Int) 6 = 0 := by rw [Int.tmod_eq_emod_of_nonneg (by omega)]; exact h6
      have ht2 : ((k : Int) % 6 == 0) = false := by simpa using h6
      have hq : Int.tdiv (k : Int) 6 = (k : Int) / 6 := by rw [Int.tdiv_eq_ediv_of_nonneg (by omega)]
      go_wp2
      go_ret
      exact ⟨by rw [HV.out]; first | rfl | (rw [← hq]; rfl), hbw1⟩

/-- One more block: the best, and how few Lives it has. -/
noncomputable def worstS (ps : List ByteArray) (ws ms : List Int) (o : Int) (st : Int × Int) (b : Nat) : Int × Int :=
  if (clr ps b 6).1 = 6 ∨ (b : Int) = o then st
  else if st.1 < 0 ∨ ((livesU ms b 6).length : Int) < st.2 ∨ (((livesU ms b 6).length : Int) = st.2 ∧ ws[b]?.getD 0 < ws[st.1.toNat]?.getD 0) then ((b : Int), ((livesU ms b 6).length : Int)) else st
noncomputable def worstU (ps : List ByteArray) (ws ms : List Int) (o : Int) : Nat → Int × Int
  | 0 => (-1, 0)
  | k + 1 => worstS ps ws ms o (worstU ps ws ms o k) k
noncomputable def worstB (ps : List ByteArray) (ws ms : List Int) : Int := if (worstU ps ws ms (openB ps ws) 10).2 = 6 then -1 else (worstU ps ws ms (openB ps ws) 10).1
noncomputable def worstOf (ps : List ByteArray) (ws ms : List Int) (q : Int) : Int := if ftlOkB ps ws ms q = true then worstB ps ws ms else -1
theorem worstU_bd (ps : List ByteArray) (ws ms : List Int) (o : Int) (hm : ms.length = 26) (k : Nat) : -1 ≤ (worstU ps ws ms o k).1 ∧ (worstU ps ws ms o k).1 < k ∧ 0 ≤ (worstU ps ws ms o k).2 ∧ (worstU ps ws ms o k).2 ≤ 156 := by
  induction k with
  | zero => simp [worstU]
  | succ k ih =>
    have hl := livesU_len ms k 6
    rw [hm] at hl
    unfold worstU worstS
    split
    · omega
    · split
      · simp only []; omega
      · omega

set_option maxRecDepth 100000 in
set_option maxHeartbeats 6400000 in
theorem specWorst_ok (a b e0 : Option Addr) (ps : List ByteArray) (ws ms : List Int) (c d f : Nat) (q : Int) (w : World) (hp : Rd w a (vsString ps)) (hw : Rd w b (vsInt ws)) (hms : Rd w e0 (vsInt ms)) (hok : ftlOkB ps ws ms q = true) :
    Calls Tryz.prog 102 #[.agg #[.slice a ps.length c, .slice b ws.length d, .slice e0 ms.length f, .int .i64 q]] w fun e w' => e = .returned (.int .i64 (worstB ps ws ms)) ∧ Below w.heap.size w w' := by
  obtain ⟨hch, hmm, -⟩ := ftlOk_parts hok
  have hm26 : ms.length = 26 := by rw [← hmm]; exact mMap_len ps
  obtain ⟨R, hR⟩ : ∃ R, R = worstB ps ws ms := ⟨_, rfl⟩
  rw [← hR]
  unfold worstB at hR
  obtain ⟨o, hoo⟩ : ∃ o, o = openB ps ws := ⟨_, rfl⟩
  rw [← hoo] at hR
  have HR := hide hR
  obtain ⟨A, hA⟩ : ∃ A, A = w.alloc (Obj.cells #[.slice a ps.length c, .slice b ws.length d, .slice e0 ms.length f, .int .i64 q] 34) := ⟨_, rfl⟩
  have hbA : Below w.heap.size w A := by rw [hA]; exact (Below.refl _ _).alloc (Nat.le_refl _) _
  have xA : At A w.heap.size [.slice a ps.length c, .slice b ws.length d, .slice e0 ms.length f, .int .i64 q] := by rw [hA]; exact at_new w [.slice a ps.length c, .slice b ws.length d, .slice e0 ms.length f, .int .i64 q] _
  have x0 : A.cell? ⟨w.heap.size, 0, none⟩ = some (.slice a ps.length c) := xA.2 0 (by simp)
  have x1 : A.cell? ⟨w.heap.size, 1, none⟩ = some (.slice b ws.length d) := xA.2 1 (by simp)
  have x2 : A.cell? ⟨w.heap.size, 2, none⟩ = some (.slice e0 ms.length f) := xA.2 2 (by simp)
  have x3 : A.cell? ⟨w.heap.size, 3, none⟩ = some (.int .i64 q) := xA.2 3 (by simp)
  have HF := hide (specFtlOk_any a b e0 ps ws ms c d f q A (hp.below hbA) (hw.below hbA) (hms.below hbA) (by rw [hch.1]; decide) (by rw [hch.2.1]; decide) (by omega) (fun s h => by have := hch.2.2.1 s h; omega))
  rw [hok] at HF
  have HX : Hid (∀ u, Below A.heap.size A u → u.cell? ⟨w.heap.size, 0, none⟩ = some (.slice a ps.length c) ∧ u.cell? ⟨w.heap.size, 1, none⟩ = some (.slice b ws.length d) ∧ u.cell? ⟨w.heap.size, 2, none⟩ = some (.slice e0 ms.length f) ∧ u.cell? ⟨w.heap.size, 3, none⟩ = some (.int .i64 q)) := fun u hu =>
    ⟨(xA.below hu).2 0 (by simp), (xA.below hu).2 1 (by simp), (xA.below hu).2 2 (by simp), (xA.below hu).2 3 (by simp)⟩
  have HRD := hide (And.intro (hp.below hbA) (And.intro (hw.below hbA) (hms.below hbA)))
  have HCH := hide hch
  have HM := hide hm26
  have hml : ms.length ≤ 26 := by omega
  have hol := nextP_bd ps ws
  have hob : -1 ≤ o ∧ o ≤ 9 := by rw [hoo, openB]; split <;> omega
  have HO := hide hoo
  clear hp hw hms hok hch hmm hm26 hR hoo hol xA
  go_enter Tryz.func102, Tryz.ntmps102
  go_wp2_with fail
  rw [← hA]
  clear hA
  refine HF.out.mono ?_
  rintro e w1 ⟨rfl, hb1⟩
  obtain ⟨y0, y1, y2, y3⟩ := HX.out w1 hb1
  have HOP := hide (open_any a b ps ws c d w1 (HRD.out.1.below hb1) (HRD.out.2.1.below hb1) HCH.out.1 HCH.out.2.1)
  rw [← HO.out] at HOP
  clear HF x0 x1 x2 x3
  go_wp2_with fail
  refine HOP.out.mono ?_
  rintro e w2 ⟨rfl, hb2⟩
  have hb02 := after hb1 hb2
  clear HOP hb1 hb2 y0 y1 y2 y3
  go_wp2_with fail
  go_loopw [3, 4, 6] (fun x y i wr => ∃ k : Nat, k ≤ 10 ∧ i = .int .i64 k ∧ x = .int .i64 (worstU ps ws ms o k).1 ∧ y = .int .i64 (worstU ps ws ms o k).2 ∧ Below A.heap.size A wr) (fun _ _ i _ => 10 - (intOf i).toNat)
  case atStart => exact ⟨0, by omega, rfl, rfl, rfl, hb02⟩
  case round =>
    obtain ⟨k, hk, rfl, rfl, rfl, hbr⟩ := hrel
    obtain ⟨q1, q2, q3, q4⟩ := worstU_bd ps ws ms o HM.out k
    by_cases hlt : k < 10
    · obtain ⟨x0, x1, x2, x3⟩ := HX.out wr hbr
      have HCL := hide (clear_any a b ps ws c d k wr (HRD.out.1.below hbr) HCH.out.1 hlt)
      have HLV : Hid (∀ u, Below A.heap.size A u → Calls Tryz.prog 127 #[.agg #[.slice a ps.length c, .slice b ws.length d, .slice e0 ms.length f, .int .i64 q], .int .i64 k] u fun e w' => ∃ v, e = .returned v ∧ w'.ownsRow u.heap.size 3 1 v (livesU ms k 6).length (vsInt (livesU ms k 6)) ∧ Below u.heap.size u w') := fun u hu =>
        lives_any _ _ e0 ms f k q u (HRD.out.2.2.below hu) (by have := HM.out; omega) hlt
      have hll := livesU_len ms k 6
      have hl156 : (livesU ms k 6).length ≤ 156 := by have := HM.out; omega
      have hcb := clr_bd ps k 6
      have HE : Hid (worstU ps ws ms o (k + 1) = worstS ps ws ms o (worstU ps ws ms o k) k) := rfl
      obtain ⟨st, hst⟩ : ∃ st, st = worstU ps ws ms o k := ⟨_, rfl⟩
      rw [← hst] at q1 q2 q3 q4 HE ⊢
      obtain ⟨N, hN⟩ : ∃ N, N = (clr ps k 6).1 := ⟨_, rfl⟩
      obtain ⟨L, hL⟩ : ∃ L, L = (livesU ms k 6).length := ⟨_, rfl⟩
      have HNL := hide (And.intro hN hL)
      rw [← hN] at HCL hcb
      rw [← hL] at HLV hl156
      unfold worstS at HE
      rw [← hN, ← hL] at HE
      obtain ⟨T, hT⟩ : ∃ T, T = (clr ps k 6).2 := ⟨_, rfl⟩
      rw [← hT] at HCL hcb
      obtain ⟨B, F⟩ := st
      simp only [] at q1 q2 q3 q4 HE ⊢
      clear hst hN hL hT hll
      by_cases hc1 : N = 6
      · rw [if_pos (.inl hc1)] at HE
        subst hc1
        go_wp2_with (first
          | (go_at_call 126; refine HCL.out.mono ?_; rintro e u1 ⟨rfl, hb1⟩; have HU1 := hide hb1; obtain ⟨y0, y1, y2, y3⟩ := HX.out u1 (after hbr hb1); clear HCL hb1)
          | (go_at_call 127; refine (HLV.out u1 (after hbr HU1.out)).mono ?_; rintro e u2 ⟨v2, rfl, ho2, hb2⟩; obtain ⟨a2, c2, rfl⟩ := owns_shape ho2; have HU2 := hide (after HU1.out hb2); obtain ⟨z0, z1, z2, z3⟩ := HX.out u2 (after hbr HU2.out); clear HLV hb2 ho2))
        exact ⟨⟨k + 1, by omega, by go_num, by rw [HE.out], by rw [HE.out], after hbr HU2.out⟩, by simp [intOf]; omega⟩
      · have t1 : (N == 6) = false := by simpa using hc1
        by_cases hc2 : (k : Int) = o
        · rw [if_pos (.inr hc2)] at HE
          have t2 : ((k : Int) == o) = true := by simpa using hc2
          clear hc1 hc2
          go_wp2_with (first
            | (go_at_call 126; refine HCL.out.mono ?_; rintro e u1 ⟨rfl, hb1⟩; have HU1 := hide hb1; obtain ⟨y0, y1, y2, y3⟩ := HX.out u1 (after hbr hb1); clear HCL hb1)
            | (go_at_call 127; refine (HLV.out u1 (after hbr HU1.out)).mono ?_; rintro e u2 ⟨v2, rfl, ho2, hb2⟩; obtain ⟨a2, c2, rfl⟩ := owns_shape ho2; have HU2 := hide (after HU1.out hb2); obtain ⟨z0, z1, z2, z3⟩ := HX.out u2 (after hbr HU2.out); clear HLV hb2 ho2))
          exact ⟨⟨k + 1, by omega, by go_num, by rw [HE.out], by rw [HE.out], after hbr HU2.out⟩, by simp [intOf]; omega⟩
        · have t2 : ((k : Int) == o) = false := by simpa using hc2
          rw [if_neg (by rintro (h | h); exact hc1 h; exact hc2 h)] at HE
          clear hc1 hc2
          go_wp2_with (first
            | (go_at_call 126; refine HCL.out.mono ?_; rintro e u1 ⟨rfl, hb1⟩; have HU1 := hide hb1; obtain ⟨y0, y1, y2, y3⟩ := HX.out u1 (after hbr hb1); clear HCL hb1)
            | (go_at_call 127; refine (HLV.out u1 (after hbr HU1.out)).mono ?_; rintro e u2 ⟨v2, rfl, ho2, hb2⟩; obtain ⟨a2, c2, rfl⟩ := owns_shape ho2; have HU2 := hide (after HU1.out hb2); obtain ⟨z0, z1, z2, z3⟩ := HX.out u2 (after hbr HU2.out); clear HLV hb2 ho2))
          by_cases h3 : B < 0
          · rw [if_pos (.inl h3)] at HE
            have t3 : decide (B < 0) = true := by simpa using h3
            go_quiet (fail)
            go_wp2
            exact ⟨⟨k + 1, by omega, by go_num, by rw [HE.out], by rw [HE.out], after_drew (after hbr HU2.out) nq⟩, by simp [intOf]; omega⟩
          obtain ⟨Bn, rfl⟩ : ∃ Bn : Nat, B = Bn := ⟨B.toNat, by omega⟩
          have t3 : decide (((Bn : Nat) : Int) < 0) = false := by simp
          by_cases h4 : (L : Int) < F
          · rw [if_pos (.inr (.inl h4))] at HE
            have t4 : decide ((L : Int) < F) = true := by simpa using h4
            go_quiet (fail)
            go_wp2
            exact ⟨⟨k + 1, by omega, by go_num, by rw [HE.out], by rw [HE.out], after_drew (after hbr HU2.out) nq⟩, by simp [intOf]; omega⟩
          have t4 : decide ((L : Int) < F) = false := by simpa using h4
          by_cases h5 : (L : Int) = F
          · have hlen : ws.length = 10 := HCH.out.2.1
            have hw2 := HRD.out.2.1.below (after hbr HU2.out)
            obtain ⟨bb, ob, x, rfl, hcx, HXx⟩ := rdInt_at hw2 (show k < ws.length by omega)
            obtain ⟨bb', ob', y, hb', hcy, HXy⟩ := rdInt_at hw2 (show Bn < ws.length by omega)
            simp at hb'
            obtain ⟨rfl, rfl⟩ := hb'
            have t5 : ((L : Int) == F) = true := by simpa using h5
            have i1 : (k : Int) < (ws.length : Int) := by omega
            have i2 : ((Bn : Nat) : Int) < (ws.length : Int) := by omega
            have hex : ws[k]?.getD 0 = x := by rw [HXx.out]; rfl
            have hey : ws[((Bn : Nat) : Int).toNat]?.getD 0 = y := by rw [Int.toNat_natCast, HXy.out]; rfl
            clear hw2 hlen
            by_cases h6 : x < y
            · rw [if_pos (.inr (.inr ⟨h5, by rw [hex, hey]; exact h6⟩))] at HE
              have t6 : decide (x < y) = true := by simpa using h6
              clear hex hey
              go_quiet (fail)
              go_wp2
              exact ⟨⟨k + 1, by omega, by go_num, by rw [HE.out], by rw [HE.out], after_drew (after hbr HU2.out) nq⟩, by simp [intOf]; omega⟩
            · rw [if_neg (by rintro (h | h | ⟨_, h⟩); omega; omega; rw [hex, hey] at h; exact h6 h)] at HE
              have t6 : decide (x < y) = false := by simpa using h6
              clear hex hey
              go_quiet (fail)
              go_wp2
              exact ⟨⟨k + 1, by omega, by go_num, by rw [HE.out], by rw [HE.out], after_drew (after hbr HU2.out) nq⟩, by simp [intOf]; omega⟩
          · have t5 : ((L : Int) == F) = false := by simpa using h5
            rw [if_neg (by rintro (h | h | ⟨h, _⟩); omega; exact h4 h; exact h5 h)] at HE
            go_quiet (fail)
            go_wp2
            exact ⟨⟨k + 1, by omega, by go_num, by rw [HE.out], by rw [HE.out], after_drew (after hbr HU2.out) nq⟩, by simp [intOf]; omega⟩
    · obtain rfl : k = 10 := by omega
      obtain ⟨st, hst⟩ : ∃ st, st = worstU ps ws ms o 10 := ⟨_, rfl⟩
      rw [← hst] at q1 q2 q3 q4 HR ⊢
      obtain ⟨B, F⟩ := st
      simp only [] at q1 q2 q3 q4 HR ⊢
      clear hst
      have hbw := after hbA hbr
      by_cases h6 : F = 6
      · have HV : Hid (R = -1) := by show _ = _; rw [HR.out, if_pos h6]
        subst h6
        go_wp2
        go_ret
        exact ⟨by rw [HV.out]; rfl, hbw⟩
      · have HV : Hid (R = B) := by show _ = _; rw [HR.out, if_neg h6]
        have t1 : (F == 6) = false := by simpa using h6
        clear h6
        go_wp2
        go_ret
        exact ⟨by rw [HV.out]; rfl, hbw⟩

set_option maxHeartbeats 1600000 in
theorem specWorst_any (a b e0 : Option Addr) (ps : List ByteArray) (ws ms : List Int) (c d f : Nat) (q : Int) (w : World) (hp : Rd w a (vsString ps)) (hw : Rd w b (vsInt ws)) (hms : Rd w e0 (vsInt ms)) (hl : ps.length ≤ 1048576) (hm : ws.length ≤ 1048576) (hn : ms.length ≤ 1048576) (hs : ∀ s ∈ ps, s.size ≤ 1048576) :
    Calls Tryz.prog 102 #[.agg #[.slice a ps.length c, .slice b ws.length d, .slice e0 ms.length f, .int .i64 q]] w fun e w' => e = .returned (.int .i64 (worstOf ps ws ms q)) ∧ Below w.heap.size w w' := by
  cases hok : ftlOkB ps ws ms q with
  | true =>
    rw [worstOf, if_pos hok]
    exact specWorst_ok a b e0 ps ws ms c d f q w hp hw hms hok
  | false =>
    rw [worstOf, if_neg (by simp [hok])]
    obtain ⟨A, hA⟩ : ∃ A, A = w.alloc (Obj.cells #[.slice a ps.length c, .slice b ws.length d, .slice e0 ms.length f, .int .i64 q] 34) := ⟨_, rfl⟩
    have hbA : Below w.heap.size w A := by rw [hA]; exact (Below.refl _ _).alloc (Nat.le_refl _) _
    have HF := hide (specFtlOk_any a b e0 ps ws ms c d f q A (hp.below hbA) (hw.below hbA) (hms.below hbA) hl hm hn hs)
    rw [hok] at HF
    clear hp hw hms hs hok
    go_enter Tryz.func102, Tryz.ntmps102
    go_wp2_with fail
    rw [← hA]
    clear hA
    refine HF.out.mono ?_
    rintro e w1 ⟨rfl, hb1⟩
    have hbw1 := after hbA hb1
    clear HF hb1
    go_wp2
    go_ret
    exact ⟨rfl, hbw1⟩

end Go.Proofs.YtdicjbabnknjhaaGreat

namespace Go.Proofs.YtdicjbabnknjhaaGreat
open Go.RowKit
attribute [local go_sem ↓] Go.wp_at_zero Go.wp_at_succ

set_option maxHeartbeats 1600000 in
theorem implChipOk_any (a b : Option Addr) (ps : List ByteArray) (ws : List Int) (c d : Nat) (w : World) (hp : Rd w a (vsString ps)) (hw : Rd w b (vsInt ws)) (hl : ps.length ≤ 1048576) (hm : ws.length ≤ 1048576) (hs : ∀ s ∈ ps, s.size ≤ 1048576) :
    Calls Tryz.prog 86 #[.agg #[.slice a ps.length c, .slice b ws.length d]] w fun e w' => e = .returned (.bool (chipOkB ps ws)) ∧ Below w.heap.size w w' := by
  obtain ⟨X, hX⟩ : ∃ X, X = Obj.cells #[.slice a ps.length c, .slice b ws.length d] 32 := ⟨_, rfl⟩
  have hbW : Below w.heap.size w (w.alloc X) := (Below.refl _ _).alloc (Nat.le_refl _) _
  have hp' := hp.below hbW
  have hw' := hw.below hbW
  clear hp hw
  subst hX
  by_cases hn : ps.length = 60 ∧ ws.length = 10
  · have t1 : ((ps.length : Int) != 60) = false := by simp; omega
    have t2 : ((ws.length : Int) != 10) = false := by simp; omega
    have hn1 : ps.length ≤ 60 := by omega
    have HN : Hid (ps.length = 60 ∧ ws.length = 10) := hn
    clear hn
    go_enter Tryz.func86, Tryz.ntmps86
    go_wp2
    go_loop [20] (fun i => ∃ k : Nat, k ≤ ps.length ∧ i = .int .i64 k ∧ Hid (∀ s ∈ ps.take k, s.size ≤ 800)) (fun i => ps.length - (intOf i).toNat)
    case atStart => exact ⟨0, Nat.zero_le _, rfl, by show ∀ _, _; simp⟩
    case round =>
      obtain ⟨k, hk, rfl, hall⟩ := hrel
      by_cases hlt : k < ps.length
      · obtain ⟨b1, o1, x, rfl, hck, HX⟩ := rdString_at hp' hlt
        have hx := hs x (List.mem_of_getElem? HX.out)
        clear hp' hw'
        by_cases hbig : (800 : Int) < (x.size : Int)
        · have hf : Hid (chipOkB ps ws = false) := chipOkB_false (fun h => by have := h.2.2.1 x (List.mem_of_getElem? HX.out); omega)
          clear hs
          go_wp2
          go_ret
          exact ⟨ret_bool hf.out.symm, hbW⟩
        · have hall' : Hid (∀ s ∈ ps.take (k + 1), s.size ≤ 800) := by
            show ∀ _, _
            intro s hs'
            rw [List.take_add_one, HX.out] at hs'
            simp only [Option.toList_some, List.mem_append, List.mem_singleton] at hs'
            rcases hs' with h | rfl
            · exact hall.out s h
            · omega
          clear hs
          go_wp2
          go_round
          case rel => exact ⟨k + 1, by omega, by go_num, hall'⟩
          case measure => simp [intOf]; omega
      · have hall' : Hid (∀ s ∈ ps, s.size ≤ 800) := by
          have := hall.out
          rw [List.take_of_length_le (by omega)] at this
          exact this
        clear hs hp' hall
        go_wp2
        go_loop [31] (fun i => ∃ k : Nat, k ≤ ws.length ∧ i = .int .i64 k ∧ Hid (∀ x ∈ ws.take k, 0 ≤ x ∧ x ≤ 1000000000)) (fun i => ws.length - (intOf i).toNat)
        case atStart => exact ⟨0, Nat.zero_le _, rfl, by show ∀ _, _; simp⟩
        case round =>
          obtain ⟨j, hj, rfl, hallw⟩ := hrel
          by_cases hlj : j < ws.length
          · obtain ⟨b2, o2, x, rfl, hck, HX⟩ := rdInt_at hw' hlj
            clear hw'
            by_cases hin : 0 ≤ x ∧ x ≤ 1000000000
            · have hallw' : Hid (∀ y ∈ ws.take (j + 1), 0 ≤ y ∧ y ≤ 1000000000) := by
                show ∀ _, _
                intro s hs'
                rw [List.take_add_one, HX.out] at hs'
                simp only [Option.toList_some, List.mem_append, List.mem_singleton] at hs'
                rcases hs' with h | rfl
                · exact hallw.out s h
                · exact hin
              have q1 : ¬ x < 0 := by omega
              have q2 : ¬ 1000000000 < x := by omega
              clear hin
              go_wp2
              go_round
              case rel => exact ⟨j + 1, by omega, by go_num, hallw'⟩
              case measure => simp [intOf]; omega
            · have hf : Hid (chipOkB ps ws = false) := chipOkB_false (fun h => hin (h.2.2.2 x (List.mem_of_getElem? HX.out)))
              by_cases q1 : x < 0
              · clear hin
                go_wp2
                go_ret
                exact ⟨ret_bool hf.out.symm, hbW⟩
              · have q2 : 1000000000 < x := by omega
                clear hin
                go_wp2
                go_ret
                exact ⟨ret_bool hf.out.symm, hbW⟩
          · have ht : Hid (chipOkB ps ws = true) := chipOkB_true ⟨HN.out.1, HN.out.2, hall'.out, by
              have := hallw.out
              rw [List.take_of_length_le (by omega)] at this
              exact this⟩
            clear hw'
            go_wp2
            go_ret
            exact ⟨ret_bool ht.out.symm, hbW⟩
  · have hf : Hid (chipOkB ps ws = false) := chipOkB_false (fun h => hn ⟨h.1, h.2.1⟩)
    clear hp' hw' hs
    by_cases h60 : ps.length = 60
    · have t1 : ((ps.length : Int) != 60) = false := by simp; omega
      have t2 : ((ws.length : Int) != 10) = true := by simp; omega
      clear hn h60
      go_enter Tryz.func86, Tryz.ntmps86
      go_wp2
      go_ret
      exact ⟨ret_bool hf.out.symm, hbW⟩
    · have t1 : ((ps.length : Int) != 60) = true := by simp; omega
      clear hn h60
      go_enter Tryz.func86, Tryz.ntmps86
      go_wp2
      go_ret
      exact ⟨ret_bool hf.out.symm, hbW⟩

end Go.Proofs.YtdicjbabnknjhaaGreat
