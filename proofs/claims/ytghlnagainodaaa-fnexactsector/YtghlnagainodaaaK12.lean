/-
  Contract of the program's FtlOk; what the two FtlOks answer: the same.
  Contracts of the specification's l4Sector and Sector.
  Contract of the program's Sector; what the two Sectors answer: the same.
  Contracts of the specification's l4Clear, FreeBlocks.
-/
import Derived.Test.YtghlnagainodaaaK11
import Derived.Test.YtghlnagainodaaaK7
import Derived.Test.YtghlnagainodaaaK8
import Derived.Deep.RegionHeld
namespace Go.Proofs.Ytghlnagainodaaa
open Go.RowKit

set_option maxHeartbeats 3200000 in
theorem implFtlOk_any (a b e0 : Option Addr) (ps : List ByteArray) (ws ms : List Int) (c d f : Nat) (q : Int) (w : World) (hp : Rd w a (vsString ps)) (hw : Rd w b (vsInt ws)) (hms : Rd w e0 (vsInt ms)) (hl : ps.length ≤ 1048576) (hm : ws.length ≤ 1048576) (hn : ms.length ≤ 1048576) (hs : ∀ s ∈ ps, s.size ≤ 1048576) :
    Calls Try.prog 25 #[.agg #[.slice a ps.length c, .slice b ws.length d, .slice e0 ms.length f, .int .i64 q]] w fun e w' => e = .returned (.bool (ftlOkB ps ws ms q)) ∧ Below w.heap.size w w' := by
  obtain ⟨W, hW⟩ : ∃ W, W = w.alloc (Obj.cells #[.slice a ps.length c, .slice b ws.length d, .slice e0 ms.length f, .int .i64 q] 32) := ⟨_, rfl⟩
  have hbW : Below w.heap.size w W := by subst hW; exact (Below.refl _ _).alloc (Nat.le_refl _) _
  have cW : W.cell? ⟨w.heap.size, 0, none⟩ = some (.slice a ps.length c) ∧ W.cell? ⟨w.heap.size, 1, none⟩ = some (.slice b ws.length d) ∧ W.cell? ⟨w.heap.size, 2, none⟩ = some (.slice e0 ms.length f) ∧ W.cell? ⟨w.heap.size, 3, none⟩ = some (.int .i64 q) ∧ w.heap.size < W.heap.size := by
    subst hW; refine ⟨?_, ?_, ?_, ?_, ?_⟩ <;> simp
  obtain ⟨x0, x1, x2, x3, hsz⟩ := cW
  by_cases hok : chipOkP ps ws
  · have hB := chipOkB_true hok
    obtain ⟨R, hR⟩ : ∃ R, R = ftlOkB ps ws ms q := ⟨_, rfl⟩
    have HR : Hid (R = (decide (mMap ps = ms) && decide (mSeq ps = q))) := by show _ = _; rw [hR, ftlOkB, hB]; simp
    rw [← hR]
    clear hR
    go_enter Try.func25, Try.ntmps25
    go_wp2_with fail
    rw [← hW]
    clear hW
    refine (implMount_ok a b ps ws c d W (hp.below hbW) (hw.below hbW) hok).mono ?_
    rintro e w1 ⟨v, rfl, hown, hb1⟩
    obtain ⟨a1, c1, b1, d1, e1, g1, rfl, -, -, ho3⟩ := ftl_open hown
    obtain ⟨V, hV⟩ : ∃ V, V = w1.alloc (Obj.cells #[.slice a1 ps.length c1, .slice b1 ws.length d1, .slice e1 (mMap ps).length g1, .int .i64 (mSeq ps)] 32) := ⟨_, rfl⟩
    have hbV : Below w1.heap.size w1 V := by rw [hV]; exact (Below.refl _ _).alloc (Nat.le_refl _) _
    have hWV := after hb1 hbV
    have k0 := (hb1.cell (p := ⟨w.heap.size, 0, none⟩) hsz).trans x0
    have k1 := (hb1.cell (p := ⟨w.heap.size, 1, none⟩) hsz).trans x1
    have hlt1 : w.heap.size < w1.heap.size := Nat.lt_of_lt_of_le hsz hb1.size
    have hsV : w1.heap.size < V.heap.size := by rw [hV]; simp
    have z2 : V.cell? ⟨w1.heap.size, 2, none⟩ = some (.slice e1 (mMap ps).length g1) := by rw [hV]; simp
    have z3 : V.cell? ⟨w1.heap.size, 3, none⟩ = some (.int .i64 (mSeq ps)) := by rw [hV]; simp
    have HM := hide ((rd_of_own ho3).below hbV)
    have HF := hide ((hms.below hbW).below hWV)
    have HP := hide ((hp.below hbW).below hWV)
    have HW := hide ((hw.below hbW).below hWV)
    have hbwV := after hbW hWV
    have y2 := (hWV.cell (p := ⟨w.heap.size, 2, none⟩) hsz).trans x2
    have y3 := (hWV.cell (p := ⟨w.heap.size, 3, none⟩) hsz).trans x3
    clear hown ho3 hb1 hbV x0 x1 x2 x3 hp hw hms hbW hWV hok
    go_wp2_with fail
    rw [← hV]
    clear hV k0 k1
    refine (implChipOk_any a b ps ws c d V HP.out HW.out hl hm hs).mono ?_
    rw [hB]
    rintro e w2 ⟨rfl, hb2⟩
    have s2 := (hb2.cell (p := ⟨w1.heap.size, 2, none⟩) hsV).trans z2
    have s3 := (hb2.cell (p := ⟨w1.heap.size, 3, none⟩) hsV).trans z3
    have t2 := (hb2.cell (p := ⟨w.heap.size, 2, none⟩) (show w.heap.size < V.heap.size by omega)).trans y2
    have t3 := (hb2.cell (p := ⟨w.heap.size, 3, none⟩) (show w.heap.size < V.heap.size by omega)).trans y3
    have HM2 := hide (HM.out.below hb2)
    have HF2 := hide (HF.out.below hb2)
    have hbw2 := after hbwV hb2
    clear z2 z3 y2 y3 HM HF HP HW hb2 hbwV hB hs
    go_wp2_with fail
    refine (equalInt_any e0 e1 ms (mMap ps) f g1 w2 HF2.out HM2.out hn (by rw [mMap_len]; decide)).mono ?_
    obtain ⟨D, hD⟩ : ∃ D, D = decide (mMap ps = ms) := ⟨_, rfl⟩
    rw [show decide (ms = mMap ps) = decide (mMap ps = ms) from decide_eq_decide.2 ⟨Eq.symm, Eq.symm⟩, ← hD]
    rintro e u ⟨rfl, n, hu⟩
    have u2 : u.cell? ⟨w1.heap.size, 3, none⟩ = some (.int .i64 (mSeq ps)) := by rw [hu]; exact s3
    have u3 : u.cell? ⟨w.heap.size, 3, none⟩ = some (.int .i64 q) := by rw [hu]; exact t3
    have hbwu : Below w.heap.size w u := by rw [hu]; exact after_drew hbw2 n
    clear hu s2 s3 t2 t3 HM2 HF2 hbw2
    cases D with
    | false =>
      have HRF : Hid (R = false) := by show _ = _; rw [HR.out, ← hD]; rfl
      clear hD HR
      go_wp2
      go_ret
      exact ⟨ret_bool HRF.out.symm, hbwu⟩
    | true =>
      have HRF : Hid (R = (q == mSeq ps)) := by show _ = _; rw [HR.out, ← hD, Bool.true_and]; exact decide_eq_decide.2 ⟨Eq.symm, Eq.symm⟩
      clear hD HR
      go_wp2
      go_ret
      exact ⟨ret_bool HRF.out.symm, hbwu⟩
  · have hB := chipOkB_false hok
    have HR : Hid (ftlOkB ps ws ms q = false) := by show _ = _; rw [ftlOkB, hB]; rfl
    go_enter Try.func25, Try.ntmps25
    go_wp2_with fail
    rw [← hW]
    clear hW
    refine (implMount_bad a b ps ws c d W (hp.below hbW) (hw.below hbW) hl hm hs hok).mono ?_
    rintro e w1 ⟨v, rfl, hown, hb1⟩
    obtain ⟨a1, c1, b1, d1, e1, g1, rfl, -⟩ := ftl_open hown
    obtain ⟨V, hV⟩ : ∃ V, V = w1.alloc (Obj.cells #[.slice a1 ([] : List ByteArray).length c1, .slice b1 ([] : List Int).length d1, .slice e1 ([] : List Int).length g1, .int .i64 0] 32) := ⟨_, rfl⟩
    have hbV : Below w1.heap.size w1 V := by rw [hV]; exact (Below.refl _ _).alloc (Nat.le_refl _) _
    have hWV := after hb1 hbV
    have k0 := (hb1.cell (p := ⟨w.heap.size, 0, none⟩) hsz).trans x0
    have k1 := (hb1.cell (p := ⟨w.heap.size, 1, none⟩) hsz).trans x1
    have hlt1 : w.heap.size < w1.heap.size := Nat.lt_of_lt_of_le hsz hb1.size
    have HP := hide ((hp.below hbW).below hWV)
    have HW := hide ((hw.below hbW).below hWV)
    have hbwV := after hbW hWV
    clear hown hb1 hbV x0 x1 x2 x3 hp hw hms hbW hWV hok
    simp only [List.length_nil] at hV
    go_wp2_with fail
    rw [← hV]
    clear hV k0 k1
    refine (implChipOk_any a b ps ws c d V HP.out HW.out hl hm hs).mono ?_
    rw [hB]
    rintro e w2 ⟨rfl, hb2⟩
    have hbw2 := after hbwV hb2
    clear HP HW hb2 hB hs
    go_wp2
    go_ret
    exact ⟨ret_bool HR.out.symm, hbw2⟩

theorem fnExactFtlOk_both (ps : List ByteArray) (ws : List Int) (ms : List Int) (q : Int)  (hk0 : ps.length ≤ 1048576) (hk1 : ws.length ≤ 1048576) (hk2 : ms.length ≤ 1048576) (hs : ∀ s ∈ ps, s.size ≤ 1048576) (_hq : (Lit.int .i64 q).wf = true)  :
    ∃  (S0 : Bool), Hid (∀ (u : World) (v : Value), FtlRd u v ps ws ms q → Calls Try.prog 21 #[v] u fun e w' => e = .returned (.bool S0) ∧ Below u.heap.size u w') ∧ Hid (∀ (u : World) (v : Value), FtlRd u v ps ws ms q → Calls Try.prog 25 #[v] u fun e w' => e = .returned (.bool S0) ∧ Below u.heap.size u w') := by
  refine ⟨ftlOkB ps ws ms q, ?_, ?_⟩
  · rintro u v ⟨a, c, b, d, e, f, rfl, h1, h2, h3⟩
    exact specFtlOk_any a b e ps ws ms c d f q u h1 h2 h3 hk0 hk1 hk2 hs
  · rintro u v ⟨a, c, b, d, e, f, rfl, h1, h2, h3⟩
    exact implFtlOk_any a b e ps ws ms c d f q u h1 h2 h3 hk0 hk1 hk2 hs

end Go.Proofs.Ytghlnagainodaaa

namespace Go.Proofs.Ytghlnagainodaaa
open Go.RowKit

/-- What stands at a page: its record's data. -/
def dataAt (ps : List ByteArray) (m : Int) : ByteArray := if m < 0 then ByteArray.empty else (recC ps m.toNat).2.2

set_option maxHeartbeats 1600000 in
theorem specSec_none (p0 p1 : Value) (e0 : Option Addr) (ms : List Int) (f S : Nat) (q m : Int) (w : World) (hms : Rd w e0 (vsInt ms)) (hS : ms[S]? = some m) (_hS6 : S < 26) (hm : m < 0) :
    Calls Try.prog 22 #[.agg #[p0, p1, .slice e0 ms.length f, .int .i64 q], .int .i64 S] w fun e w' => e = .returned (.string ⟨#[]⟩) ∧ Below w.heap.size w w' := by
  have hlt : S < ms.length := by
    rcases Nat.lt_or_ge S ms.length with h' | h'
    · exact h'
    · simp [h'] at hS
  obtain ⟨A, hA⟩ : ∃ A, A = w.alloc (Obj.cells #[p0, p1, .slice e0 ms.length f, .int .i64 q] 32) := ⟨_, rfl⟩
  have hbA : Below w.heap.size w A := by rw [hA]; exact (Below.refl _ _).alloc (Nat.le_refl _) _
  have x2 : A.cell? ⟨w.heap.size, 2, none⟩ = some (.slice e0 ms.length f) := by rw [hA]; simp
  obtain ⟨ba, oa, x, rfl, hcx, HX⟩ := rdInt_at (hms.below hbA) hlt
  obtain rfl : x = m := by have := HX.out; rw [hS] at this; simpa using this.symm
  clear hms hS
  go_enter Try.func22, Try.ntmps22
  go_wp2_with (rw [← hA]; clear hA)
  go_ret
  exact ⟨rfl, hbA⟩

theorem set3_keep {w1 : World} {B x j : Nat} {v a b c : Value} (h : w1.cell? ⟨x, j, none⟩ = some v) (hne : B ≠ x) : (((w1.setCell ⟨B, 0, none⟩ a).setCell ⟨B, 1, none⟩ b).setCell ⟨B, 2, none⟩ c).cell? ⟨x, j, none⟩ = some v :=
  cell_other (cell_other (cell_other h hne) hne) hne
theorem sec_aux {A w1 : World} (hb : Below (A.alloc (Obj.cells #[.int .i64 0, .int .i64 0, .string ⟨#[]⟩] 58)).drew.heap.size (A.alloc (Obj.cells #[.int .i64 0, .int .i64 0, .string ⟨#[]⟩] 58)).drew w1) :
    Hid (Below A.heap.size A.drew w1) ∧ (w1.cell? ⟨A.heap.size, 0, none⟩ = some (.int .i64 0) ∧ w1.cell? ⟨A.heap.size, 1, none⟩ = some (.int .i64 0) ∧ w1.cell? ⟨A.heap.size, 2, none⟩ = some (.string ⟨#[]⟩)) ∧ ∀ j, w1.frozen? ⟨A.heap.size, j, none⟩ = false := by
  have hsz : (A.alloc (Obj.cells #[.int .i64 0, .int .i64 0, .string ⟨#[]⟩] 58)).drew.heap.size = A.heap.size + 1 := by simp
  refine ⟨(show Below A.heap.size A.drew (A.alloc (Obj.cells #[.int .i64 0, .int .i64 0, .string ⟨#[]⟩] 58)).drew from ?_).trans (hb.mono (by omega)), ⟨?_, ?_, ?_⟩, fun j => ?_⟩
  · have : Below A.heap.size A (A.alloc (Obj.cells #[.int .i64 0, .int .i64 0, .string ⟨#[]⟩] 58)) := (Below.refl _ A).alloc (Nat.le_refl _) _
    exact ⟨this.os, this.tape, this.output, this.size, this.block⟩
  · exact (hb.cell (p := ⟨A.heap.size, 0, none⟩) (by show A.heap.size < _; omega)).trans (by simp)
  · exact (hb.cell (p := ⟨A.heap.size, 1, none⟩) (by show A.heap.size < _; omega)).trans (by simp)
  · exact (hb.cell (p := ⟨A.heap.size, 2, none⟩) (by show A.heap.size < _; omega)).trans (by simp)
  · exact (hb.frozen (p := ⟨A.heap.size, j, none⟩) (by show A.heap.size < _; omega)).trans (by simp)

set_option maxRecDepth 100000 in
set_option maxHeartbeats 3200000 in
theorem specSec_some (a : Option Addr) (p1 : Value) (e0 : Option Addr) (ps : List ByteArray) (ms : List Int) (c f S p : Nat) (q : Int) (w : World) (hp : Rd w a (vsString ps)) (hms : Rd w e0 (vsInt ms)) (hS : ms[S]? = some (p : Int)) (_hS6 : S < 26) (hpl : p < ps.length) (_hl : ps.length ≤ 1048576) (hs : ∀ s ∈ ps, s.size ≤ 1048576) :
    Calls Try.prog 22 #[.agg #[.slice a ps.length c, p1, .slice e0 ms.length f, .int .i64 q], .int .i64 S] w fun e w' => e = .returned (.string (recC ps p).2.2) ∧ Below w.heap.size w w' := by
  have hlt : S < ms.length := by
    rcases Nat.lt_or_ge S ms.length with h' | h'
    · exact h'
    · simp [h'] at hS
  obtain ⟨A, hA⟩ : ∃ A, A = w.alloc (Obj.cells #[.slice a ps.length c, p1, .slice e0 ms.length f, .int .i64 q] 32) := ⟨_, rfl⟩
  have hbA : Below w.heap.size w A := by rw [hA]; exact (Below.refl _ _).alloc (Nat.le_refl _) _
  have x0 : A.cell? ⟨w.heap.size, 0, none⟩ = some (.slice a ps.length c) := by rw [hA]; simp
  have x2 : A.cell? ⟨w.heap.size, 2, none⟩ = some (.slice e0 ms.length f) := by rw [hA]; simp
  obtain ⟨ba, oa, x, rfl, hcx, HX⟩ := rdInt_at (hms.below hbA) hlt
  obtain rfl : x = (p : Int) := by have := HX.out; rw [hS] at this; simpa using this.symm
  obtain ⟨bp, op, t, rfl, hct, HT⟩ := rdString_at (hp.below hbA) hpl
  have ht : Hid (t.size ≤ 1048576) := hs t (List.mem_of_getElem? HT.out)
  have he : ps[p]?.getD ByteArray.empty = t := by rw [HT.out]; rfl
  obtain ⟨s, q', d, B, he2, hcall⟩ : ∃ (s q : Int) (d : ByteArray) (B : Bool), Hid (recC ps p = (s, q, d)) ∧ Hid (∀ u, Calls Try.prog 41 #[.string t] u fun e w' => e = .returned (.tuple #[.agg #[.int .i64 s, .int .i64 q, .string d], .bool B]) ∧ Below u.heap.size u w') := by
    cases hr : recR t with
    | none => exact ⟨0, 0, ByteArray.empty, false, recC_none (by rw [he]; exact hr), fun u => (specRecRead_any t u ht.out).mono fun e w' h => ⟨h.2.1 hr, h.2.2⟩⟩
    | some r => obtain ⟨s, q, d⟩ := r; exact ⟨s, q, d, true, recC_some (by rw [he]; exact hr), fun u => (specRecRead_any t u ht.out).mono fun e w' h => ⟨h.1 s q d hr, h.2.2⟩⟩
  have hn0 : ¬ ((p : Int) < 0) := by omega
  have hltA := lt_of_cell x0
  have hltx := lt_of_cell hcx
  have hltt := lt_of_cell hct
  have HK : Hid (∀ u, Below A.heap.size A.drew u → u.cell? ⟨w.heap.size, 0, none⟩ = some (.slice (some ⟨bp, op, none⟩) ps.length c) ∧ u.cell? ⟨w.heap.size, 2, none⟩ = some (.slice (some ⟨ba, oa, none⟩) ms.length f) ∧ u.cell? ⟨ba, oa + S, none⟩ = some (.int .i64 p) ∧ u.cell? ⟨bp, op + p, none⟩ = some (.string t)) := fun u hu =>
    ⟨(hu.cell (p := ⟨w.heap.size, 0, none⟩) hltA).trans (by simpa using x0), (hu.cell (p := ⟨w.heap.size, 2, none⟩) hltA).trans (by simpa using x2), (hu.cell (p := ⟨ba, oa + S, none⟩) hltx).trans (by simpa using hcx), (hu.cell (p := ⟨bp, op + p, none⟩) hltt).trans (by simpa using hct)⟩
  have m1 : A.heap.size ≠ w.heap.size := by omega
  have m2 : A.heap.size ≠ ba := by omega
  have m3 : A.heap.size ≠ bp := by omega
  have HB := hide hbA
  clear hms hS hp hs he hbA
  go_enter Try.func22, Try.ntmps22
  go_wp2_with (rw [← hA]; clear hA)
  go_region_held (fun w' => w'.cell? ⟨w.heap.size, 0, none⟩ = some (.slice (some ⟨bp, op, none⟩) ps.length c) ∧ w'.cell? ⟨w.heap.size, 2, none⟩ = some (.slice (some ⟨ba, oa, none⟩) ms.length f) ∧ w'.cell? ⟨ba, oa + S, none⟩ = some (.int .i64 p) ∧ w'.cell? ⟨bp, op + p, none⟩ = some (.string t)) (first | assumption | go_keep | exact ⟨set3_keep hK1.1 m1, set3_keep hK1.2.1 m1, set3_keep hK1.2.2.1 m2, set3_keep hK1.2.2.2 m3⟩)
    ((first
      | (go_at_call 41; refine (hcall.out (A.alloc (Obj.cells #[.int .i64 0, .int .i64 0, .string ⟨#[]⟩] 58)).drew).mono ?_; rintro e w1 ⟨rfl, hb1⟩; obtain ⟨HBA, ⟨n0, n1, n2⟩, nf⟩ := sec_aux hb1; have hK1 := HK.out w1 HBA.out; clear hb1)
      | (go_at_call 41; refine (hcall.out A.drew).mono ?_; rintro e w1 ⟨rfl, hb1⟩; have hK1 := HK.out w1 hb1; have HBA : Hid (Below A.heap.size A.drew w1) := hb1; clear hb1)))
  all_goals
    have HBW : Hid (Below w.heap.size w w1) := (after_drew HB.out 1).trans (HBA.out.mono HB.out.size)
    have HSZ := hide HB.out.size
    clear HBA HK hcall hK1
  · go_wp2
    go_ret
    exact ⟨by rw [he2.out]; rfl, HBW.out.alloc HBW.out.size _⟩
  · go_wp2
    go_ret
    exact ⟨by rw [he2.out]; rfl, ((HBW.out.setCell HSZ.out _).setCell HSZ.out _).setCell HSZ.out _⟩

/-- What sector s has, of what is right. -/
def sectOf (ps : List ByteArray) (ws ms : List Int) (q s : Int) : ByteArray := if ftlOkB ps ws ms q = true ∧ 0 ≤ s ∧ s ≤ 25 then dataAt ps ((mMap ps)[s.toNat]?.getD (-1)) else ByteArray.empty

theorem ftlOk_parts {ps : List ByteArray} {ws ms : List Int} {q : Int} (h : ftlOkB ps ws ms q = true) : chipOkP ps ws ∧ mMap ps = ms ∧ mSeq ps = q := by
  simp only [ftlOkB, Bool.and_eq_true, decide_eq_true_eq] at h
  exact ⟨chipOkB_iff.1 h.1.1, h.1.2, h.2⟩

set_option maxHeartbeats 1600000 in
theorem specSector_any (a b e0 : Option Addr) (ps : List ByteArray) (ws ms : List Int) (c d f : Nat) (q s : Int) (w : World) (hp : Rd w a (vsString ps)) (hw : Rd w b (vsInt ws)) (hms : Rd w e0 (vsInt ms)) (hl : ps.length ≤ 1048576) (hm : ws.length ≤ 1048576) (hn : ms.length ≤ 1048576) (hs : ∀ s ∈ ps, s.size ≤ 1048576) :
    Calls Try.prog 17 #[.agg #[.slice a ps.length c, .slice b ws.length d, .slice e0 ms.length f, .int .i64 q], .int .i64 s] w fun e w' => e = .returned (.string (sectOf ps ws ms q s)) ∧ Below w.heap.size w w' := by
  obtain ⟨R, hR⟩ : ∃ R, R = sectOf ps ws ms q s := ⟨_, rfl⟩
  rw [← hR]
  obtain ⟨A, hA⟩ : ∃ A, A = w.alloc (Obj.cells #[.slice a ps.length c, .slice b ws.length d, .slice e0 ms.length f, .int .i64 q] 32) := ⟨_, rfl⟩
  have hbA : Below w.heap.size w A := by rw [hA]; exact (Below.refl _ _).alloc (Nat.le_refl _) _
  have xA : At A w.heap.size [.slice a ps.length c, .slice b ws.length d, .slice e0 ms.length f, .int .i64 q] := by rw [hA]; exact at_new w [.slice a ps.length c, .slice b ws.length d, .slice e0 ms.length f, .int .i64 q] _
  have x0 : A.cell? ⟨w.heap.size, 0, none⟩ = some (.slice a ps.length c) := xA.2 0 (by simp)
  have x1 : A.cell? ⟨w.heap.size, 1, none⟩ = some (.slice b ws.length d) := xA.2 1 (by simp)
  have x2 : A.cell? ⟨w.heap.size, 2, none⟩ = some (.slice e0 ms.length f) := xA.2 2 (by simp)
  have x3 : A.cell? ⟨w.heap.size, 3, none⟩ = some (.int .i64 q) := xA.2 3 (by simp)
  by_cases hin : 0 ≤ s ∧ s ≤ 25
  · have hd : decide (0 ≤ s ∧ s ≤ 25) = true := by simpa using hin
    have HF := hide (specFtlOk_any a b e0 ps ws ms c d f q A (hp.below hbA) (hw.below hbA) (hms.below hbA) hl hm hn hs)
    cases hok : ftlOkB ps ws ms q with
    | false =>
      have HR : Hid (R = ByteArray.empty) := by show _ = _; rw [hR, sectOf, if_neg (by simp [hok])]
      rw [hok] at HF
      clear hR hp hw hms hs hok
      go_enter Try.func17, Try.ntmps17
      go_wp2_with (first | (go_at_call 36; refine (in_any _ _ _ _).mono ?_; rw [hd]; rintro e u ⟨rfl, hu⟩; have hu' := hu.symm; subst hu') | (rw [← hA]; clear hA) | (go_at_call 21; refine HF.out.mono ?_; rintro e w1 ⟨rfl, hb1⟩; have HB1 := hide hb1; clear hb1))
      go_ret
      exact ⟨by rw [HR.out]; rfl, after hbA HB1.out⟩
    | true =>
      obtain ⟨hch, rfl, rfl⟩ := ftlOk_parts hok
      obtain ⟨S, rfl⟩ : ∃ S : Nat, s = S := ⟨s.toNat, by omega⟩
      obtain ⟨o, ho, ho1, ho2⟩ := map_old (ps := ps) (k := 60) (s := S) (by omega)
      have ho' : (mMap ps)[S]? = some o := ho
      have HR : Hid (R = dataAt ps o) := by show _ = _; rw [hR, sectOf, if_pos ⟨hok, hin⟩, Int.toNat_natCast, ho']; rfl
      have HSC : Hid (∀ u, Below A.heap.size A u → Calls Try.prog 22 #[.agg #[.slice a ps.length c, .slice b ws.length d, .slice e0 (mMap ps).length f, .int .i64 (mSeq ps)], .int .i64 S] u fun e w' => e = .returned (.string (dataAt ps o)) ∧ Below u.heap.size u w') := by
        intro u hu
        have hbu := after hbA hu
        by_cases hneg : o < 0
        · rw [dataAt, if_pos hneg]
          exact specSec_none _ _ e0 (mMap ps) f S _ o u (hms.below hbu) ho' (by omega) hneg
        · obtain ⟨p, rfl⟩ : ∃ p : Nat, o = p := ⟨o.toNat, by omega⟩
          rw [dataAt, if_neg hneg, Int.toNat_natCast]
          exact specSec_some a _ e0 ps (mMap ps) c f S p _ u (hp.below hbu) (hms.below hbu) ho' (by omega) (by have := hch.1; omega) hl hs
      rw [hok] at HF
      clear hR hp hw hms hs hok ho ho' hch ho1 ho2 hin
      go_enter Try.func17, Try.ntmps17
      go_wp2_with (first | (go_at_call 36; refine (in_any _ _ _ _).mono ?_; rw [hd]; rintro e u ⟨rfl, hu⟩; have hu' := hu.symm; subst hu') | (rw [← hA]; clear hA) | (go_at_call 21; refine HF.out.mono ?_; rintro e w1 ⟨rfl, hb1⟩; have HB1 := hide hb1; have x0 : w1.cell? ⟨w.heap.size, 0, none⟩ = some (.slice a ps.length c) := (xA.below hb1).2 0 (by simp); have x1 : w1.cell? ⟨w.heap.size, 1, none⟩ = some (.slice b ws.length d) := (xA.below hb1).2 1 (by simp); have x2 : w1.cell? ⟨w.heap.size, 2, none⟩ = some (.slice e0 (mMap ps).length f) := (xA.below hb1).2 2 (by simp); have x3 : w1.cell? ⟨w.heap.size, 3, none⟩ = some (.int .i64 (mSeq ps)) := (xA.below hb1).2 3 (by simp); clear hb1) | (go_at_call 22; refine (HSC.out _ HB1.out).mono ?_; rintro e w2 ⟨rfl, hb2⟩; have HB2 := hide hb2; clear hb2))
      go_ret
      exact ⟨by rw [HR.out]; rfl, after (after hbA HB1.out) HB2.out⟩
  · have hd : decide (0 ≤ s ∧ s ≤ 25) = false := by simpa using hin
    have HR : Hid (R = ByteArray.empty) := by show _ = _; rw [hR, sectOf, if_neg (fun h => hin h.2)]
    clear hR hp hw hms hs hin
    go_enter Try.func17, Try.ntmps17
    go_wp2_with (first | (go_at_call 36; refine (in_any _ _ _ _).mono ?_; rw [hd]; rintro e u ⟨rfl, hu⟩; have hu' := hu.symm; subst hu') | (rw [← hA]; clear hA))
    go_ret
    exact ⟨by rw [HR.out]; rfl, hbA⟩

end Go.Proofs.Ytghlnagainodaaa

namespace Go.Proofs.Ytghlnagainodaaa
open Go.RowKit

theorem implRec_fn (ps : List ByteArray) (p : Nat) (t : ByteArray) (ht : ps[p]? = some t) (hs : t.size ≤ 1048576) : ∃ (s q : Int) (d : ByteArray) (B : Bool), recC ps p = (s, q, d) ∧ ∀ u, Calls Try.prog 47 #[.string t] u fun e w' => e = .returned (.tuple #[.agg #[.int .i64 s, .int .i64 q, .string d], .bool B]) ∧ Below u.heap.size u w' := by
  have he : ps[p]?.getD ByteArray.empty = t := by rw [ht]; rfl
  cases hr : recR t with
  | none => exact ⟨0, 0, ByteArray.empty, false, recC_none (by rw [he]; exact hr), fun u => (implRecRead_any t u hs).mono fun e w' h => ⟨h.2.1 hr, h.2.2⟩⟩
  | some r => obtain ⟨s, q, d⟩ := r; exact ⟨s, q, d, true, recC_some (by rw [he]; exact hr), fun u => (implRecRead_any t u hs).mono fun e w' h => ⟨h.1 s q d hr, h.2.2⟩⟩

/-- What sector s of a chip that is right has. -/
def secD (ps : List ByteArray) (s : Int) : ByteArray := if 0 ≤ s ∧ s ≤ 25 then dataAt ps ((mMap ps)[s.toNat]?.getD (-1)) else ByteArray.empty
theorem sectOf_eq {ps : List ByteArray} {ws ms : List Int} {q : Int} (s : Int) (h : ftlOkB ps ws ms q = true) : sectOf ps ws ms q s = secD ps s := by
  unfold sectOf secD
  simp [h]

set_option maxRecDepth 100000 in
set_option maxHeartbeats 3200000 in
theorem implSectorOf_any (a e0 : Option Addr) (p1 : Value) (ps : List ByteArray) (c f : Nat) (q s : Int) (w : World) (hp : Rd w a (vsString ps)) (hms : Rd w e0 (vsInt (mMap ps))) (hch : ps.length = 60) (hs : ∀ s ∈ ps, s.size ≤ 1048576) :
    Calls Try.prog 26 #[.agg #[.slice a ps.length c, p1, .slice e0 (mMap ps).length f, .int .i64 q], .int .i64 s] w fun e w' => e = .returned (.string (secD ps s)) ∧ Below w.heap.size w w' := by
  obtain ⟨R, hR⟩ : ∃ R, R = secD ps s := ⟨_, rfl⟩
  rw [← hR]
  obtain ⟨A, hA⟩ : ∃ A, A = w.alloc (Obj.cells #[.slice a ps.length c, p1, .slice e0 (mMap ps).length f, .int .i64 q] 32) := ⟨_, rfl⟩
  have hbA : Below w.heap.size w A := by rw [hA]; exact (Below.refl _ _).alloc (Nat.le_refl _) _
  have xA : At A w.heap.size [.slice a ps.length c, p1, .slice e0 (mMap ps).length f, .int .i64 q] := by rw [hA]; exact at_new w [.slice a ps.length c, p1, .slice e0 (mMap ps).length f, .int .i64 q] _
  have x0 : A.cell? ⟨w.heap.size, 0, none⟩ = some (.slice a ps.length c) := xA.2 0 (by simp)
  have x2 : A.cell? ⟨w.heap.size, 2, none⟩ = some (.slice e0 (mMap ps).length f) := xA.2 2 (by simp)
  obtain ⟨V, hV⟩ : ∃ V, V = A.alloc (Obj.cells #[.slice e0 (mMap ps).length f] 23) := ⟨_, rfl⟩
  have hbV : Below A.heap.size A V := by rw [hV]; exact (Below.refl _ _).alloc (Nat.le_refl _) _
  have cV : V.cell? ⟨A.heap.size, 0, none⟩ = some (.slice e0 (mMap ps).length f) := by rw [hV]; simp
  have hbwV := after hbA hbV
  have z0 := (hbV.cell (p := ⟨w.heap.size, 0, none⟩) (lt_of_cell x0)).trans x0
  have HPI := hide (placeIn_any e0 (mMap ps).length f A)
  rw [← hV] at HPI
  have HRV := hide (hms.below hbwV)
  have HPV := hide (hp.below hbwV)
  have HS := hide hs
  have HCH := hide hch
  have HR0 := hide hR
  clear hR hp hms hs hch xA hbV hV hbA
  go_enter Try.func26, Try.ntmps26
  go_wp2_with fail
  rw [← hA]
  clear hA
  refine HPI.out.mono ?_
  rintro e u ⟨rfl, hu⟩
  have hu' := hu.symm
  subst hu'
  clear HPI hu x0 x2
  by_cases hin : 0 ≤ s ∧ s ≤ 25
  · obtain ⟨S, rfl⟩ : ∃ S : Nat, s = S := ⟨s.toNat, by omega⟩
    obtain ⟨o, ho, ho1, ho2⟩ := map_old (ps := ps) (k := 60) (s := S) (by omega)
    have ho' : (mMap ps)[S]? = some o := ho
    have HR : Hid (R = dataAt ps o) := by show _ = _; rw [HR0.out, secD, if_pos hin, Int.toNat_natCast, ho']; rfl
    have HPL := hide (place_in A.heap.size e0 (mMap ps) f S o V cV HRV.out (by rw [mMap_len]; decide) ho')
    clear ho ho' HR0
    go_wp2_with fail
    refine HPL.out.mono ?_
    rintro e u ⟨rfl, hu⟩
    have hu' := hu.symm
    subst hu'
    clear HPL hu
    by_cases hneg : o = -1
    · have HR2 : Hid (R = ByteArray.empty) := by show _ = _; rw [HR.out, dataAt, if_pos (by omega)]
      subst hneg
      go_wp2
      go_ret
      exact ⟨by rw [HR2.out]; rfl, hbwV⟩
    · obtain ⟨p, rfl⟩ : ∃ p : Nat, o = p := ⟨o.toNat, by omega⟩
      have HR2 : Hid (R = (recC ps p).2.2) := by show _ = _; rw [HR.out, dataAt, if_neg (by omega), Int.toNat_natCast]
      have hp60 : p < ps.length := by have := HCH.out; omega
      have hpi : (p : Int) < (ps.length : Int) := by omega
      obtain ⟨bp, op, t, rfl, hct, HT⟩ := rdString_at HPV.out hp60
      obtain ⟨s1, q1, d1, B1, he1, hcall⟩ := implRec_fn ps p t HT.out (HS.out t (List.mem_of_getElem? HT.out))
      have HC := hide (hcall V)
      have HE := hide he1
      have ht : ((p : Int) == -1) = false := by simp
      clear hcall he1 hneg
      go_wp2_with fail
      refine HC.out.mono ?_
      rintro e w2 ⟨rfl, hb2⟩
      have hbw2 := after hbwV hb2
      clear hb2 HC z0 hct
      go_wp2
      go_ret
      exact ⟨by rw [HR2.out, HE.out]; rfl, hbw2.alloc hbw2.size _⟩
  · have HR : Hid (R = ByteArray.empty) := by show _ = _; rw [HR0.out, secD, if_neg hin]
    have HPL := hide (place_out A.heap.size e0 (mMap ps) f s V cV (by rw [mMap_len]; decide) (by rw [mMap_len]; omega))
    clear HR0
    go_wp2_with fail
    refine HPL.out.mono ?_
    rintro e u ⟨rfl, hu⟩
    have hu' := hu.symm
    subst hu'
    clear HPL hu hin
    go_wp2
    go_ret
    exact ⟨by rw [HR.out]; rfl, hbwV⟩

set_option maxRecDepth 100000 in
set_option maxHeartbeats 3200000 in
theorem implSector_any (a b e0 : Option Addr) (ps : List ByteArray) (ws ms : List Int) (c d f : Nat) (q s : Int) (w : World) (hp : Rd w a (vsString ps)) (hw : Rd w b (vsInt ws)) (hms : Rd w e0 (vsInt ms)) (hl : ps.length ≤ 1048576) (hm : ws.length ≤ 1048576) (hn : ms.length ≤ 1048576) (hs : ∀ s ∈ ps, s.size ≤ 1048576) :
    Calls Try.prog 18 #[.agg #[.slice a ps.length c, .slice b ws.length d, .slice e0 ms.length f, .int .i64 q], .int .i64 s] w fun e w' => e = .returned (.string (sectOf ps ws ms q s)) ∧ Below w.heap.size w w' := by
  obtain ⟨R, hR⟩ : ∃ R, R = sectOf ps ws ms q s := ⟨_, rfl⟩
  rw [← hR]
  obtain ⟨A, hA⟩ : ∃ A, A = w.alloc (Obj.cells #[.slice a ps.length c, .slice b ws.length d, .slice e0 ms.length f, .int .i64 q] 32) := ⟨_, rfl⟩
  have hbA : Below w.heap.size w A := by rw [hA]; exact (Below.refl _ _).alloc (Nat.le_refl _) _
  have xA : At A w.heap.size [.slice a ps.length c, .slice b ws.length d, .slice e0 ms.length f, .int .i64 q] := by rw [hA]; exact at_new w [.slice a ps.length c, .slice b ws.length d, .slice e0 ms.length f, .int .i64 q] _
  have x0 : A.cell? ⟨w.heap.size, 0, none⟩ = some (.slice a ps.length c) := xA.2 0 (by simp)
  have x1 : A.cell? ⟨w.heap.size, 1, none⟩ = some (.slice b ws.length d) := xA.2 1 (by simp)
  have x2 : A.cell? ⟨w.heap.size, 2, none⟩ = some (.slice e0 ms.length f) := xA.2 2 (by simp)
  have x3 : A.cell? ⟨w.heap.size, 3, none⟩ = some (.int .i64 q) := xA.2 3 (by simp)
  have HF := hide (implFtlOk_any a b e0 ps ws ms c d f q A (hp.below hbA) (hw.below hbA) (hms.below hbA) hl hm hn hs)
  cases hok : ftlOkB ps ws ms q with
  | false =>
    have HR : Hid (R = ByteArray.empty) := by show _ = _; rw [hR, sectOf, if_neg (by simp [hok])]
    rw [hok] at HF
    clear hR hp hw hms hs hok
    go_enter Try.func18, Try.ntmps18
    go_wp2_with (first | (rw [← hA]; clear hA) | (go_at_call 25; refine HF.out.mono ?_; rintro e w1 ⟨rfl, hb1⟩; have HB1 := hide hb1; clear hb1))
    go_ret
    exact ⟨by rw [HR.out]; rfl, after hbA HB1.out⟩
  | true =>
    have HR : Hid (R = secD ps s) := by show _ = _; rw [hR, sectOf_eq s hok]
    obtain ⟨hch, rfl, rfl⟩ := ftlOk_parts hok
    rw [hok] at HF
    have HSC : Hid (∀ u, Below A.heap.size A u → Calls Try.prog 26 #[.agg #[.slice a ps.length c, .slice b ws.length d, .slice e0 (mMap ps).length f, .int .i64 (mSeq ps)], .int .i64 s] u fun e w' => e = .returned (.string (secD ps s)) ∧ Below u.heap.size u w') := by
      intro u hu
      have hbu := after hbA hu
      exact implSectorOf_any a e0 _ ps c f _ s u (hp.below hbu) (hms.below hbu) hch.1 hs
    obtain ⟨D, hD⟩ : ∃ D, D = secD ps s := ⟨_, rfl⟩
    rw [← hD] at HR HSC
    clear hR hp hw hms hs hok hch hD
    go_enter Try.func18, Try.ntmps18
    go_wp2_with (first | (rw [← hA]; clear hA) | (go_at_call 25; refine HF.out.mono ?_; rintro e w1 ⟨rfl, hb1⟩; have HB1 := hide hb1; have x0 : w1.cell? ⟨w.heap.size, 0, none⟩ = some (.slice a ps.length c) := (xA.below hb1).2 0 (by simp); have x1 : w1.cell? ⟨w.heap.size, 1, none⟩ = some (.slice b ws.length d) := (xA.below hb1).2 1 (by simp); have x2 : w1.cell? ⟨w.heap.size, 2, none⟩ = some (.slice e0 (mMap ps).length f) := (xA.below hb1).2 2 (by simp); have x3 : w1.cell? ⟨w.heap.size, 3, none⟩ = some (.int .i64 (mSeq ps)) := (xA.below hb1).2 3 (by simp); clear hb1) | (go_at_call 26; refine (HSC.out _ HB1.out).mono ?_; rintro e w2 ⟨rfl, hb2⟩; have HB2 := hide hb2; clear hb2))
    go_ret
    exact ⟨by rw [HR.out]; rfl, after (after hbA HB1.out) HB2.out⟩

theorem fnExactSector_both (ps : List ByteArray) (ws : List Int) (ms : List Int) (q : Int) (sec : Int) (hk0 : ps.length ≤ 1048576) (hk1 : ws.length ≤ 1048576) (hk2 : ms.length ≤ 1048576) (hs : ∀ s ∈ ps, s.size ≤ 1048576) (_hq : (Lit.int .i64 q).wf = true) (_hsec : (Lit.int .i64 sec).wf = true) :
    ∃  (S0 : ByteArray), Hid (∀ (u : World) (v : Value), FtlRd u v ps ws ms q → Calls Try.prog 17 #[v, .int .i64 sec] u fun e w' => e = .returned (.string S0) ∧ Below u.heap.size u w') ∧ Hid (∀ (u : World) (v : Value), FtlRd u v ps ws ms q → Calls Try.prog 18 #[v, .int .i64 sec] u fun e w' => e = .returned (.string S0) ∧ Below u.heap.size u w') := by
  refine ⟨sectOf ps ws ms q sec, ?_, ?_⟩
  · rintro u v ⟨a, c, b, d, e, f, rfl, h1, h2, h3⟩
    exact specSector_any a b e ps ws ms c d f q sec u h1 h2 h3 hk0 hk1 hk2 hs
  · rintro u v ⟨a, c, b, d, e, f, rfl, h1, h2, h3⟩
    exact implSector_any a b e ps ws ms c d f q sec u h1 h2 h3 hk0 hk1 hk2 hs

end Go.Proofs.Ytghlnagainodaaa

namespace Go.Proofs.Ytghlnagainodaaa
open Go.RowKit

/-- Of the first i pages of a block: how many are clear, and how many clear ones stand at their end. -/
noncomputable def clr (ps : List ByteArray) (B : Nat) : Nat → Int × Int
  | 0 => (0, 0)
  | i + 1 => open Classical in if ps[B * 6 + i]?.getD ByteArray.empty = ByteArray.empty then ((clr ps B i).1 + 1, (clr ps B i).2 + 1) else ((clr ps B i).1, 0)
theorem clr_bd (ps : List ByteArray) (B i : Nat) : 0 ≤ (clr ps B i).1 ∧ (clr ps B i).1 ≤ i ∧ 0 ≤ (clr ps B i).2 ∧ (clr ps B i).2 ≤ i := by
  induction i with
  | zero => simp [clr]
  | succ i ih =>
    unfold clr
    split <;> simp only [] <;> omega

/-- The first blocks that are all clear. -/
noncomputable def freeB (ps : List ByteArray) : Nat → List Int
  | 0 => []
  | k + 1 => if (clr ps k 6).1 = 6 then freeB ps k ++ [(k : Int)] else freeB ps k
theorem freeB_len (ps : List ByteArray) (k : Nat) : (freeB ps k).length ≤ k := by
  induction k with
  | zero => simp [freeB]
  | succ k ih =>
    unfold freeB
    split
    · simp; omega
    · omega

end Go.Proofs.Ytghlnagainodaaa
