/-
  Contracts of the specification's l4Sector and Sector.
-/
import Derived.Test.YtdicjbabnknjhaaFtlMath
import Derived.Test.YtdicjbabnknjhaaSpecFtl
import Derived.Test.YtdicjbabnknjhaaLawKit
import Derived.Deep.RegionHeld
namespace Go.Proofs.Ytdicjbabnknjhaa
open Go.RowKit

/-- What stands at a page: its record's data. -/
def dataAt (ps : List ByteArray) (m : Int) : ByteArray := if m < 0 then ByteArray.empty else (recC ps m.toNat).2.2

set_option maxHeartbeats 1600000 in
theorem specSec_none (p0 p1 : Value) (e0 : Option Addr) (ms : List Int) (f S : Nat) (q m : Int) (w : World) (hms : Rd w e0 (vsInt ms)) (hS : ms[S]? = some m) (_hS6 : S < 26) (hm : m < 0) :
    Calls Try.prog 43 #[.agg #[p0, p1, .slice e0 ms.length f, .int .i64 q], .int .i64 S] w fun e w' => e = .returned (.string ⟨#[]⟩) ∧ Below w.heap.size w w' := by
  have hlt : S < ms.length := by
    rcases Nat.lt_or_ge S ms.length with h' | h'
    · exact h'
    · simp [h'] at hS
  obtain ⟨A, hA⟩ : ∃ A, A = w.alloc (Obj.cells #[p0, p1, .slice e0 ms.length f, .int .i64 q] 43) := ⟨_, rfl⟩
  have hbA : Below w.heap.size w A := by rw [hA]; exact (Below.refl _ _).alloc (Nat.le_refl _) _
  have x2 : A.cell? ⟨w.heap.size, 2, none⟩ = some (.slice e0 ms.length f) := by rw [hA]; simp
  obtain ⟨ba, oa, x, rfl, hcx, HX⟩ := rdInt_at (hms.below hbA) hlt
  obtain rfl : x = m := by have := HX.out; rw [hS] at this; simpa using this.symm
  clear hms hS
  go_enter Try.func43, Try.ntmps43
  go_wp2_with (rw [← hA]; clear hA)
  go_ret
  exact ⟨rfl, hbA⟩

theorem set3_keep {w1 : World} {B x j : Nat} {v a b c : Value} (h : w1.cell? ⟨x, j, none⟩ = some v) (hne : B ≠ x) : (((w1.setCell ⟨B, 0, none⟩ a).setCell ⟨B, 1, none⟩ b).setCell ⟨B, 2, none⟩ c).cell? ⟨x, j, none⟩ = some v :=
  cell_other (cell_other (cell_other h hne) hne) hne
theorem sec_aux {A w1 : World} (hb : Below (A.alloc (Obj.cells #[.int .i64 0, .int .i64 0, .string ⟨#[]⟩] 84)).drew.heap.size (A.alloc (Obj.cells #[.int .i64 0, .int .i64 0, .string ⟨#[]⟩] 84)).drew w1) :
    Hid (Below A.heap.size A.drew w1) ∧ (w1.cell? ⟨A.heap.size, 0, none⟩ = some (.int .i64 0) ∧ w1.cell? ⟨A.heap.size, 1, none⟩ = some (.int .i64 0) ∧ w1.cell? ⟨A.heap.size, 2, none⟩ = some (.string ⟨#[]⟩)) ∧ ∀ j, w1.frozen? ⟨A.heap.size, j, none⟩ = false := by
  have hsz : (A.alloc (Obj.cells #[.int .i64 0, .int .i64 0, .string ⟨#[]⟩] 84)).drew.heap.size = A.heap.size + 1 := by simp
  refine ⟨(show Below A.heap.size A.drew (A.alloc (Obj.cells #[.int .i64 0, .int .i64 0, .string ⟨#[]⟩] 84)).drew from ?_).trans (hb.mono (by omega)), ⟨?_, ?_, ?_⟩, fun j => ?_⟩
  · have : Below A.heap.size A (A.alloc (Obj.cells #[.int .i64 0, .int .i64 0, .string ⟨#[]⟩] 84)) := (Below.refl _ A).alloc (Nat.le_refl _) _
    exact ⟨this.os, this.tape, this.output, this.size, this.block⟩
  · exact (hb.cell (p := ⟨A.heap.size, 0, none⟩) (by show A.heap.size < _; omega)).trans (by simp)
  · exact (hb.cell (p := ⟨A.heap.size, 1, none⟩) (by show A.heap.size < _; omega)).trans (by simp)
  · exact (hb.cell (p := ⟨A.heap.size, 2, none⟩) (by show A.heap.size < _; omega)).trans (by simp)
  · exact (hb.frozen (p := ⟨A.heap.size, j, none⟩) (by show A.heap.size < _; omega)).trans (by simp)

set_option maxRecDepth 100000 in
set_option maxHeartbeats 3200000 in
theorem specSec_some (a : Option Addr) (p1 : Value) (e0 : Option Addr) (ps : List ByteArray) (ms : List Int) (c f S p : Nat) (q : Int) (w : World) (hp : Rd w a (vsString ps)) (hms : Rd w e0 (vsInt ms)) (hS : ms[S]? = some (p : Int)) (_hS6 : S < 26) (hpl : p < ps.length) (_hl : ps.length ≤ 1048576) (hs : ∀ s ∈ ps, s.size ≤ 1048576) :
    Calls Try.prog 43 #[.agg #[.slice a ps.length c, p1, .slice e0 ms.length f, .int .i64 q], .int .i64 S] w fun e w' => e = .returned (.string (recC ps p).2.2) ∧ Below w.heap.size w w' := by
  have hlt : S < ms.length := by
    rcases Nat.lt_or_ge S ms.length with h' | h'
    · exact h'
    · simp [h'] at hS
  obtain ⟨A, hA⟩ : ∃ A, A = w.alloc (Obj.cells #[.slice a ps.length c, p1, .slice e0 ms.length f, .int .i64 q] 43) := ⟨_, rfl⟩
  have hbA : Below w.heap.size w A := by rw [hA]; exact (Below.refl _ _).alloc (Nat.le_refl _) _
  have x0 : A.cell? ⟨w.heap.size, 0, none⟩ = some (.slice a ps.length c) := by rw [hA]; simp
  have x2 : A.cell? ⟨w.heap.size, 2, none⟩ = some (.slice e0 ms.length f) := by rw [hA]; simp
  obtain ⟨ba, oa, x, rfl, hcx, HX⟩ := rdInt_at (hms.below hbA) hlt
  obtain rfl : x = (p : Int) := by have := HX.out; rw [hS] at this; simpa using this.symm
  obtain ⟨bp, op, t, rfl, hct, HT⟩ := rdString_at (hp.below hbA) hpl
  have ht : Hid (t.size ≤ 1048576) := hs t (List.mem_of_getElem? HT.out)
  have he : ps[p]?.getD ByteArray.empty = t := by rw [HT.out]; rfl
  obtain ⟨s, q', d, B, he2, hcall⟩ : ∃ (s q : Int) (d : ByteArray) (B : Bool), Hid (recC ps p = (s, q, d)) ∧ Hid (∀ u, Calls Try.prog 59 #[.string t] u fun e w' => e = .returned (.tuple #[.agg #[.int .i64 s, .int .i64 q, .string d], .bool B]) ∧ Below u.heap.size u w') := by
    cases hr : recR t with
    | none => exact ⟨0, 0, ByteArray.empty, false, recC_none (by rw [he]; exact hr), fun u => (specRecRead_any t u ht.out).mono fun e w' h => ⟨h.2.1 hr, h.2.2⟩⟩
    | some r => obtain ⟨s, q, d⟩ := r; exact ⟨s, q, d, true, recC_some (by rw [he]; exact hr), fun u => (specRecRead_any t u ht.out).mono fun e w' h => ⟨h.1 s q d hr, h.2.2⟩⟩
  have hn0 : ¬ ((p : Int) < 0) := by omega
  have hltA := lt_of_cell x0
  have hltx := lt_of_cell hcx
  have hltt := lt_of_cell hct
  have HK : Hid (∀ u, Below A.heap.size A.drew u → u.cell? ⟨w.heap.size, 0, none⟩ = some (.slice (some ⟨bp, op, none⟩) ps.length c) ∧ u.cell? ⟨w.heap.size, 2, none⟩ = some (.slice (some ⟨ba, oa, none⟩) ms.length f) ∧ u.cell? ⟨ba, oa + S, none⟩ = some (.int .i64 p) ∧ u.cell? ⟨bp, op + p, none⟩ = some (.string t)) := fun u hu =>
    ⟨(hu.cell (p := ⟨w.heap.size, 0, none⟩) hltA).trans (by simpa using x0), (hu.cell (p := ⟨w.heap.size, 2, none⟩) hltA).trans (by simpa using x2), (hu.cell (p := ⟨ba, oa + S, none⟩) hltx).trans (by simpa using hcx), (hu.cell (p := ⟨bp, op + p, none⟩) hltt).trans (by simpa using hct)⟩
  have m1 : A.heap.size ≠ w.heap.size := by omega
  have m2 : A.heap.size ≠ ba := by omega
  have m3 : A.heap.size ≠ bp := by omega
  have HB := hide hbA
  clear hms hS hp hs he hbA
  go_enter Try.func43, Try.ntmps43
  go_wp2_with (rw [← hA]; clear hA)
  go_region_held (fun w' => w'.cell? ⟨w.heap.size, 0, none⟩ = some (.slice (some ⟨bp, op, none⟩) ps.length c) ∧ w'.cell? ⟨w.heap.size, 2, none⟩ = some (.slice (some ⟨ba, oa, none⟩) ms.length f) ∧ w'.cell? ⟨ba, oa + S, none⟩ = some (.int .i64 p) ∧ w'.cell? ⟨bp, op + p, none⟩ = some (.string t)) (first | assumption | go_keep | exact ⟨set3_keep hK1.1 m1, set3_keep hK1.2.1 m1, set3_keep hK1.2.2.1 m2, set3_keep hK1.2.2.2 m3⟩)
    ((first
      | (go_at_call 59; refine (hcall.out (A.alloc (Obj.cells #[.int .i64 0, .int .i64 0, .string ⟨#[]⟩] 84)).drew).mono ?_; rintro e w1 ⟨rfl, hb1⟩; obtain ⟨HBA, ⟨n0, n1, n2⟩, nf⟩ := sec_aux hb1; have hK1 := HK.out w1 HBA.out; clear hb1)
      | (go_at_call 59; refine (hcall.out A.drew).mono ?_; rintro e w1 ⟨rfl, hb1⟩; have hK1 := HK.out w1 hb1; have HBA : Hid (Below A.heap.size A.drew w1) := hb1; clear hb1)))
  all_goals
    have HBW : Hid (Below w.heap.size w w1) := (after_drew HB.out 1).trans (HBA.out.mono HB.out.size)
    have HSZ := hide HB.out.size
    clear HBA HK hcall hK1
  · go_wp2
    go_ret
    exact ⟨by rw [he2.out]; rfl, HBW.out.alloc HBW.out.size _⟩
  · go_wp2
    go_ret
    exact ⟨by rw [he2.out]; rfl, ((HBW.out.setCell HSZ.out _).setCell HSZ.out _).setCell HSZ.out _⟩

/-- What sector s has, of what is right. -/
def sectOf (ps : List ByteArray) (ws ms : List Int) (q s : Int) : ByteArray := if ftlOkB ps ws ms q = true ∧ 0 ≤ s ∧ s ≤ 25 then dataAt ps ((mMap ps)[s.toNat]?.getD (-1)) else ByteArray.empty

theorem ftlOk_parts {ps : List ByteArray} {ws ms : List Int} {q : Int} (h : ftlOkB ps ws ms q = true) : chipOkP ps ws ∧ mMap ps = ms ∧ mSeq ps = q := by
  simp only [ftlOkB, Bool.and_eq_true, decide_eq_true_eq] at h
  exact ⟨chipOkB_iff.1 h.1.1, h.1.2, h.2⟩

end Go.Proofs.Ytdicjbabnknjhaa
