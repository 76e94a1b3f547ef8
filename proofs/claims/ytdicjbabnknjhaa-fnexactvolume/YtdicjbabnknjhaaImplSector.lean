/-
  Contract of the program's Sector; what the two Sectors answer: the same.
-/
import Derived.Test.YtdicjbabnknjhaaSpecSector
import Derived.Test.YtdicjbabnknjhaaImplFtlOk
namespace Go.Proofs.Ytdicjbabnknjhaa
open Go.RowKit

theorem implRec_fn (ps : List ByteArray) (p : Nat) (t : ByteArray) (ht : ps[p]? = some t) (hs : t.size ≤ 1048576) : ∃ (s q : Int) (d : ByteArray) (B : Bool), recC ps p = (s, q, d) ∧ ∀ u, Calls Try.prog 65 #[.string t] u fun e w' => e = .returned (.tuple #[.agg #[.int .i64 s, .int .i64 q, .string d], .bool B]) ∧ Below u.heap.size u w' := by
  have he : ps[p]?.getD ByteArray.empty = t := by rw [ht]; rfl
  cases hr : recR t with
  | none => exact ⟨0, 0, ByteArray.empty, false, recC_none (by rw [he]; exact hr), fun u => (implRecRead_any t u hs).mono fun e w' h => ⟨h.2.1 hr, h.2.2⟩⟩
  | some r => obtain ⟨s, q, d⟩ := r; exact ⟨s, q, d, true, recC_some (by rw [he]; exact hr), fun u => (implRecRead_any t u hs).mono fun e w' h => ⟨h.1 s q d hr, h.2.2⟩⟩

/-- What sector s of a chip that is right has. -/
def secD (ps : List ByteArray) (s : Int) : ByteArray := if 0 ≤ s ∧ s ≤ 25 then dataAt ps ((mMap ps)[s.toNat]?.getD (-1)) else ByteArray.empty
theorem sectOf_eq {ps : List ByteArray} {ws ms : List Int} {q : Int} (s : Int) (h : ftlOkB ps ws ms q = true) : sectOf ps ws ms q s = secD ps s := by
  unfold sectOf secD
  simp [h]

set_option maxRecDepth 100000 in
set_option maxHeartbeats 3200000 in
theorem implSectorOf_any (a e0 : Option Addr) (p1 : Value) (ps : List ByteArray) (c f : Nat) (q s : Int) (w : World) (hp : Rd w a (vsString ps)) (hms : Rd w e0 (vsInt (mMap ps))) (hch : ps.length = 60) (hs : ∀ s ∈ ps, s.size ≤ 1048576) :
    Calls Try.prog 47 #[.agg #[.slice a ps.length c, p1, .slice e0 (mMap ps).length f, .int .i64 q], .int .i64 s] w fun e w' => e = .returned (.string (secD ps s)) ∧ Below w.heap.size w w' := by
  obtain ⟨R, hR⟩ : ∃ R, R = secD ps s := ⟨_, rfl⟩
  rw [← hR]
  obtain ⟨A, hA⟩ : ∃ A, A = w.alloc (Obj.cells #[.slice a ps.length c, p1, .slice e0 (mMap ps).length f, .int .i64 q] 43) := ⟨_, rfl⟩
  have hbA : Below w.heap.size w A := by rw [hA]; exact (Below.refl _ _).alloc (Nat.le_refl _) _
  have xA : At A w.heap.size [.slice a ps.length c, p1, .slice e0 (mMap ps).length f, .int .i64 q] := by rw [hA]; exact at_new w [.slice a ps.length c, p1, .slice e0 (mMap ps).length f, .int .i64 q] _
  have x0 : A.cell? ⟨w.heap.size, 0, none⟩ = some (.slice a ps.length c) := xA.2 0 (by simp)
  have x2 : A.cell? ⟨w.heap.size, 2, none⟩ = some (.slice e0 (mMap ps).length f) := xA.2 2 (by simp)
  obtain ⟨V, hV⟩ : ∃ V, V = A.alloc (Obj.cells #[.slice e0 (mMap ps).length f] 34) := ⟨_, rfl⟩
  have hbV : Below A.heap.size A V := by rw [hV]; exact (Below.refl _ _).alloc (Nat.le_refl _) _
  have cV : V.cell? ⟨A.heap.size, 0, none⟩ = some (.slice e0 (mMap ps).length f) := by rw [hV]; simp
  have hbwV := after hbA hbV
  have z0 := (hbV.cell (p := ⟨w.heap.size, 0, none⟩) (lt_of_cell x0)).trans x0
  have HPI := hide (placeIn_any e0 (mMap ps).length f A)
  rw [← hV] at HPI
  have HRV := hide (hms.below hbwV)
  have HPV := hide (hp.below hbwV)
  have HS := hide hs
  have HCH := hide hch
  have HR0 := hide hR
  clear hR hp hms hs hch xA hbV hV hbA
  go_enter Try.func47, Try.ntmps47
  go_wp2_with fail
  rw [← hA]
  clear hA
  refine HPI.out.mono ?_
  rintro e u ⟨rfl, hu⟩
  have hu' := hu.symm
  subst hu'
  clear HPI hu x0 x2
  by_cases hin : 0 ≤ s ∧ s ≤ 25
  · obtain ⟨S, rfl⟩ : ∃ S : Nat, s = S := ⟨s.toNat, by omega⟩
    obtain ⟨o, ho, ho1, ho2⟩ := map_old (ps := ps) (k := 60) (s := S) (by omega)
    have ho' : (mMap ps)[S]? = some o := ho
    have HR : Hid (R = dataAt ps o) := by show _ = _; rw [HR0.out, secD, if_pos hin, Int.toNat_natCast, ho']; rfl
    have HPL := hide (place_in A.heap.size e0 (mMap ps) f S o V cV HRV.out (by rw [mMap_len]; decide) ho')
    clear ho ho' HR0
    go_wp2_with fail
    refine HPL.out.mono ?_
    rintro e u ⟨rfl, hu⟩
    have hu' := hu.symm
    subst hu'
    clear HPL hu
    by_cases hneg : o = -1
    · have HR2 : Hid (R = ByteArray.empty) := by show _ = _; rw [HR.out, dataAt, if_pos (by omega)]
      subst hneg
      go_wp2
      go_ret
      exact ⟨by rw [HR2.out]; rfl, hbwV⟩
    · obtain ⟨p, rfl⟩ : ∃ p : Nat, o = p := ⟨o.toNat, by omega⟩
      have HR2 : Hid (R = (recC ps p).2.2) := by show _ = _; rw [HR.out, dataAt, if_neg (by omega), Int.toNat_natCast]
      have hp60 : p < ps.length := by have := HCH.out; omega
      have hpi : (p : Int) < (ps.length : Int) := by omega
      obtain ⟨bp, op, t, rfl, hct, HT⟩ := rdString_at HPV.out hp60
      obtain ⟨s1, q1, d1, B1, he1, hcall⟩ := implRec_fn ps p t HT.out (HS.out t (List.mem_of_getElem? HT.out))
      have HC := hide (hcall V)
      have HE := hide he1
      have ht : ((p : Int) == -1) = false := by simp
      clear hcall he1 hneg
      go_wp2_with fail
      refine HC.out.mono ?_
      rintro e w2 ⟨rfl, hb2⟩
      have hbw2 := after hbwV hb2
      clear hb2 HC z0 hct
      go_wp2
      go_ret
      exact ⟨by rw [HR2.out, HE.out]; rfl, hbw2.alloc hbw2.size _⟩
  · have HR : Hid (R = ByteArray.empty) := by show _ = _; rw [HR0.out, secD, if_neg hin]
    have HPL := hide (place_out A.heap.size e0 (mMap ps) f s V cV (by rw [mMap_len]; decide) (by rw [mMap_len]; omega))
    clear HR0
    go_wp2_with fail
    refine HPL.out.mono ?_
    rintro e u ⟨rfl, hu⟩
    have hu' := hu.symm
    subst hu'
    clear HPL hu hin
    go_wp2
    go_ret
    exact ⟨by rw [HR.out]; rfl, hbwV⟩

end Go.Proofs.Ytdicjbabnknjhaa
