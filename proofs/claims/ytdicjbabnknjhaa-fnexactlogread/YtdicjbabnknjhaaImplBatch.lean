/-
  Contract of the program's isBatch.
-/
import Derived.Test.YtdicjbabnknjhaaLogMath
import Derived.Test.YtdicjbabnknjhaaPutKit
namespace Go.Proofs.Ytdicjbabnknjhaa
open Go.RowKit

open Classical in
noncomputable def inB (L : List (Int × ByteArray)) : Bool := decide (inP L)
theorem inB_yes {L : List (Int × ByteArray)} (h : inP L) : inB L = true := by simp [inB, h]
theorem inB_no {L : List (Int × ByteArray)} (h : ¬ inP L) : inB L = false := by simp [inB, h]
open Classical in
/-- Which sectors the first k puts are of. -/
noncomputable def metB (L : List (Int × ByteArray)) (k i : Nat) : Bool := decide (∃ j, j < k ∧ ∃ y, L[j]? = some y ∧ y.1 = (i : Int))
def MetAt (u : World) (p : Nat) (L : List (Int × ByteArray)) (k : Nat) : Prop := p < u.heap.size ∧ ∀ i, i < 24 → u.cell? ⟨p, i, none⟩ = some (.bool (metB L k i)) ∧ u.frozen? ⟨p, i, none⟩ = false
theorem MetAt.below {u u' : World} {p : Nat} {L : List (Int × ByteArray)} {k : Nat} (h : MetAt u p L k) (hb : Below u.heap.size u u') : MetAt u' p L k :=
  ⟨Nat.lt_of_lt_of_le h.1 hb.size, fun i hi => ⟨(hb.cell (p := ⟨p, i, none⟩) h.1).trans (h.2 i hi).1, (hb.frozen (p := ⟨p, i, none⟩) h.1).trans (h.2 i hi).2⟩⟩
theorem metB_zero (L : List (Int × ByteArray)) (i : Nat) : metB L 0 i = false := by simp [metB]
theorem metB_step {L : List (Int × ByteArray)} {k S : Nat} {x : Int × ByteArray} (h : L[k]? = some x) (hx : x.1 = (S : Int)) (i : Nat) : metB L (k + 1) i = if i = S then true else metB L k i := by
  unfold metB
  by_cases hi : i = S
  · rw [if_pos hi, decide_eq_true_iff]
    exact ⟨k, by omega, x, h, by rw [hx, hi]⟩
  · rw [if_neg hi]
    congr 1
    rw [eq_iff_iff]
    constructor
    · rintro ⟨j, hj, y, hy, he⟩
      refine ⟨j, ?_, y, hy, he⟩
      by_cases hjk : j = k
      · subst hjk; rw [h] at hy; cases hy; omega
      · omega
    · rintro ⟨j, hj, y, hy, he⟩
      exact ⟨j, by omega, y, hy, he⟩
theorem MetAt.step {u : World} {p k S : Nat} {L : List (Int × ByteArray)} {x : Int × ByteArray} (hm : MetAt u p L k) (h : L[k]? = some x) (hx : x.1 = (S : Int)) (hS : S < 24) : MetAt (u.setCell ⟨p, S, none⟩ (.bool true)) p L (k + 1) := by
  refine ⟨by simpa [World.setCell] using hm.1, fun i hi => ⟨?_, by simpa using (hm.2 i hi).2⟩⟩
  rw [metB_step h hx]
  by_cases he : i = S
  · subst he; rw [if_pos rfl]; exact World.cell?_setCell_same _ _ _ (hm.2 i hi).1
  · rw [if_neg he, World.cell?_setCell_other _ _ _ _ (by intro e; injection e with _ e1; exact he e1.symm)]
    exact (hm.2 i hi).1
theorem putIn_of {L : List (Int × ByteArray)} {k S : Nat} {x : Int × ByteArray} (h : L[k]? = some x) (hx : x.1 = (S : Int)) (hS : S < 24) (hm : metB L k S = false) : putInP L k := by
  refine ⟨x, h, by omega, fun j hj y hy he => ?_⟩
  unfold metB at hm
  rw [decide_eq_false_iff_not] at hm
  exact hm ⟨j, hj, y, hy, by rw [he, hx]⟩
theorem putIn_no {L : List (Int × ByteArray)} {k S : Nat} {x : Int × ByteArray} (h : L[k]? = some x) (hx : x.1 = (S : Int)) (hm : metB L k S = true) : ¬ putInP L k := by
  rintro ⟨y, hy, -, hd⟩
  rw [h] at hy; cases hy
  unfold metB at hm
  rw [decide_eq_true_iff] at hm
  obtain ⟨j, hj, z, hz, he⟩ := hm
  exact hd j hj z hz (by rw [he, hx])
theorem putIn_out {L : List (Int × ByteArray)} {k : Nat} {x : Int × ByteArray} (h : L[k]? = some x) (hx : ¬ (0 ≤ x.1 ∧ x.1 ≤ 23)) : ¬ putInP L k := by
  rintro ⟨y, hy, hb, -⟩
  rw [h] at hy; cases hy
  exact hx hb

set_option maxRecDepth 100000 in
set_option maxHeartbeats 3200000 in
theorem isBatch_any (la : Option Addr) (L : List (Int × ByteArray)) (lc : Nat) (w : World) (hr : Rd w la (vsPut L)) (hl : L.length ≤ 1048576) :
    Calls Try.prog 30 #[.slice la L.length lc] w fun e w' => e = .returned (.bool (inB L)) ∧ Below w.heap.size w w' := by
  obtain ⟨R, hR⟩ : ∃ R, R = inB L := ⟨_, rfl⟩
  rw [← hR]
  by_cases h3 : 3 < L.length
  · have HR : Hid (R = false) := by show _ = _; rw [hR, inB_no (fun h => by have := h.1; omega)]
    have hi : (3 : Int) < (L.length : Int) := by omega
    clear hR hr
    go_enter Try.func30, Try.ntmps30
    go_wp2
    go_ret
    exact ⟨ret_bool HR.out.symm, Below.refl _ _⟩
  · have hi : ¬ (3 : Int) < (L.length : Int) := by omega
    have HRY : Hid ((∀ k, k < L.length → putInP L k) → R = true) := fun h => by rw [hR, inB_yes ⟨by omega, h⟩]
    have HRN : Hid (∀ k, k < L.length → ¬ putInP L k → R = false) := fun k hk h => by rw [hR, inB_no (fun h' => h (h'.2 k hk))]
    have HL := hide hr
    clear hR hr
    go_enter Try.func30, Try.ntmps30
    go_wp2_with fail
    obtain ⟨W, hW⟩ : ∃ W, W = w.alloc (Obj.cells #[Value.bool false, Value.bool false, Value.bool false, Value.bool false, Value.bool false, Value.bool false, Value.bool false, Value.bool false, Value.bool false, Value.bool false, Value.bool false, Value.bool false, Value.bool false, Value.bool false, Value.bool false, Value.bool false, Value.bool false, Value.bool false, Value.bool false, Value.bool false, Value.bool false, Value.bool false, Value.bool false, Value.bool false] 77) := ⟨_, rfl⟩
    rw [← hW]
    have hbW : Below w.heap.size w W := by rw [hW]; exact (Below.refl _ _).alloc (Nat.le_refl _) _
    have hMW : MetAt W w.heap.size L 0 := by
      rw [hW]
      refine ⟨by simp, fun i hi => ⟨?_, by simp⟩⟩
      rw [metB_zero, World.cell?_alloc_new]
      have : i = 0 ∨ i = 1 ∨ i = 2 ∨ i = 3 ∨ i = 4 ∨ i = 5 ∨ i = 6 ∨ i = 7 ∨ i = 8 ∨ i = 9 ∨ i = 10 ∨ i = 11 ∨ i = 12 ∨ i = 13 ∨ i = 14 ∨ i = 15 ∨ i = 16 ∨ i = 17 ∨ i = 18 ∨ i = 19 ∨ i = 20 ∨ i = 21 ∨ i = 22 ∨ i = 23 := by omega
      rcases this with rfl | rfl | rfl | rfl | rfl | rfl | rfl | rfl | rfl | rfl | rfl | rfl | rfl | rfl | rfl | rfl | rfl | rfl | rfl | rfl | rfl | rfl | rfl | rfl <;> rfl
    have HMW := hide hMW
    have HBW := hide hbW
    clear hW hMW hbW
    generalize hP : w.heap.size = P at HMW ⊢
    have HP := hide hP
    clear hP
    go_loopw [11] (fun i wr => ∃ k : Nat, k ≤ L.length ∧ i = .int .i64 k ∧ Hid (∀ j, j < k → putInP L j) ∧ Hid (MetAt wr P L k) ∧ Hid (Below w.heap.size w wr)) (fun i _ => L.length - (intOf i).toNat)
    case atStart => exact ⟨0, Nat.zero_le _, rfl, fun j hj => by omega, HMW, HBW⟩
    case round =>
      obtain ⟨k, hk, rfl, hin, hmet, hbel⟩ := hrel
      clear HMW HBW
      by_cases hlt : k < L.length
      · obtain ⟨b1, o1, x, rfl, h0, h1, HX⟩ := rdPut_at (HL.out.below hbel.out) hlt
        obtain ⟨s, t⟩ := x
        have hki : (k : Int) < (L.length : Int) := by omega
        obtain ⟨V, hV⟩ : ∃ V, V = wr.alloc (Obj.cells #[.int .i64 s, .string t] 56) := ⟨_, rfl⟩
        have hbV : Below wr.heap.size wr V := by rw [hV]; exact (Below.refl _ _).alloc (Nat.le_refl _) _
        have c0 : V.cell? ⟨wr.heap.size, 0, none⟩ = some (.int .i64 s) := by rw [hV]; simp
        have HBV : Hid (Below w.heap.size w V) := after hbel.out hbV
        have HMV := hide (hmet.out.below hbV)
        clear hbV hmet hbel
        by_cases hs0 : s < 0
        · have HN : Hid (R = false) := HRN.out k hlt (putIn_out HX.out (by show ¬ (0 ≤ s ∧ s ≤ 23); omega))
          go_wp2_with (rw [← hV]; clear hV)
          go_ret
          exact ⟨ret_bool HN.out.symm, HBV.out⟩
        · by_cases hs1 : (24 : Int) ≤ s
          · have HN : Hid (R = false) := HRN.out k hlt (putIn_out HX.out (by show ¬ (0 ≤ s ∧ s ≤ 23); omega))
            go_wp2_with (rw [← hV]; clear hV)
            go_ret
            exact ⟨ret_bool HN.out.symm, HBV.out⟩
          · obtain ⟨S, rfl⟩ : ∃ S : Nat, s = S := ⟨s.toNat, by omega⟩
            have hS : S < 24 := by omega
            obtain ⟨d0, f0⟩ := HMV.out.2 S hS
            cases hm : metB L k S with
            | true =>
              rw [hm] at d0
              have HN : Hid (R = false) := HRN.out k hlt (putIn_no HX.out rfl hm)
              clear hm
              go_wp2_with (rw [← hV]; clear hV)
              go_ret
              exact ⟨ret_bool HN.out.symm, HBV.out⟩
            | false =>
              rw [hm] at d0
              have HY : Hid (∀ j, j < k + 1 → putInP L j) := fun j hj => by
                by_cases hjk : j = k
                · rw [hjk]; exact putIn_of HX.out rfl hS hm
                · exact hin.out j (by omega)
              have HM2 := hide (HMV.out.step HX.out rfl hS)
              have HB2 : Hid (Below w.heap.size w (V.setCell ⟨P, S, none⟩ (.bool true))) := HBV.out.setCell (by show _ ≤ P; rw [HP.out]; exact Nat.le_refl _) _
              clear hm
              go_wp2_with (rw [← hV]; clear hV)
              go_roundw
              case rel => exact ⟨k + 1, by omega, by go_num, HY, HM2, HB2⟩
              case measure => simp [intOf]; omega
      · have HY : Hid (R = true) := HRY.out (fun j hj => hin.out j (by omega))
        have hki : ¬ (k : Int) < (L.length : Int) := by omega
        go_wp2
        go_ret
        exact ⟨ret_bool HY.out.symm, hbel.out⟩
end Go.Proofs.Ytdicjbabnknjhaa
