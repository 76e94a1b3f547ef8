/-
  Contract of the specification's l4Next.
  Contract of the specification's l4Lives.
  Contracts of the specification's and the program's Lives; what the two answer: the same.
  Contract of the program's blocksOf: it tells each block of a chip that is right, with its pages, until it is told to stop.
-/
import Derived.Test.YtghadfbpcbcpiaaGreatK12
import Derived.WalkSmall
import Derived.Test.YtghadfbpcbcpiaaGreatK11
import Derived.Test.YtghadfbpcbcpiaaGreatK10
import Derived.RangeFuncBox
import Derived.RangeFuncLeaves
import Derived.Shelf.Abstract
import Derived.OwnWalkIn
import Derived.TacticsInMore
import Derived.LoopNIn
import Derived.LoopIn
import Derived.Maps.AppendAt
namespace Go.Proofs.YtghadfbpcbcpiaaGreat
open Go.RowKit

/-- The next page, from block b on, with the best free block so far. -/
noncomputable def nxt (ps : List ByteArray) (ws : List Int) : Nat → Nat → Int → Int
  | 0, _, best => if best < 0 then -1 else best * 6
  | f + 1, b, best =>
    if 0 < (clr ps b 6).1 ∧ (clr ps b 6).1 < 6 ∧ (clr ps b 6).2 = (clr ps b 6).1 then (b : Int) * 6 + 6 - (clr ps b 6).1
    else nxt ps ws f (b + 1) (if (clr ps b 6).1 = 6 ∧ (best < 0 ∨ ws[b]?.getD 0 < ws[best.toNat]?.getD 0) then (b : Int) else best)
noncomputable def nextP (ps : List ByteArray) (ws : List Int) : Int := nxt ps ws 10 0 (-1)
theorem nxt_here {ps : List ByteArray} {ws : List Int} {f b : Nat} {best N T : Int} (hN : N = (clr ps b 6).1) (hT : T = (clr ps b 6).2) (h : 0 < N ∧ N < 6 ∧ T = N) : nxt ps ws (f + 1) b best = (b : Int) * 6 + 6 - N := by
  subst hN hT; rw [nxt, if_pos h]
theorem nxt_take {ps : List ByteArray} {ws : List Int} {f b : Nat} {best N T : Int} (hN : N = (clr ps b 6).1) (hT : T = (clr ps b 6).2) (h : ¬ (0 < N ∧ N < 6 ∧ T = N)) (h2 : N = 6 ∧ (best < 0 ∨ ws[b]?.getD 0 < ws[best.toNat]?.getD 0)) : nxt ps ws (f + 1) b best = nxt ps ws f (b + 1) b := by
  subst hN hT; rw [nxt, if_neg h, if_pos h2]
theorem nxt_pass {ps : List ByteArray} {ws : List Int} {f b : Nat} {best N T : Int} (hN : N = (clr ps b 6).1) (hT : T = (clr ps b 6).2) (h : ¬ (0 < N ∧ N < 6 ∧ T = N)) (h2 : ¬ (N = 6 ∧ (best < 0 ∨ ws[b]?.getD 0 < ws[best.toNat]?.getD 0))) : nxt ps ws (f + 1) b best = nxt ps ws f (b + 1) best := by
  subst hN hT; rw [nxt, if_neg h, if_neg h2]

set_option maxRecDepth 100000 in
set_option maxHeartbeats 3200000 in
theorem next_any (a b : Option Addr) (ps : List ByteArray) (ws : List Int) (c d : Nat) (w : World) (hp : Rd w a (vsString ps)) (hw : Rd w b (vsInt ws)) (hl : ps.length = 60) (hm : ws.length = 10) :
    Calls Tryz.prog 45 #[.agg #[.slice a ps.length c, .slice b ws.length d]] w fun e w' => e = .returned (.int .i64 (nextP ps ws)) ∧ Below w.heap.size w w' := by
  obtain ⟨A, hA⟩ : ∃ A, A = w.alloc (Obj.cells #[.slice a ps.length c, .slice b ws.length d] 30) := ⟨_, rfl⟩
  have hbA : Below w.heap.size w A := by rw [hA]; exact (Below.refl _ _).alloc (Nat.le_refl _) _
  have hsA : w.heap.size < A.heap.size := by rw [hA]; simp
  have x0 : A.cell? ⟨w.heap.size, 0, none⟩ = some (.slice a ps.length c) := by rw [hA]; simp
  have x1 : A.cell? ⟨w.heap.size, 1, none⟩ = some (.slice b ws.length d) := by rw [hA]; simp
  have HP := hide (hp.below hbA)
  have HW := hide (hw.below hbA)
  have HL := hide (And.intro hl hm)
  have hl1 : 60 ≤ ps.length ∧ ps.length ≤ 60 := by omega
  have hm1 : 10 ≤ ws.length ∧ ws.length ≤ 10 := by omega
  clear hp hw hl hm
  obtain ⟨R, hR⟩ : ∃ R, R = nextP ps ws := ⟨_, rfl⟩
  rw [← hR]
  have HR0 : Hid (R = nxt ps ws (10 - 0) 0 (-1)) := hR
  clear hR
  go_enter Tryz.func45, Tryz.ntmps45
  go_wp2
  rw [← hA]
  clear hA
  go_loopw [3, 4] (fun v i wr => ∃ (k : Nat) (B : Int), k ≤ 10 ∧ i = .int .i64 k ∧ v = .int .i64 B ∧ -1 ≤ B ∧ B < k ∧ Hid (R = nxt ps ws (10 - k) k B) ∧ Below A.heap.size A wr) (fun _ i _ => 10 - (intOf i).toNat)
  case atStart => exact ⟨0, -1, Nat.zero_le _, rfl, rfl, by omega, by omega, HR0, Below.refl _ _⟩
  case round =>
    obtain ⟨k, B, hk, rfl, rfl, hB0, hB1, HR, hbr⟩ := hrel
    have c0 := (hbr.cell (p := ⟨w.heap.size, 0, none⟩) hsA).trans x0
    have c1 := (hbr.cell (p := ⟨w.heap.size, 1, none⟩) hsA).trans x1
    by_cases hlt : k < 10
    · have q1 : (k : Int) < 10 := by omega
      obtain ⟨f, hf⟩ : ∃ f, 10 - k = f + 1 := ⟨9 - k, by omega⟩
      have hf' : f = 10 - (k + 1) := by omega
      rw [hf] at HR
      clear hf
      go_wp2_with fail
      refine (clear_any a b ps ws c d k wr (HP.out.below hbr) HL.out.1 (by omega)).mono ?_
      obtain ⟨N, hN⟩ : ∃ N, N = (clr ps k 6).1 := ⟨_, rfl⟩
      obtain ⟨T, hT⟩ : ∃ T, T = (clr ps k 6).2 := ⟨_, rfl⟩
      have hbd := clr_bd ps k 6
      rw [← hN, ← hT] at hbd
      rw [← hN, ← hT]
      rintro e u ⟨rfl, hb⟩
      have hbu := after hbr hb
      have e0 := (hbu.cell (p := ⟨w.heap.size, 0, none⟩) hsA).trans x0
      have e1 := (hbu.cell (p := ⟨w.heap.size, 1, none⟩) hsA).trans x1
      have hru := HW.out.below hbu
      have HN := hide hN
      have HT := hide hT
      have HBU := hide hbu
      clear hN hT hb hbr hbu c0 c1
      have HFE := hide hf'
      clear hf'
      by_cases hhere : 0 < N ∧ N < 6 ∧ T = N
      · have HE : Hid (R = (k : Int) * 6 + 6 - N) := by show _ = _; rw [HR.out, nxt_here HN.out HT.out hhere]
        obtain ⟨h1, h2, h3⟩ := hhere
        have t3 : (T == N) = true := by simpa using h3
        clear hru h3
        go_wp2
        go_ret
        exact ⟨ret_int HE.out.symm, hbA.trans (HBU.out.mono (Nat.le_of_lt hsA))⟩
      · by_cases h1 : 0 < N
        · by_cases h2 : N < 6
          · have HE : Hid (R = nxt ps ws f (k + 1) B) := by show _ = _; rw [HR.out, nxt_pass HN.out HT.out hhere (by omega)]
            have t3 : (T == N) = false := by simp; omega
            have t6 : (N == 6) = false := by simp; omega
            clear hru hhere HR
            go_wp2_with fail
            go_quiet (fail)
            go_wp2
            go_roundw
            case rel => exact ⟨k + 1, _, by omega, by go_num, rfl, by omega, by omega, (by rw [← HFE.out]; exact HE), below_drewN HBU.out _⟩
            case measure => simp [intOf]; omega
          · obtain rfl : N = 6 := by omega
            by_cases hneg : B < 0
            · have HE : Hid (R = nxt ps ws f (k + 1) k) := by show _ = _; rw [HR.out, nxt_take HN.out HT.out hhere ⟨rfl, .inl hneg⟩]
              have t7 : decide (B < 0) = true := by simpa using hneg
              clear hru hhere HR hneg
              go_wp2_with fail
              go_quiet (fail)
              go_wp2
              go_roundw
              case rel => exact ⟨k + 1, _, by omega, by go_num, rfl, by omega, by omega, (by rw [← HFE.out]; exact HE), below_drewN HBU.out _⟩
              case measure => simp [intOf]; omega
            · obtain ⟨Q, rfl⟩ : ∃ Q : Nat, B = Q := ⟨B.toNat, by omega⟩
              have t7 : decide ((Q : Int) < 0) = false := by simp
              have hkl : k < ws.length := by omega
              have hQl : Q < ws.length := by omega
              obtain ⟨bb, ob, x, rfl, hcx, HX⟩ := rdInt_at hru hkl
              obtain ⟨b2, o2, y, hbe, hcy, HY⟩ := rdInt_at hru hQl
              simp at hbe
              obtain ⟨rfl, rfl⟩ := hbe
              have i1 : (0 : Int) ≤ (k : Int) := by omega
              have i2 : (k : Int) < (ws.length : Int) := by omega
              have i3 : (0 : Int) ≤ (Q : Int) := by omega
              have i4 : (Q : Int) < (ws.length : Int) := by omega
              by_cases hxy : x < y
              · have HE : Hid (R = nxt ps ws f (k + 1) k) := by
                  show _ = _; rw [HR.out, nxt_take HN.out HT.out hhere ⟨rfl, .inr (by rw [Int.toNat_natCast, HX.out, HY.out]; exact hxy)⟩]
                have t8 : decide (x < y) = true := by simpa using hxy
                clear hru hhere HR hneg hxy
                go_wp2_with fail
                go_quiet (fail)
                go_wp2
                go_roundw
                case rel => exact ⟨k + 1, _, by omega, by go_num, rfl, by omega, by omega, (by rw [← HFE.out]; exact HE), below_drewN HBU.out _⟩
                case measure => simp [intOf]; omega
              · have HE : Hid (R = nxt ps ws f (k + 1) Q) := by
                  show _ = _; rw [HR.out, nxt_pass HN.out HT.out hhere (by rintro ⟨_, h | h⟩
                                                                           · omega
                                                                           · rw [Int.toNat_natCast, HX.out, HY.out] at h; exact hxy h)]
                have t8 : decide (x < y) = false := by simpa using hxy
                clear hru hhere HR hneg hxy
                go_wp2_with fail
                go_quiet (fail)
                go_wp2
                go_roundw
                case rel => exact ⟨k + 1, _, by omega, by go_num, rfl, by omega, by omega, (by rw [← HFE.out]; exact HE), below_drewN HBU.out _⟩
                case measure => simp [intOf]; omega
        · have HE : Hid (R = nxt ps ws f (k + 1) B) := by show _ = _; rw [HR.out, nxt_pass HN.out HT.out hhere (by omega)]
          have t6 : (N == 6) = false := by simp; omega
          clear hru hhere HR
          go_wp2_with fail
          go_quiet (fail)
          go_wp2
          go_roundw
          case rel => exact ⟨k + 1, _, by omega, by go_num, rfl, by omega, by omega, (by rw [← HFE.out]; exact HE), below_drewN HBU.out _⟩
          case measure => simp [intOf]; omega
    · obtain rfl : k = 10 := by omega
      have q1 : ¬ ((10 : Nat) : Int) < 10 := by omega
      by_cases hneg : B < 0
      · have HE : Hid (R = -1) := by show _ = _; rw [HR.out]; simp [nxt, hneg]
        clear c0 c1
        go_wp2
        go_ret
        exact ⟨ret_int HE.out.symm, hbA.trans (hbr.mono (Nat.le_of_lt hsA))⟩
      · have HE : Hid (R = B * 6) := by show _ = _; rw [HR.out]; simp [nxt, hneg]
        clear c0 c1
        go_wp2
        go_ret
        exact ⟨ret_int HE.out.symm, hbA.trans (hbr.mono (Nat.le_of_lt hsA))⟩

end Go.Proofs.YtghadfbpcbcpiaaGreat

namespace Go.Proofs.YtghadfbpcbcpiaaGreat
open Go.RowKit

/-- The pages of the first i of a block that are in the map, as often as they are. -/
def livesU (ms : List Int) (B : Nat) : Nat → List Int
  | 0 => []
  | i + 1 => livesU ms B i ++ ms.filter (fun x => x == (B : Int) * 6 + i)
theorem livesU_len (ms : List Int) (B i : Nat) : (livesU ms B i).length ≤ i * ms.length := by
  induction i with
  | zero => simp [livesU]
  | succ i ih =>
    have := List.length_filter_le (fun x => x == (B : Int) * 6 + i) ms
    simp only [livesU, List.length_append, Nat.add_mul, Nat.one_mul]
    omega
/-- The same, and of the next page the first j sectors. -/
def livesJ (ms : List Int) (B i j : Nat) : List Int := livesU ms B i ++ (ms.take j).filter (fun x => x == (B : Int) * 6 + i)
theorem livesJ_zero (ms : List Int) (B i : Nat) : livesJ ms B i 0 = livesU ms B i := by simp [livesJ]
theorem livesJ_all {ms : List Int} {B i j : Nat} (h : ms.length ≤ j) : livesJ ms B i j = livesU ms B (i + 1) := by simp [livesJ, livesU, List.take_of_length_le h]
theorem livesJ_yes {ms : List Int} {B i j : Nat} {x : Int} (hx : ms[j]? = some x) (h : x = (B : Int) * 6 + i) : livesJ ms B i (j + 1) = livesJ ms B i j ++ [(B : Int) * 6 + i] := by
  simp [livesJ, List.take_add_one, hx, h, List.filter_append]
theorem livesJ_no {ms : List Int} {B i j : Nat} {x : Int} (hx : ms[j]? = some x) (h : ¬ x = (B : Int) * 6 + i) : livesJ ms B i (j + 1) = livesJ ms B i j := by
  simp [livesJ, List.take_add_one, hx, h, List.filter_append]
theorem livesJ_len (ms : List Int) (B i j : Nat) : (livesJ ms B i j).length ≤ (i + 1) * ms.length := by
  have h1 := livesU_len ms B i
  have h2 := List.length_filter_le (fun x => x == (B : Int) * 6 + i) (ms.take j)
  have h3 : (ms.take j).length ≤ ms.length := by simp; omega
  simp only [livesJ, List.length_append, Nat.add_mul, Nat.one_mul]
  omega

set_option maxRecDepth 100000 in
set_option maxHeartbeats 3200000 in
theorem lives_any (p0 p1 : Value) (e0 : Option Addr) (ms : List Int) (f B : Nat) (q : Int) (w : World) (hms : Rd w e0 (vsInt ms)) (hn : ms.length ≤ 1048576) (hB : B < 10) :
    Calls Tryz.prog 62 #[.agg #[p0, p1, .slice e0 ms.length f, .int .i64 q], .int .i64 B] w fun e w' => ∃ v, e = .returned v ∧ w'.ownsRow w.heap.size 3 1 v (livesU ms B 6).length (vsInt (livesU ms B 6)) ∧ Below w.heap.size w w' := by
  obtain ⟨i2, hi2, hz0, hz1, hz2⟩ := info_parts infoInt
  obtain ⟨A, hA⟩ : ∃ A, A = w.alloc (Obj.cells #[p0, p1, .slice e0 ms.length f, .int .i64 q] 32) := ⟨_, rfl⟩
  have hbA : Below w.heap.size w A := by rw [hA]; exact (Below.refl _ _).alloc (Nat.le_refl _) _
  have hsA : w.heap.size < A.heap.size := by rw [hA]; simp
  obtain ⟨n1, hn1⟩ : ∃ n1, n1 = A.heap.size := ⟨_, rfl⟩
  have hn1' : n1 = w.heap.size + 1 := by rw [hn1, hA]; simp
  obtain ⟨W, hW⟩ : ∃ W, W = A.alloc (Obj.cells #[] 3) := ⟨_, rfl⟩
  have hbW : Below A.heap.size A W := by rw [hW]; exact (Below.refl _ _).alloc (Nat.le_refl _) _
  have hW0 : W.ownsRow n1 3 1 (.slice (some ⟨n1, 0, none⟩) 0 0) 0 [] := by rw [hW, hn1]; exact World.ownsRow_made A #[] 0 (Nat.le_refl _) (Nat.zero_le _) rfl
  have x2 : A.cell? ⟨w.heap.size, 2, none⟩ = some (.slice e0 ms.length f) := by rw [hA]; simp
  have HM := hide (hms.below hbA)
  have HN1 := hide (And.intro hn1 hn1')
  clear hms hn1 hn1'
  go_enter Tryz.func62, Tryz.ntmps62
  go_wp2
  rw [← hA]
  rw [← hW]
  rw [← HN1.out.2]
  clear hA hW
  go_loopw [5, 6] (fun v i wr => ∃ k : Nat, k ≤ 6 ∧ i = .int .i64 k ∧ wr.ownsRow n1 3 1 v (livesU ms B k).length (vsInt (livesU ms B k)) ∧ Below n1 A wr) (fun _ i _ => 6 - (intOf i).toNat)
  case atStart => exact ⟨0, Nat.zero_le _, rfl, hW0, by rw [HN1.out.1]; exact hbW⟩
  case round =>
    obtain ⟨k, hk, rfl, hown, hbr⟩ := hrel
    by_cases hlt : k < 6
    · have q1 : (k : Int) < 6 := by omega
      clear hW0 hbW
      go_wp2
      go_loopw [5, 7] (fun v i wx => ∃ j : Nat, j ≤ ms.length ∧ i = .int .i64 j ∧ wx.ownsRow n1 3 1 v (livesJ ms B k j).length (vsInt (livesJ ms B k j)) ∧ Below n1 A wx) (fun _ i _ => ms.length - (intOf i).toNat)
      case atStart => exact ⟨0, Nat.zero_le _, rfl, by rw [livesJ_zero]; exact hown, hbr⟩
      case round =>
        obtain ⟨j, hj, rfl, hown, hbr⟩ := hrel
        have hbr' : Below A.heap.size A wr := by rw [← HN1.out.1]; exact hbr
        have c2 := (hbr'.cell (p := ⟨w.heap.size, 2, none⟩) hsA).trans x2
        have hsr : n1 ≤ wr.heap.size := by have := hbr'.size; have := HN1.out.1; omega
        by_cases hlj : j < ms.length
        · obtain ⟨ba, oa, x, rfl, hcx, HX⟩ := rdInt_at (HM.out.below hbr') hlj
          have hll := livesJ_len ms B k j
          have hl6 : (livesJ ms B k j).length ≤ 6291456 := by
            have : (k + 1) * ms.length ≤ 6 * 1048576 := Nat.mul_le_mul (by omega) hn
            omega
          clear hll
          by_cases hxp : x = (B : Int) * 6 + k
          · have HE : Hid (livesJ ms B k (j + 1) = livesJ ms B k j ++ [(B : Int) * 6 + k]) := livesJ_yes HX.out hxp
            have t1 : (x == (B : Int) * 6 + k) = true := by simpa using hxp
            clear hxp
            go_wp2_with (at_builtin; go_must (refine wpList_append_one rfl _ _ 23 rfl n1 3 i2 (.int .i64 0) 8 Tryz.underlying23 hi2 hz0 hz1 hz2 rfl _ _ _ (.int .i64 ((B : Int) * 6 + k)) rfl hown rfl rfl (by omega) (by omega) hsr rfl ?_); intro v' u3 hown' hb')
            go_roundw
            case rel => exact ⟨j + 1, by omega, by go_num, by rw [HE.out]; simpa using hown', hbr.trans hb'⟩
            case measure => simp [intOf]; omega
          · have HE : Hid (livesJ ms B k (j + 1) = livesJ ms B k j) := livesJ_no HX.out hxp
            have t1 : (x == (B : Int) * 6 + k) = false := by simpa using hxp
            clear hxp
            go_wp2
            go_roundw
            case rel => exact ⟨j + 1, by omega, by go_num, by rw [HE.out]; exact hown, hbr⟩
            case measure => simp [intOf]; omega
        · have HE : Hid (livesJ ms B k j = livesU ms B (k + 1)) := livesJ_all (by omega)
          have HOWN := hide hown
          clear hown
          go_wp2
          go_roundw
          case rel => exact ⟨k + 1, by omega, by go_num, by rw [← HE.out]; exact HOWN.out, hbr⟩
          case measure => simp [intOf]; omega
    · obtain rfl : k = 6 := by omega
      have q1 : ¬ ((6 : Nat) : Int) < 6 := by omega
      have hbr' : Below A.heap.size A wr := by rw [← HN1.out.1]; exact hbr
      have HOWN := hide hown
      clear hown
      go_wp2
      go_ret
      exact ⟨_, rfl, owns_mono HOWN.out (by have := HN1.out.2; omega), hbA.trans (hbr'.mono (Nat.le_of_lt hsA))⟩

end Go.Proofs.YtghadfbpcbcpiaaGreat

namespace Go.Proofs.YtghadfbpcbcpiaaGreat
open Go.RowKit

theorem filter_one {xs : List Int} {p : Int} (h : ∀ i j : Nat, xs[i]? = some p → xs[j]? = some p → i = j) : xs.filter (fun x => x == p) = if p ∈ xs then [p] else [] := by
  induction xs with
  | nil => simp
  | cons y ys ih =>
    by_cases hy : y = p
    · have hn : p ∉ ys := by
        intro hm
        obtain ⟨j, hj⟩ := List.mem_iff_getElem?.1 hm
        have := h 0 (j + 1) (by simp [hy]) (by simpa using hj)
        omega
      have hf : ys.filter (fun x => x == p) = [] := by
        rw [List.filter_eq_nil_iff]
        intro x hx he
        exact hn ((by simpa using he) ▸ hx)
      rw [List.filter_cons, if_pos (by simpa using hy), hf, if_pos (by simp [hy]), hy]
    · rw [List.filter_cons, if_neg (by simpa using hy), ih (fun i j hi hj => by have := h (i + 1) (j + 1) (by simpa using hi) (by simpa using hj); omega)]
      have : (p ∈ y :: ys) ↔ p ∈ ys := by simp [Ne.symm hy]
      simp only [this]

theorem map_one (ps : List ByteArray) (p : Nat) : ∀ i j : Nat, (mMap ps)[i]? = some (p : Int) → (mMap ps)[j]? = some (p : Int) → i = j := by
  intro i j hi hj
  have hb : ∀ s : Nat, (mMap ps)[s]? = some (p : Int) → ∃ q d, recR (ps[p]?.getD ByteArray.empty) = some ((s : Int), q, d) := by
    intro s hs
    have hlt : s < 26 := by
      have := mMap_len ps
      rcases Nat.lt_or_ge s 26 with h' | h'
      · exact h'
      · rw [List.getElem?_eq_none (by omega)] at hs; cases hs
    rcases mUpto_inv ps 60 s hlt with ⟨h1, -⟩ | ⟨p', q, d, -, h2, -, h4⟩
    · have h1' : (mMap ps)[s]? = some (-1) := h1
      rw [h1'] at hs; injection hs with hs; omega
    · have h2' : (mMap ps)[s]? = some (p' : Int) := h2
      rw [h2'] at hs; injection hs with hs
      have : p' = p := by omega
      subst this
      exact ⟨q, d, h4⟩
  obtain ⟨q, d, h1⟩ := hb i hi
  obtain ⟨q', d', h2⟩ := hb j hj
  rw [h1] at h2
  simp at h2
  omega

theorem lives_in {ps : List ByteArray} {B i : Nat} (h : (B : Int) * 6 + i ∈ mMap ps) : livesU (mMap ps) B (i + 1) = livesU (mMap ps) B i ++ [(B : Int) * 6 + i] := by
  have e : ((B * 6 + i : Nat) : Int) = (B : Int) * 6 + i := by omega
  have := filter_one (map_one ps (B * 6 + i))
  rw [e, if_pos h] at this
  rw [livesU, this]
theorem lives_out {ps : List ByteArray} {B i : Nat} (h : (B : Int) * 6 + i ∉ mMap ps) : livesU (mMap ps) B (i + 1) = livesU (mMap ps) B i := by
  have e : ((B * 6 + i : Nat) : Int) = (B : Int) * 6 + i := by omega
  have := filter_one (map_one ps (B * 6 + i))
  rw [e, if_neg h] at this
  rw [livesU, this, List.append_nil]

/-- Lives of whatever came in. -/
def livesOf (ps : List ByteArray) (ws ms : List Int) (q b : Int) : List Int := if ftlOkB ps ws ms q = true ∧ 0 ≤ b ∧ b ≤ 9 then livesU ms b.toNat 6 else []
theorem livesOf_len (ps : List ByteArray) (ws ms : List Int) (q b : Int) : (livesOf ps ws ms q b).length ≤ 1000 := by
  unfold livesOf
  split
  · rename_i h
    obtain ⟨-, rfl, -⟩ := ftlOk_parts h.1
    have := livesU_len (mMap ps) b.toNat 6
    rw [mMap_len] at this
    omega
  · simp

set_option maxRecDepth 100000 in
set_option maxHeartbeats 3200000 in
theorem livesIn_any (e0 : Option Addr) (ps : List ByteArray) (f B : Nat) (w : World) (hms : Rd w e0 (vsInt (mMap ps))) (hB10 : B < 10) :
    Calls Tryz.prog 76 #[.slice e0 (mMap ps).length f, .int .i64 B] w fun e w' => ∃ v, e = .returned v ∧ IntsOwn w' w.heap.size v (livesU (mMap ps) B 6) ∧ Below w.heap.size w w' := by
  obtain ⟨i2, hi2, hz0, hz1, hz2⟩ := info_parts infoInt
  have HMS := hide hms
  clear hms
  go_enter Tryz.func76, Tryz.ntmps76
  go_wp2
  go_loopw [5, 8] (fun v i wr => ∃ k : Nat, k ≤ 6 ∧ i = .int .i64 k ∧ wr.ownsRow w.heap.size 3 1 v (livesU (mMap ps) B k).length (vsInt (livesU (mMap ps) B k)) ∧ Below w.heap.size w wr) (fun _ i _ => 6 - (intOf i).toNat)
  case atStart => exact ⟨0, Nat.zero_le _, rfl, World.ownsRow_nil _ _ _ _, Below.refl _ _⟩
  case round =>
    obtain ⟨k, hk, rfl, hown, hbr⟩ := hrel
    have hsr := hbr.size
    by_cases hlt : k < 6
    · have hll : (livesU (mMap ps) B k).length ≤ 156 := by
        have := livesU_len (mMap ps) B k
        rw [mMap_len] at this
        omega
      have HC := hide (containsInt_any e0 (mMap ps) f ((B : Int) * 6 + k) wr (HMS.out.below hbr) (by rw [mMap_len]; decide))
      by_cases hmem : (B : Int) * 6 + k ∈ mMap ps
      · rw [show decide ((B : Int) * 6 + k ∈ mMap ps) = true by simpa using hmem] at HC
        have HE := hide (lives_in hmem)
        clear hmem
        go_wp2_with (first | (go_at_call 75; refine HC.out.mono ?_; rintro e u ⟨rfl, hu⟩; have hu' := hu.symm; subst hu'; clear HC hu) | (at_builtin; go_must (refine wpList_append_one rfl _ _ 23 rfl w.heap.size 3 i2 (.int .i64 0) 8 Tryz.underlying23 hi2 hz0 hz1 hz2 rfl _ _ _ (.int .i64 ((B : Int) * 6 + k)) rfl hown rfl rfl (by omega) (by omega) hsr rfl ?_); intro v' u3 hown' hb'))
        go_roundw
        case rel => exact ⟨k + 1, by omega, by go_num, by rw [HE.out]; simpa using hown', hbr.trans hb'⟩
        case measure => simp [intOf]; omega
      · rw [show decide ((B : Int) * 6 + k ∈ mMap ps) = false by simpa using hmem] at HC
        have HE := hide (lives_out hmem)
        have HOWN := hide hown
        clear hmem hown
        go_wp2_with (first | (go_at_call 75; refine HC.out.mono ?_; rintro e u ⟨rfl, hu⟩; have hu' := hu.symm; subst hu'; clear HC hu))
        go_roundw
        case rel => exact ⟨k + 1, by omega, by go_num, by rw [HE.out]; exact HOWN.out, hbr⟩
        case measure => simp [intOf]; omega
    · obtain rfl : k = 6 := by omega
      have HOWN := hide hown
      clear hown
      go_wp2
      go_ret
      exact ⟨_, rfl, HOWN.out, hbr⟩

end Go.Proofs.YtghadfbpcbcpiaaGreat

namespace Go.Proofs.YtghadfbpcbcpiaaGreat
open Go.RowKit Go.Shelf

attribute [local go_sem] Oper.semAt_some

/-- The first k blocks. -/
def blk (k : Nat) : List (Fin 10) := (List.finRange 10).take k
theorem blk_succ {k : Nat} (h : k < 10) : blk (k + 1) = blk k ++ [⟨k, h⟩] := by
  unfold blk
  rw [List.take_add_one]
  congr 1
  simp [h]
theorem blk_len {k : Nat} (h : k ≤ 10) : (blk k).length = k := by simp [blk]; omega

/-- What a round is handed: a block's number and its pages. -/
def encB (ba oa c : Nat) (x : Fin 10) : Array Value := #[.int .i64 ((x.val : Nat) : Int), .slice (some ⟨ba, oa + x.val * 6, none⟩) 6 (c - x.val * 6)]

/-- What a round keeps: what lay below n₀, and the block Bn. -/
def KpB (n₀ Bn : Nat) (W W' : World) : Prop := Below n₀ W W' ∧ W'.heap[Bn]? = W.heap[Bn]?
theorem KpB.refl (n₀ Bn : Nat) (W : World) : KpB n₀ Bn W W := ⟨Below.refl _ _, rfl⟩
theorem kpB_t {n₀ Bn : Nat} {A B C : World} (h : KpB n₀ Bn A B) (k : KpB n₀ Bn B C) : KpB n₀ Bn A C := ⟨h.1.trans k.1, k.2.trans h.2⟩
theorem kpB_b {n₀ Bn : Nat} {w : World} (hn : n₀ ≤ w.heap.size) (hB : Bn < w.heap.size) (W : World) (l : Nat) (o o' : Obj) (hl : w.heap.size ≤ l) (h : W.heap[l]? = some o) (h1 : o.isCells = false) (h2 : o.isWalk = false) : KpB n₀ Bn W (W.putObj l o') :=
  ⟨belowK_b hn W l o o' hl h h1 h2, World.putObj_heap_other (by omega)⟩

set_option maxHeartbeats 400000 in
theorem blocksOf_any (a b : Option Addr) (n m c d : Nat) (w : World) : Calls Tryz.prog 80 #[.agg #[.slice a n c, .slice b m d]] w fun e w' => e = .returned (.func (.func 98) #[] #[.pointer (some ⟨w.heap.size, 0, none⟩)]) ∧ w' = w.alloc (.cells #[.slice a n c, .slice b m d] 30) := by
  have hmf : ∀ (fn : Fn) (first cap : Array Value) (w : World), (Instr.makeFunc fn first cap).run Tryz.prog w = .ok (.func fn first cap) w := fun _ _ _ _ => rfl
  go_enter Tryz.func80, Tryz.ntmps80
  go_wp2
  go_ret
  exact ⟨rfl, rfl⟩

set_option maxRecDepth 100000 in
set_option maxHeartbeats 4000000 in
theorem blocks1_ok (n : Nat) (hn : 1 ≤ n) (l Bn n₀ ba oa : Nat) (b : Option Addr) (ps : List ByteArray) (ws : List Int) (c d : Nat) (J Jx : List (Fin 10) → World → Prop)
    (hY : ∀ pre x W, J pre W → pre.length < 10 → YieldAt Fence.wide (n - 1) Tryz.prog l (encB ba oa c x) W fun e W' =>
      (e = .returned (.bool true) ∧ J (pre ++ [x]) W' ∧ KpB n₀ Bn W W') ∨ (e = .returned (.bool false) ∧ Jx (pre ++ [x]) W'))
    (W : World) (hJ : AbidesFrom W.heap.size J) (hBn : W.heap[Bn]? = some (.cells #[.slice (some ⟨ba, oa, none⟩) ps.length c, .slice b ws.length d] 30 (0, 0)))
    (hp : Rd W (some ⟨ba, oa, none⟩) (vsString ps)) (hw : Rd W b (vsInt ws)) (hok : chipOkP ps ws) (hc : 60 ≤ c) (h0 : J [] W) :
    CallsIn Fence.wide n Tryz.prog 98 #[.func (.yield l) #[] #[], .pointer (some ⟨Bn, 0, none⟩)] W fun e W' => (∃ v, e = .returned v) ∧
      ((∃ ys, ys = blk 10 ∧ J ys W') ∨ (∃ pre, (∃ k, k ≤ 10 ∧ pre = blk k) ∧ Jx pre W')) := by
  have hlB : Bn < W.heap.size := (Array.getElem?_eq_some_iff.1 hBn).1
  have c0 : W.cell? ⟨Bn, 0, none⟩ = some (.slice (some ⟨ba, oa, none⟩) ps.length c) := by simp [World.cell?, hBn]
  have c1 : W.cell? ⟨Bn, 1, none⟩ = some (.slice b ws.length d) := by simp [World.cell?, hBn]
  have HB := hide hBn
  have HOK := hide (implChipOk_any (some ⟨ba, oa, none⟩) b ps ws c d W hp hw (by rw [hok.1]; decide) (by rw [hok.2.1]; decide) (fun s h => by have := hok.2.2.1 s h; omega))
  rw [chipOkB_true hok] at HOK
  have hl60 : 60 ≤ ps.length ∧ ps.length ≤ 60 := by have := hok.1; omega
  have HJ := hide hJ
  have H0 := hide h0
  clear hp hw hok hBn hJ h0
  refine callsIn_of_wp Tryz.func98 rfl trivial ?_ rfl
  simp only [Tryz.ntmps98, List.size_toArray, List.length_cons, List.length_nil, Nat.reduceAdd, Nat.reduceSub, Array.replicate_succ, Array.replicate_zero, List.push_toArray, List.append_toArray, List.nil_append, List.cons_append]
  gi_wp2_with (first | (refine ⟨trivial, ?_⟩; gi_at_call 67; refine (callsIn_wide.2 HOK.out).mono ?_; rintro e w1 ⟨rfl, hb1⟩) | (gi_at_call 67; refine (callsIn_wide.2 HOK.out).mono ?_; rintro e w1 ⟨rfl, hb1⟩))
  have HJ1 : Hid (J [] w1) := HJ.out [] W w1 none H0.out ⟨hb1.os, hb1.tape, hb1.output, hb1.size, fun i hi _ => hb1.block i hi⟩ (fun r e => by cases e)
  have HB1 : Hid (w1.heap[Bn]? = some (.cells #[.slice (some ⟨ba, oa, none⟩) ps.length c, .slice b ws.length d] 30 (0, 0))) := (hb1.block Bn hlB).trans HB.out
  clear HOK HJ H0 HB c0 c1 hb1
  gi_wp2
  gi_loopw [8] (fun i wr => ∃ k : Nat, k ≤ 10 ∧ i = .int .i64 k ∧ J (blk k) wr ∧ KpB n₀ Bn w1 wr) (fun i _ => 10 - (intOf i).toNat)
  case atStart => exact ⟨0, Nat.zero_le _, rfl, HJ1.out, KpB.refl _ _ _⟩
  case round =>
    obtain ⟨k, hk, rfl, hJs, hnx⟩ := hrel
    by_cases hlt : k < 10
    · obtain ⟨fn, tmps, assign, body, hy, hR⟩ := hY _ ⟨k, hlt⟩ wr hJs (by rw [blk_len hk]; exact hlt)
      have hB2 := hnx.2.trans HB1.out
      have d0 : wr.cell? ⟨Bn, 0, none⟩ = some (.slice (some ⟨ba, oa, none⟩) ps.length c) := by simp [World.cell?, hB2]
      have q1 : (k : Int) * 6 ≤ (k : Int) * 6 + 6 := by omega
      have q2 : (k : Int) * 6 + 6 ≤ (c : Int) := by omega
      have q3 : ¬ c = k * 6 := by omega
      simp only [encB] at hy
      have HJS := hide hJs
      clear hB2 hJs hY
      gi_wp2
      refine hR.mono ?_
      rintro e W3 (⟨rfl, hJ3, hk3⟩ | ⟨rfl, hJx3⟩)
      · gi_wp2
        go_roundw
        case rel => exact ⟨k + 1, by omega, by go_num, by rw [blk_succ hlt]; exact hJ3, kpB_t hnx hk3⟩
        case measure => simp [intOf]; omega
      · gi_wp2
        refine bodyPost_ret (results_none rfl _ _ _) rfl ?_
        exact ⟨⟨_, rfl⟩, .inr ⟨_, ⟨k + 1, by omega, (blk_succ hlt).symm⟩, hJx3⟩⟩
    · obtain rfl : k = 10 := by omega
      clear hY
      gi_wp2
      go_end0
      exact ⟨⟨_, rfl⟩, .inl ⟨_, rfl, hJs⟩⟩

set_option maxRecDepth 100000 in
set_option maxHeartbeats 4000000 in
theorem blocks1_bad (n : Nat) (hn : 1 ≤ n) (l Bn : Nat) (a b : Option Addr) (ps : List ByteArray) (ws : List Int) (c d : Nat) (J : List (Fin 10) → World → Prop)
    (W : World) (hJ : AbidesFrom W.heap.size J) (hBn : W.heap[Bn]? = some (.cells #[.slice a ps.length c, .slice b ws.length d] 30 (0, 0)))
    (hp : Rd W a (vsString ps)) (hw : Rd W b (vsInt ws)) (hl : ps.length ≤ 1048576) (hm : ws.length ≤ 1048576) (hs : ∀ s ∈ ps, s.size ≤ 1048576) (hok : ¬ chipOkP ps ws) (h0 : J [] W) :
    CallsIn Fence.wide n Tryz.prog 98 #[.func (.yield l) #[] #[], .pointer (some ⟨Bn, 0, none⟩)] W fun e W' => (∃ v, e = .returned v) ∧ J [] W' := by
  have c0 : W.cell? ⟨Bn, 0, none⟩ = some (.slice a ps.length c) := by simp [World.cell?, hBn]
  have c1 : W.cell? ⟨Bn, 1, none⟩ = some (.slice b ws.length d) := by simp [World.cell?, hBn]
  have HOK := hide (implChipOk_any a b ps ws c d W hp hw hl hm hs)
  rw [chipOkB_false hok] at HOK
  have HJ := hide hJ
  have H0 := hide h0
  clear hp hw hok hBn hJ h0 hs
  refine callsIn_of_wp Tryz.func98 rfl trivial ?_ rfl
  simp only [Tryz.ntmps98, List.size_toArray, List.length_cons, List.length_nil, Nat.reduceAdd, Nat.reduceSub, Array.replicate_succ, Array.replicate_zero, List.push_toArray, List.append_toArray, List.nil_append, List.cons_append]
  gi_wp2_with (first | (refine ⟨trivial, ?_⟩; gi_at_call 67; refine (callsIn_wide.2 HOK.out).mono ?_; rintro e w1 ⟨rfl, hb1⟩) | (gi_at_call 67; refine (callsIn_wide.2 HOK.out).mono ?_; rintro e w1 ⟨rfl, hb1⟩))
  have HJ1 : Hid (J [] w1) := HJ.out [] W w1 none H0.out ⟨hb1.os, hb1.tape, hb1.output, hb1.size, fun i hi _ => hb1.block i hi⟩ (fun r e => by cases e)
  clear HOK HJ H0 c0 c1 hb1
  gi_wp2
  refine bodyPost_ret (results_none rfl _ _ _) rfl ?_
  exact ⟨⟨_, rfl⟩, HJ1.out⟩

theorem blocks_stops (n : Nat) (hn : 1 ≤ n) (Bn n₀ ba oa : Nat) (b : Option Addr) (ps : List ByteArray) (ws : List Int) (c d : Nat) (w : World)
    (hBn : w.heap[Bn]? = some (.cells #[.slice (some ⟨ba, oa, none⟩) ps.length c, .slice b ws.length d] 30 (0, 0)))
    (hp : Rd w (some ⟨ba, oa, none⟩) (vsString ps)) (hw : Rd w b (vsInt ws)) (hok : chipOkP ps ws) (hc : 60 ≤ c) :
    SeqStopsK Fence.wide n Tryz.prog 98 #[.pointer (some ⟨Bn, 0, none⟩)] (encB ba oa c) (KpB n₀ Bn) (fun ys => ys = blk 10) (fun pre => ∃ k, k ≤ 10 ∧ pre = blk k) 10 w := fun l J Jx W hW hJ _ hY h0 =>
  blocks1_ok n hn l Bn n₀ ba oa b ps ws c d J Jx hY W hJ ((hW.block Bn (Array.getElem?_eq_some_iff.1 hBn).1).trans hBn) (hp.below hW) (hw.below hW) hok hc h0
theorem blocks_none (n : Nat) (hn : 1 ≤ n) (Bn n₀ ba oa : Nat) (a b : Option Addr) (ps : List ByteArray) (ws : List Int) (c d : Nat) (w : World)
    (hBn : w.heap[Bn]? = some (.cells #[.slice a ps.length c, .slice b ws.length d] 30 (0, 0)))
    (hp : Rd w a (vsString ps)) (hw : Rd w b (vsInt ws)) (hl : ps.length ≤ 1048576) (hm : ws.length ≤ 1048576) (hs : ∀ s ∈ ps, s.size ≤ 1048576) (hok : ¬ chipOkP ps ws) :
    SeqStopsK Fence.wide n Tryz.prog 98 #[.pointer (some ⟨Bn, 0, none⟩)] (encB ba oa c) (KpB n₀ Bn) (fun ys => ys = []) (fun _ => False) 0 w := fun l J _ W hW hJ _ _ h0 =>
  (blocks1_bad n hn l Bn a b ps ws c d J W hJ ((hW.block Bn (Array.getElem?_eq_some_iff.1 hBn).1).trans hBn) (hp.below hW) (hw.below hW) hl hm hs hok h0).mono fun _ _ h => ⟨h.1, .inl ⟨[], rfl, h.2⟩⟩

end Go.Proofs.YtghadfbpcbcpiaaGreat
