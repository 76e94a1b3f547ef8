/-
  Contract of the specification's l4Next.
  Contract of the specification's l4Lives.
  What the laws' walks carry along: chips in variables of the law.
-/
import Derived.Test.YtelbannfbglgcaaJMounted10
import Derived.WalkSmall
import Derived.Test.YtelbannfbglgcaaJMounted8
namespace Go.Proofs.Ytelbannfbglgcaa
open Go.RowKit

/-- The next page, from block b on, with the best free block so far. -/
noncomputable def nxt (ps : List ByteArray) (ws : List Int) : Nat → Nat → Int → Int
  | 0, _, best => if best < 0 then -1 else best * 6
  | f + 1, b, best =>
    if 0 < (clr ps b 6).1 ∧ (clr ps b 6).1 < 6 ∧ (clr ps b 6).2 = (clr ps b 6).1 then (b : Int) * 6 + 6 - (clr ps b 6).1
    else nxt ps ws f (b + 1) (if (clr ps b 6).1 = 6 ∧ (best < 0 ∨ ws[b]?.getD 0 < ws[best.toNat]?.getD 0) then (b : Int) else best)
noncomputable def nextP (ps : List ByteArray) (ws : List Int) : Int := nxt ps ws 10 0 (-1)
theorem nxt_here {ps : List ByteArray} {ws : List Int} {f b : Nat} {best N T : Int} (hN : N = (clr ps b 6).1) (hT : T = (clr ps b 6).2) (h : 0 < N ∧ N < 6 ∧ T = N) : nxt ps ws (f + 1) b best = (b : Int) * 6 + 6 - N := by
  subst hN hT; rw [nxt, if_pos h]
theorem nxt_take {ps : List ByteArray} {ws : List Int} {f b : Nat} {best N T : Int} (hN : N = (clr ps b 6).1) (hT : T = (clr ps b 6).2) (h : ¬ (0 < N ∧ N < 6 ∧ T = N)) (h2 : N = 6 ∧ (best < 0 ∨ ws[b]?.getD 0 < ws[best.toNat]?.getD 0)) : nxt ps ws (f + 1) b best = nxt ps ws f (b + 1) b := by
  subst hN hT; rw [nxt, if_neg h, if_pos h2]
theorem nxt_pass {ps : List ByteArray} {ws : List Int} {f b : Nat} {best N T : Int} (hN : N = (clr ps b 6).1) (hT : T = (clr ps b 6).2) (h : ¬ (0 < N ∧ N < 6 ∧ T = N)) (h2 : ¬ (N = 6 ∧ (best < 0 ∨ ws[b]?.getD 0 < ws[best.toNat]?.getD 0))) : nxt ps ws (f + 1) b best = nxt ps ws f (b + 1) best := by
  subst hN hT; rw [nxt, if_neg h, if_neg h2]

set_option maxRecDepth 100000 in
set_option maxHeartbeats 3200000 in
theorem next_any (a b : Option Addr) (ps : List ByteArray) (ws : List Int) (c d : Nat) (w : World) (hp : Rd w a (vsString ps)) (hw : Rd w b (vsInt ws)) (hl : ps.length = 60) (hm : ws.length = 10) :
    Calls Try.prog 87 #[.agg #[.slice a ps.length c, .slice b ws.length d]] w fun e w' => e = .returned (.int .i64 (nextP ps ws)) ∧ Below w.heap.size w w' := by
  obtain ⟨A, hA⟩ : ∃ A, A = w.alloc (Obj.cells #[.slice a ps.length c, .slice b ws.length d] 27) := ⟨_, rfl⟩
  have hbA : Below w.heap.size w A := by rw [hA]; exact (Below.refl _ _).alloc (Nat.le_refl _) _
  have hsA : w.heap.size < A.heap.size := by rw [hA]; simp
  have x0 : A.cell? ⟨w.heap.size, 0, none⟩ = some (.slice a ps.length c) := by rw [hA]; simp
  have x1 : A.cell? ⟨w.heap.size, 1, none⟩ = some (.slice b ws.length d) := by rw [hA]; simp
  have HP := hide (hp.below hbA)
  have HW := hide (hw.below hbA)
  have HL := hide (And.intro hl hm)
  have hl1 : 60 ≤ ps.length ∧ ps.length ≤ 60 := by omega
  have hm1 : 10 ≤ ws.length ∧ ws.length ≤ 10 := by omega
  clear hp hw hl hm
  obtain ⟨R, hR⟩ : ∃ R, R = nextP ps ws := ⟨_, rfl⟩
  rw [← hR]
  have HR0 : Hid (R = nxt ps ws (10 - 0) 0 (-1)) := hR
  clear hR
  go_enter Try.func87, Try.ntmps87
  go_wp2
  rw [← hA]
  clear hA
  go_loopw [3, 4] (fun v i wr => ∃ (k : Nat) (B : Int), k ≤ 10 ∧ i = .int .i64 k ∧ v = .int .i64 B ∧ -1 ≤ B ∧ B < k ∧ Hid (R = nxt ps ws (10 - k) k B) ∧ Below A.heap.size A wr) (fun _ i _ => 10 - (intOf i).toNat)
  case atStart => exact ⟨0, -1, Nat.zero_le _, rfl, rfl, by omega, by omega, HR0, Below.refl _ _⟩
  case round =>
    obtain ⟨k, B, hk, rfl, rfl, hB0, hB1, HR, hbr⟩ := hrel
    have c0 := (hbr.cell (p := ⟨w.heap.size, 0, none⟩) hsA).trans x0
    have c1 := (hbr.cell (p := ⟨w.heap.size, 1, none⟩) hsA).trans x1
    by_cases hlt : k < 10
    · have q1 : (k : Int) < 10 := by omega
      obtain ⟨f, hf⟩ : ∃ f, 10 - k = f + 1 := ⟨9 - k, by omega⟩
      have hf' : f = 10 - (k + 1) := by omega
      rw [hf] at HR
      clear hf
      go_wp2_with fail
      refine (clear_any a b ps ws c d k wr (HP.out.below hbr) HL.out.1 (by omega)).mono ?_
      obtain ⟨N, hN⟩ : ∃ N, N = (clr ps k 6).1 := ⟨_, rfl⟩
      obtain ⟨T, hT⟩ : ∃ T, T = (clr ps k 6).2 := ⟨_, rfl⟩
      have hbd := clr_bd ps k 6
      rw [← hN, ← hT] at hbd
      rw [← hN, ← hT]
      rintro e u ⟨rfl, hb⟩
      have hbu := after hbr hb
      have e0 := (hbu.cell (p := ⟨w.heap.size, 0, none⟩) hsA).trans x0
      have e1 := (hbu.cell (p := ⟨w.heap.size, 1, none⟩) hsA).trans x1
      have hru := HW.out.below hbu
      have HN := hide hN
      have HT := hide hT
      have HBU := hide hbu
      clear hN hT hb hbr hbu c0 c1
      have HFE := hide hf'
      clear hf'
      by_cases hhere : 0 < N ∧ N < 6 ∧ T = N
      · have HE : Hid (R = (k : Int) * 6 + 6 - N) := by show _ = _; rw [HR.out, nxt_here HN.out HT.out hhere]
        obtain ⟨h1, h2, h3⟩ := hhere
        have t3 : (T == N) = true := by simpa using h3
        clear hru h3
        go_wp2
        go_ret
        exact ⟨ret_int HE.out.symm, hbA.trans (HBU.out.mono (Nat.le_of_lt hsA))⟩
      · by_cases h1 : 0 < N
        · by_cases h2 : N < 6
          · have HE : Hid (R = nxt ps ws f (k + 1) B) := by show _ = _; rw [HR.out, nxt_pass HN.out HT.out hhere (by omega)]
            have t3 : (T == N) = false := by simp; omega
            have t6 : (N == 6) = false := by simp; omega
            clear hru hhere HR
            go_wp2_with fail
            go_quiet (fail)
            go_wp2
            go_roundw
            case rel => exact ⟨k + 1, _, by omega, by go_num, rfl, by omega, by omega, (by rw [← HFE.out]; exact HE), below_drewN HBU.out _⟩
            case measure => simp [intOf]; omega
          · obtain rfl : N = 6 := by omega
            by_cases hneg : B < 0
            · have HE : Hid (R = nxt ps ws f (k + 1) k) := by show _ = _; rw [HR.out, nxt_take HN.out HT.out hhere ⟨rfl, .inl hneg⟩]
              have t7 : decide (B < 0) = true := by simpa using hneg
              clear hru hhere HR hneg
              go_wp2_with fail
              go_quiet (fail)
              go_wp2
              go_roundw
              case rel => exact ⟨k + 1, _, by omega, by go_num, rfl, by omega, by omega, (by rw [← HFE.out]; exact HE), below_drewN HBU.out _⟩
              case measure => simp [intOf]; omega
            · obtain ⟨Q, rfl⟩ : ∃ Q : Nat, B = Q := ⟨B.toNat, by omega⟩
              have t7 : decide ((Q : Int) < 0) = false := by simp
              have hkl : k < ws.length := by omega
              have hQl : Q < ws.length := by omega
              obtain ⟨bb, ob, x, rfl, hcx, HX⟩ := rdInt_at hru hkl
              obtain ⟨b2, o2, y, hbe, hcy, HY⟩ := rdInt_at hru hQl
              simp at hbe
              obtain ⟨rfl, rfl⟩ := hbe
              have i1 : (0 : Int) ≤ (k : Int) := by omega
              have i2 : (k : Int) < (ws.length : Int) := by omega
              have i3 : (0 : Int) ≤ (Q : Int) := by omega
              have i4 : (Q : Int) < (ws.length : Int) := by omega
              by_cases hxy : x < y
              · have HE : Hid (R = nxt ps ws f (k + 1) k) := by
                  show _ = _; rw [HR.out, nxt_take HN.out HT.out hhere ⟨rfl, .inr (by rw [Int.toNat_natCast, HX.out, HY.out]; exact hxy)⟩]
                have t8 : decide (x < y) = true := by simpa using hxy
                clear hru hhere HR hneg hxy
                go_wp2_with fail
                go_quiet (fail)
                go_wp2
                go_roundw
                case rel => exact ⟨k + 1, _, by omega, by go_num, rfl, by omega, by omega, (by rw [← HFE.out]; exact HE), below_drewN HBU.out _⟩
                case measure => simp [intOf]; omega
              · have HE : Hid (R = nxt ps ws f (k + 1) Q) := by
                  show _ = _; rw [HR.out, nxt_pass HN.out HT.out hhere (by rintro ⟨_, h | h⟩
                                                                           · omega
                                                                           · rw [Int.toNat_natCast, HX.out, HY.out] at h; exact hxy h)]
                have t8 : decide (x < y) = false := by simpa using hxy
                clear hru hhere HR hneg hxy
                go_wp2_with fail
                go_quiet (fail)
                go_wp2
                go_roundw
                case rel => exact ⟨k + 1, _, by omega, by go_num, rfl, by omega, by omega, (by rw [← HFE.out]; exact HE), below_drewN HBU.out _⟩
                case measure => simp [intOf]; omega
        · have HE : Hid (R = nxt ps ws f (k + 1) B) := by show _ = _; rw [HR.out, nxt_pass HN.out HT.out hhere (by omega)]
          have t6 : (N == 6) = false := by simp; omega
          clear hru hhere HR
          go_wp2_with fail
          go_quiet (fail)
          go_wp2
          go_roundw
          case rel => exact ⟨k + 1, _, by omega, by go_num, rfl, by omega, by omega, (by rw [← HFE.out]; exact HE), below_drewN HBU.out _⟩
          case measure => simp [intOf]; omega
    · obtain rfl : k = 10 := by omega
      have q1 : ¬ ((10 : Nat) : Int) < 10 := by omega
      by_cases hneg : B < 0
      · have HE : Hid (R = -1) := by show _ = _; rw [HR.out]; simp [nxt, hneg]
        clear c0 c1
        go_wp2
        go_ret
        exact ⟨ret_int HE.out.symm, hbA.trans (hbr.mono (Nat.le_of_lt hsA))⟩
      · have HE : Hid (R = B * 6) := by show _ = _; rw [HR.out]; simp [nxt, hneg]
        clear c0 c1
        go_wp2
        go_ret
        exact ⟨ret_int HE.out.symm, hbA.trans (hbr.mono (Nat.le_of_lt hsA))⟩

end Go.Proofs.Ytelbannfbglgcaa

namespace Go.Proofs.Ytelbannfbglgcaa
open Go.RowKit

/-- The pages of the first i of a block that are in the map, as often as they are. -/
def livesU (ms : List Int) (B : Nat) : Nat → List Int
  | 0 => []
  | i + 1 => livesU ms B i ++ ms.filter (fun x => x == (B : Int) * 6 + i)
theorem livesU_len (ms : List Int) (B i : Nat) : (livesU ms B i).length ≤ i * ms.length := by
  induction i with
  | zero => simp [livesU]
  | succ i ih =>
    have := List.length_filter_le (fun x => x == (B : Int) * 6 + i) ms
    simp only [livesU, List.length_append, Nat.add_mul, Nat.one_mul]
    omega
/-- The same, and of the next page the first j sectors. -/
def livesJ (ms : List Int) (B i j : Nat) : List Int := livesU ms B i ++ (ms.take j).filter (fun x => x == (B : Int) * 6 + i)
theorem livesJ_zero (ms : List Int) (B i : Nat) : livesJ ms B i 0 = livesU ms B i := by simp [livesJ]
theorem livesJ_all {ms : List Int} {B i j : Nat} (h : ms.length ≤ j) : livesJ ms B i j = livesU ms B (i + 1) := by simp [livesJ, livesU, List.take_of_length_le h]
theorem livesJ_yes {ms : List Int} {B i j : Nat} {x : Int} (hx : ms[j]? = some x) (h : x = (B : Int) * 6 + i) : livesJ ms B i (j + 1) = livesJ ms B i j ++ [(B : Int) * 6 + i] := by
  simp [livesJ, List.take_add_one, hx, h, List.filter_append]
theorem livesJ_no {ms : List Int} {B i j : Nat} {x : Int} (hx : ms[j]? = some x) (h : ¬ x = (B : Int) * 6 + i) : livesJ ms B i (j + 1) = livesJ ms B i j := by
  simp [livesJ, List.take_add_one, hx, h, List.filter_append]
theorem livesJ_len (ms : List Int) (B i j : Nat) : (livesJ ms B i j).length ≤ (i + 1) * ms.length := by
  have h1 := livesU_len ms B i
  have h2 := List.length_filter_le (fun x => x == (B : Int) * 6 + i) (ms.take j)
  have h3 : (ms.take j).length ≤ ms.length := by simp; omega
  simp only [livesJ, List.length_append, Nat.add_mul, Nat.one_mul]
  omega

set_option maxRecDepth 100000 in
set_option maxHeartbeats 3200000 in
theorem lives_any (p0 p1 : Value) (e0 : Option Addr) (ms : List Int) (f B : Nat) (q : Int) (w : World) (hms : Rd w e0 (vsInt ms)) (hn : ms.length ≤ 1048576) (hB : B < 10) :
    Calls Try.prog 90 #[.agg #[p0, p1, .slice e0 ms.length f, .int .i64 q], .int .i64 B] w fun e w' => ∃ v, e = .returned v ∧ w'.ownsRow w.heap.size 3 1 v (livesU ms B 6).length (vsInt (livesU ms B 6)) ∧ Below w.heap.size w w' := by
  obtain ⟨i2, hi2, hz0, hz1, hz2⟩ := info_parts infoInt
  obtain ⟨A, hA⟩ : ∃ A, A = w.alloc (Obj.cells #[p0, p1, .slice e0 ms.length f, .int .i64 q] 47) := ⟨_, rfl⟩
  have hbA : Below w.heap.size w A := by rw [hA]; exact (Below.refl _ _).alloc (Nat.le_refl _) _
  have hsA : w.heap.size < A.heap.size := by rw [hA]; simp
  obtain ⟨n1, hn1⟩ : ∃ n1, n1 = A.heap.size := ⟨_, rfl⟩
  have hn1' : n1 = w.heap.size + 1 := by rw [hn1, hA]; simp
  obtain ⟨W, hW⟩ : ∃ W, W = A.alloc (Obj.cells #[] 3) := ⟨_, rfl⟩
  have hbW : Below A.heap.size A W := by rw [hW]; exact (Below.refl _ _).alloc (Nat.le_refl _) _
  have hW0 : W.ownsRow n1 3 1 (.slice (some ⟨n1, 0, none⟩) 0 0) 0 [] := by rw [hW, hn1]; exact World.ownsRow_made A #[] 0 (Nat.le_refl _) (Nat.zero_le _) rfl
  have x2 : A.cell? ⟨w.heap.size, 2, none⟩ = some (.slice e0 ms.length f) := by rw [hA]; simp
  have HM := hide (hms.below hbA)
  have HN1 := hide (And.intro hn1 hn1')
  clear hms hn1 hn1'
  go_enter Try.func90, Try.ntmps90
  go_wp2
  rw [← hA]
  rw [← hW]
  rw [← HN1.out.2]
  clear hA hW
  go_loopw [5, 6] (fun v i wr => ∃ k : Nat, k ≤ 6 ∧ i = .int .i64 k ∧ wr.ownsRow n1 3 1 v (livesU ms B k).length (vsInt (livesU ms B k)) ∧ Below n1 A wr) (fun _ i _ => 6 - (intOf i).toNat)
  case atStart => exact ⟨0, Nat.zero_le _, rfl, hW0, by rw [HN1.out.1]; exact hbW⟩
  case round =>
    obtain ⟨k, hk, rfl, hown, hbr⟩ := hrel
    by_cases hlt : k < 6
    · have q1 : (k : Int) < 6 := by omega
      clear hW0 hbW
      go_wp2
      go_loopw [5, 7] (fun v i wx => ∃ j : Nat, j ≤ ms.length ∧ i = .int .i64 j ∧ wx.ownsRow n1 3 1 v (livesJ ms B k j).length (vsInt (livesJ ms B k j)) ∧ Below n1 A wx) (fun _ i _ => ms.length - (intOf i).toNat)
      case atStart => exact ⟨0, Nat.zero_le _, rfl, by rw [livesJ_zero]; exact hown, hbr⟩
      case round =>
        obtain ⟨j, hj, rfl, hown, hbr⟩ := hrel
        have hbr' : Below A.heap.size A wr := by rw [← HN1.out.1]; exact hbr
        have c2 := (hbr'.cell (p := ⟨w.heap.size, 2, none⟩) hsA).trans x2
        have hsr : n1 ≤ wr.heap.size := by have := hbr'.size; have := HN1.out.1; omega
        by_cases hlj : j < ms.length
        · obtain ⟨ba, oa, x, rfl, hcx, HX⟩ := rdInt_at (HM.out.below hbr') hlj
          have hll := livesJ_len ms B k j
          have hl6 : (livesJ ms B k j).length ≤ 6291456 := by
            have : (k + 1) * ms.length ≤ 6 * 1048576 := Nat.mul_le_mul (by omega) hn
            omega
          clear hll
          by_cases hxp : x = (B : Int) * 6 + k
          · have HE : Hid (livesJ ms B k (j + 1) = livesJ ms B k j ++ [(B : Int) * 6 + k]) := livesJ_yes HX.out hxp
            have t1 : (x == (B : Int) * 6 + k) = true := by simpa using hxp
            clear hxp
            go_wp2_with (at_builtin; go_must (refine wpList_append_one rfl _ _ 25 rfl n1 3 i2 (.int .i64 0) 8 Try.underlying25 hi2 hz0 hz1 hz2 rfl _ _ _ (.int .i64 ((B : Int) * 6 + k)) rfl hown rfl rfl (by omega) (by omega) hsr rfl ?_); intro v' u3 hown' hb')
            go_roundw
            case rel => exact ⟨j + 1, by omega, by go_num, by rw [HE.out]; simpa using hown', hbr.trans hb'⟩
            case measure => simp [intOf]; omega
          · have HE : Hid (livesJ ms B k (j + 1) = livesJ ms B k j) := livesJ_no HX.out hxp
            have t1 : (x == (B : Int) * 6 + k) = false := by simpa using hxp
            clear hxp
            go_wp2
            go_roundw
            case rel => exact ⟨j + 1, by omega, by go_num, by rw [HE.out]; exact hown, hbr⟩
            case measure => simp [intOf]; omega
        · have HE : Hid (livesJ ms B k j = livesU ms B (k + 1)) := livesJ_all (by omega)
          have HOWN := hide hown
          clear hown
          go_wp2
          go_roundw
          case rel => exact ⟨k + 1, by omega, by go_num, by rw [← HE.out]; exact HOWN.out, hbr⟩
          case measure => simp [intOf]; omega
    · obtain rfl : k = 6 := by omega
      have q1 : ¬ ((6 : Nat) : Int) < 6 := by omega
      have hbr' : Below A.heap.size A wr := by rw [← HN1.out.1]; exact hbr
      have HOWN := hide hown
      clear hown
      go_wp2
      go_ret
      exact ⟨_, rfl, owns_mono HOWN.out (by have := HN1.out.2; omega), hbA.trans (hbr'.mono (Nat.le_of_lt hsA))⟩

end Go.Proofs.Ytelbannfbglgcaa

namespace Go.Proofs.Ytelbannfbglgcaa
open Go.RowKit



/-- The variable at block p holds a chip that can be read. -/
def Loc (u : World) (p : Nat) (a b : Option Addr) (c d : Nat) (ps : List ByteArray) (ws : List Int) : Prop :=
  u.cell? ⟨p, 0, none⟩ = some (.slice a ps.length c) ∧ u.cell? ⟨p, 1, none⟩ = some (.slice b ws.length d) ∧ Rd u a (vsString ps) ∧ Rd u b (vsInt ws)
theorem Loc.below {u u' : World} {p : Nat} {a b : Option Addr} {c d : Nat} {ps : List ByteArray} {ws : List Int} (h : Loc u p a b c d ps ws) (hb : Below u.heap.size u u') : Loc u' p a b c d ps ws :=
  ⟨(hb.cell (p := ⟨p, 0, none⟩) (lt_of_cell h.1)).trans h.1, (hb.cell (p := ⟨p, 1, none⟩) (lt_of_cell h.1)).trans h.2.1, h.2.2.1.below hb, h.2.2.2.below hb⟩

/-- The variable at block p holds a chip whose rows are the call's own, from block 'base' on. -/
def LocO (u : World) (p base : Nat) (a b : Option Addr) (n m c d : Nat) (xs ys : List Value) : Prop :=
  u.cell? ⟨p, 0, none⟩ = some (.slice a n c) ∧ u.cell? ⟨p, 1, none⟩ = some (.slice b m d) ∧ u.ownsRow base 9 1 (.slice a n c) n xs ∧ u.ownsRow base 3 1 (.slice b m d) m ys ∧
    (∀ k, (Value.slice a n c).ownBlock = some k → (Value.slice b m d).ownBlock ≠ some k) ∧ (∀ k, (Value.slice a n c).ownBlock = some k → k < p) ∧ (∀ k, (Value.slice b m d).ownBlock = some k → k < p) ∧ base ≤ p
theorem LocO.below {u u' : World} {p base : Nat} {a b : Option Addr} {n m c d : Nat} {xs ys : List Value} (h : LocO u p base a b n m c d xs ys) (hb : Below u.heap.size u u') : LocO u' p base a b n m c d xs ys :=
  ⟨(hb.cell (p := ⟨p, 0, none⟩) (lt_of_cell h.1)).trans h.1, (hb.cell (p := ⟨p, 1, none⟩) (lt_of_cell h.1)).trans h.2.1, owns_below h.2.2.1 hb, owns_below h.2.2.2.1 hb, h.2.2.2.2⟩
theorem LocO.loc {u : World} {p base : Nat} {a b : Option Addr} {c d : Nat} {ps : List ByteArray} {ws : List Int} (h : LocO u p base a b ps.length ws.length c d (vsString ps) (vsInt ws)) : Loc u p a b c d ps ws :=
  ⟨h.1, h.2.1, rd_of_own h.2.2.1, rd_of_own h.2.2.2.1⟩
theorem only_cell {u u' : World} {L : List (Option Nat)} {p o : Nat} {v : Value} (h : OnlyIn u u' L) (hn : some p ∉ L) (hc : u.cell? ⟨p, o, none⟩ = some v) : u'.cell? ⟨p, o, none⟩ = some v := by
  have := h.block p (lt_of_cell hc) hn
  simp only [World.cell?] at hc ⊢
  rw [this]; exact hc
/-- Others were written: those below 'base'. -/
theorem LocO.apart {u u' : World} {L : List (Option Nat)} {p base : Nat} {a b : Option Addr} {n m c d : Nat} {xs ys : List Value} (h : LocO u p base a b n m c d xs ys) (hO : OnlyIn u u' L) (hL : ∀ k, some k ∈ L → k < base) : LocO u' p base a b n m c d xs ys := by
  obtain ⟨h1, h2, h3, h4, h5, h6, h7, h8⟩ := h
  have hp : some p ∉ L := fun hk => by have := hL p hk; omega
  refine ⟨only_cell hO hp h1, only_cell hO hp h2, hO.owns h3 ?_, hO.owns h4 ?_, h5, h6, h7, h8⟩
  · intro k hk hc; have := hL k hc; have := (h3.lt k hk).1; omega
  · intro k hk hc; have := hL k hc; have := (h4.lt k hk).1; omega
/-- Its own rows were written. -/
theorem LocO.marked {u u' : World} {p base : Nat} {a b : Option Addr} {n m c d : Nat} {xs ys xs' ys' : List Value} (h : LocO u p base a b n m c d xs ys) (hO : OnlyIn u u' [(Value.slice a n c).ownBlock, (Value.slice b m d).ownBlock])
    (h1' : u'.ownsRow base 9 1 (.slice a n c) n xs') (h2' : u'.ownsRow base 3 1 (.slice b m d) m ys') : LocO u' p base a b n m c d xs' ys' := by
  obtain ⟨h1, h2, h3, h4, h5, h6, h7, h8⟩ := h
  have hp : some p ∉ [(Value.slice a n c).ownBlock, (Value.slice b m d).ownBlock] := by
    intro hk
    simp only [List.mem_cons, List.not_mem_nil, or_false] at hk
    rcases hk with hk | hk
    · have := h6 p hk.symm; omega
    · have := h7 p hk.symm; omega
  exact ⟨only_cell hO hp h1, only_cell hO hp h2, h1', h2', h5, h6, h7, h8⟩
/-- Below its base nothing was written then. -/
theorem LocO.older {u u' : World} {p base B : Nat} {a b : Option Addr} {n m c d : Nat} {xs ys : List Value} (h : LocO u p base a b n m c d xs ys) (hO : OnlyIn u u' [(Value.slice a n c).ownBlock, (Value.slice b m d).ownBlock]) (hB : B ≤ base) (hu : B ≤ u.heap.size) : Below B u u' := by
  obtain ⟨h1, h2, h3, h4, h5, h6, h7, h8⟩ := h
  refine hO.below hu ?_
  intro k hk
  simp only [List.mem_cons, List.not_mem_nil, or_false] at hk
  rcases hk with hk | hk
  · have := (h3.lt k hk.symm).1; omega
  · have := (h4.lt k hk.symm).1; omega
theorem LocO.blocks {u : World} {p base : Nat} {a b : Option Addr} {n m c d : Nat} {xs ys : List Value} (h : LocO u p base a b n m c d xs ys) : ∀ k, some k ∈ [(Value.slice a n c).ownBlock, (Value.slice b m d).ownBlock] → k < p := by
  intro k hk
  simp only [List.mem_cons, List.not_mem_nil, or_false] at hk
  rcases hk with hk | hk
  · exact h.2.2.2.2.2.1 k hk.symm
  · exact h.2.2.2.2.2.2.1 k hk.symm

/-- A chip of the call's own is laid into a new variable. -/
theorem locO_new {w : World} {base : Nat} {a b : Option Addr} {n m c d : Nat} {xs ys : List Value} (h1 : w.ownsRow base 9 1 (.slice a n c) n xs) (h2 : w.ownsRow base 3 1 (.slice b m d) m ys)
    (hne : ∀ k, (Value.slice a n c).ownBlock = some k → (Value.slice b m d).ownBlock ≠ some k) (hb : base ≤ w.heap.size) : LocO (w.alloc (.cells #[.slice a n c, .slice b m d] 27)) w.heap.size base a b n m c d xs ys :=
  ⟨by simp, by simp, h1.alloc _, h2.alloc _, hne, fun k hk => (h1.lt k hk).2, fun k hk => (h2.lt k hk).2, hb⟩

end Go.Proofs.Ytelbannfbglgcaa
