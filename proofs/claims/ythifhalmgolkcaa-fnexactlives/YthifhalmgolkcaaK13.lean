/-
  Contract of the specification's l4Next.
  Contract of the specification's l4Lives.
  Contracts of the specification's and the program's Lives; what the two answer: the same.
  Contract of the program's blocksOf: it tells each block of a chip that is right, with its pages, until it is told to stop.
-/
import Derived.Test.YthifhalmgolkcaaK12
import Derived.WalkSmall
import Derived.Test.YthifhalmgolkcaaK11
import Derived.Test.YthifhalmgolkcaaK10
import Derived.RangeFuncBox
import Derived.RangeFuncLeaves
import Derived.Shelf.Abstract
import Derived.OwnWalkIn
import Derived.TacticsInMore
import Derived.LoopNIn
import Derived.LoopIn
import Derived.Maps.AppendAt
namespace Go.Proofs.Ythifhalmgolkcaa
open Go.RowKit

/-- The next page, from block b on, with the best free block so far. -/
noncomputable def nxt (ps : List ByteArray) (ws : List Int) : Nat → Nat → Int → Int
  | 0, _, best => if best < 0 then -1 else best * 6
  | f + 1, b, best =>
    if 0 < (clr ps b 6).1 ∧ (clr ps b 6).1 < 6 ∧ (clr ps b 6).2 = (clr ps b 6).1 then (b : Int) * 6 + 6 - (clr ps b 6).1
    else nxt ps ws f (b + 1) (if (clr ps b 6).1 = 6 ∧ (best < 0 ∨ ws[b]?.getD 0 < ws[best.toNat]?.getD 0) then (b : Int) else best)
noncomputable def nextP (ps : List ByteArray) (ws : List Int) : Int := nxt ps ws 10 0 (-1)
theorem nxt_here {ps : List ByteArray} {ws : List Int} {f b : Nat} {best N T : Int} (hN : N = (clr ps b 6).1) (hT : T = (clr ps b 6).2) (h : 0 < N ∧ N < 6 ∧ T = N) : nxt ps ws (f + 1) b best = (b : Int) * 6 + 6 - N := by
  subst hN hT; rw [nxt, if_pos h]
theorem nxt_take {ps : List ByteArray} {ws : List Int} {f b : Nat} {best N T : Int} (hN : N = (clr ps b 6).1) (hT : T = (clr ps b 6).2) (h : ¬ (0 < N ∧ N < 6 ∧ T = N)) (h2 : N = 6 ∧ (best < 0 ∨ ws[b]?.getD 0 < ws[best.toNat]?.getD 0)) : nxt ps ws (f + 1) b best = nxt ps ws f (b + 1) b := by
  subst hN hT; rw [nxt, if_neg h, if_pos h2]
theorem nxt_pass {ps : List ByteArray} {ws : List Int} {f b : Nat} {best N T : Int} (hN : N = (clr ps b 6).1) (hT : T = (clr ps b 6).2) (h : ¬ (0 < N ∧ N < 6 ∧ T = N)) (h2 : ¬ (N = 6 ∧ (best < 0 ∨ ws[b]?.getD 0 < ws[best.toNat]?.getD 0))) : nxt ps ws (f + 1) b best = nxt ps ws f (b + 1) best := by
  subst hN hT; rw [nxt, if_neg h, if_neg h2]

end Go.Proofs.Ythifhalmgolkcaa

namespace Go.Proofs.Ythifhalmgolkcaa
open Go.RowKit

/-- The pages of the first i of a block that are in the map, as often as they are. -/
def livesU (ms : List Int) (B : Nat) : Nat → List Int
  | 0 => []
  | i + 1 => livesU ms B i ++ ms.filter (fun x => x == (B : Int) * 6 + i)
theorem livesU_len (ms : List Int) (B i : Nat) : (livesU ms B i).length ≤ i * ms.length := by
  induction i with
  | zero => simp [livesU]
  | succ i ih =>
    have := List.length_filter_le (fun x => x == (B : Int) * 6 + i) ms
    simp only [livesU, List.length_append, Nat.add_mul, Nat.one_mul]
    omega
/-- The same, and of the next page the first j sectors. -/
def livesJ (ms : List Int) (B i j : Nat) : List Int := livesU ms B i ++ (ms.take j).filter (fun x => x == (B : Int) * 6 + i)
theorem livesJ_zero (ms : List Int) (B i : Nat) : livesJ ms B i 0 = livesU ms B i := by simp [livesJ]
theorem livesJ_all {ms : List Int} {B i j : Nat} (h : ms.length ≤ j) : livesJ ms B i j = livesU ms B (i + 1) := by simp [livesJ, livesU, List.take_of_length_le h]
theorem livesJ_yes {ms : List Int} {B i j : Nat} {x : Int} (hx : ms[j]? = some x) (h : x = (B : Int) * 6 + i) : livesJ ms B i (j + 1) = livesJ ms B i j ++ [(B : Int) * 6 + i] := by
  simp [livesJ, List.take_add_one, hx, h, List.filter_append]
theorem livesJ_no {ms : List Int} {B i j : Nat} {x : Int} (hx : ms[j]? = some x) (h : ¬ x = (B : Int) * 6 + i) : livesJ ms B i (j + 1) = livesJ ms B i j := by
  simp [livesJ, List.take_add_one, hx, h, List.filter_append]
theorem livesJ_len (ms : List Int) (B i j : Nat) : (livesJ ms B i j).length ≤ (i + 1) * ms.length := by
  have h1 := livesU_len ms B i
  have h2 := List.length_filter_le (fun x => x == (B : Int) * 6 + i) (ms.take j)
  have h3 : (ms.take j).length ≤ ms.length := by simp; omega
  simp only [livesJ, List.length_append, Nat.add_mul, Nat.one_mul]
  omega

set_option maxRecDepth 100000 in
set_option maxHeartbeats 3200000 in
theorem lives_any (p0 p1 : Value) (e0 : Option Addr) (ms : List Int) (f B : Nat) (q : Int) (w : World) (hms : Rd w e0 (vsInt ms)) (hn : ms.length ≤ 1048576) (hB : B < 10) :
    Calls Try.prog 17 #[.agg #[p0, p1, .slice e0 ms.length f, .int .i64 q], .int .i64 B] w fun e w' => ∃ v, e = .returned v ∧ w'.ownsRow w.heap.size 3 1 v (livesU ms B 6).length (vsInt (livesU ms B 6)) ∧ Below w.heap.size w w' := by
  obtain ⟨i2, hi2, hz0, hz1, hz2⟩ := info_parts infoInt
  obtain ⟨A, hA⟩ : ∃ A, A = w.alloc (Obj.cells #[p0, p1, .slice e0 ms.length f, .int .i64 q] 32) := ⟨_, rfl⟩
  have hbA : Below w.heap.size w A := by rw [hA]; exact (Below.refl _ _).alloc (Nat.le_refl _) _
  have hsA : w.heap.size < A.heap.size := by rw [hA]; simp
  obtain ⟨n1, hn1⟩ : ∃ n1, n1 = A.heap.size := ⟨_, rfl⟩
  have hn1' : n1 = w.heap.size + 1 := by rw [hn1, hA]; simp
  obtain ⟨W, hW⟩ : ∃ W, W = A.alloc (Obj.cells #[] 3) := ⟨_, rfl⟩
  have hbW : Below A.heap.size A W := by rw [hW]; exact (Below.refl _ _).alloc (Nat.le_refl _) _
  have hW0 : W.ownsRow n1 3 1 (.slice (some ⟨n1, 0, none⟩) 0 0) 0 [] := by rw [hW, hn1]; exact World.ownsRow_made A #[] 0 (Nat.le_refl _) (Nat.zero_le _) rfl
  have x2 : A.cell? ⟨w.heap.size, 2, none⟩ = some (.slice e0 ms.length f) := by rw [hA]; simp
  have HM := hide (hms.below hbA)
  have HN1 := hide (And.intro hn1 hn1')
  clear hms hn1 hn1'
  go_enter Try.func17, Try.ntmps17
  go_wp2
  rw [← hA]
  rw [← hW]
  rw [← HN1.out.2]
  clear hA hW
  go_loopw [5, 6] (fun v i wr => ∃ k : Nat, k ≤ 6 ∧ i = .int .i64 k ∧ wr.ownsRow n1 3 1 v (livesU ms B k).length (vsInt (livesU ms B k)) ∧ Below n1 A wr) (fun _ i _ => 6 - (intOf i).toNat)
  case atStart => exact ⟨0, Nat.zero_le _, rfl, hW0, by rw [HN1.out.1]; exact hbW⟩
  case round =>
    obtain ⟨k, hk, rfl, hown, hbr⟩ := hrel
    by_cases hlt : k < 6
    · have q1 : (k : Int) < 6 := by omega
      clear hW0 hbW
      go_wp2
      go_loopw [5, 7] (fun v i wx => ∃ j : Nat, j ≤ ms.length ∧ i = .int .i64 j ∧ wx.ownsRow n1 3 1 v (livesJ ms B k j).length (vsInt (livesJ ms B k j)) ∧ Below n1 A wx) (fun _ i _ => ms.length - (intOf i).toNat)
      case atStart => exact ⟨0, Nat.zero_le _, rfl, by rw [livesJ_zero]; exact hown, hbr⟩
      case round =>
        obtain ⟨j, hj, rfl, hown, hbr⟩ := hrel
        have hbr' : Below A.heap.size A wr := by rw [← HN1.out.1]; exact hbr
        have c2 := (hbr'.cell (p := ⟨w.heap.size, 2, none⟩) hsA).trans x2
        have hsr : n1 ≤ wr.heap.size := by have := hbr'.size; have := HN1.out.1; omega
        by_cases hlj : j < ms.length
        · obtain ⟨ba, oa, x, rfl, hcx, HX⟩ := rdInt_at (HM.out.below hbr') hlj
          have hll := livesJ_len ms B k j
          have hl6 : (livesJ ms B k j).length ≤ 6291456 := by
            have : (k + 1) * ms.length ≤ 6 * 1048576 := Nat.mul_le_mul (by omega) hn
            omega
          clear hll
          by_cases hxp : x = (B : Int) * 6 + k
          · have HE : Hid (livesJ ms B k (j + 1) = livesJ ms B k j ++ [(B : Int) * 6 + k]) := livesJ_yes HX.out hxp
            have t1 : (x == (B : Int) * 6 + k) = true := by simpa using hxp
            clear hxp
            go_wp2_with (at_builtin; go_must (refine wpList_append_one rfl _ _ 23 rfl n1 3 i2 (.int .i64 0) 8 Try.underlying23 hi2 hz0 hz1 hz2 rfl _ _ _ (.int .i64 ((B : Int) * 6 + k)) rfl hown rfl rfl (by omega) (by omega) hsr rfl ?_); intro v' u3 hown' hb')
            go_roundw
            case rel => exact ⟨j + 1, by omega, by go_num, by rw [HE.out]; simpa using hown', hbr.trans hb'⟩
            case measure => simp [intOf]; omega
          · have HE : Hid (livesJ ms B k (j + 1) = livesJ ms B k j) := livesJ_no HX.out hxp
            have t1 : (x == (B : Int) * 6 + k) = false := by simpa using hxp
            clear hxp
            go_wp2
            go_roundw
            case rel => exact ⟨j + 1, by omega, by go_num, by rw [HE.out]; exact hown, hbr⟩
            case measure => simp [intOf]; omega
        · have HE : Hid (livesJ ms B k j = livesU ms B (k + 1)) := livesJ_all (by omega)
          have HOWN := hide hown
          clear hown
          go_wp2
          go_roundw
          case rel => exact ⟨k + 1, by omega, by go_num, by rw [← HE.out]; exact HOWN.out, hbr⟩
          case measure => simp [intOf]; omega
    · obtain rfl : k = 6 := by omega
      have q1 : ¬ ((6 : Nat) : Int) < 6 := by omega
      have hbr' : Below A.heap.size A wr := by rw [← HN1.out.1]; exact hbr
      have HOWN := hide hown
      clear hown
      go_wp2
      go_ret
      exact ⟨_, rfl, owns_mono HOWN.out (by have := HN1.out.2; omega), hbA.trans (hbr'.mono (Nat.le_of_lt hsA))⟩

end Go.Proofs.Ythifhalmgolkcaa

namespace Go.Proofs.Ythifhalmgolkcaa
open Go.RowKit

theorem filter_one {xs : List Int} {p : Int} (h : ∀ i j : Nat, xs[i]? = some p → xs[j]? = some p → i = j) : xs.filter (fun x => x == p) = if p ∈ xs then [p] else [] := by
  induction xs with
  | nil => simp
  | cons y ys ih =>
    by_cases hy : y = p
    · have hn : p ∉ ys := by
        intro hm
        obtain ⟨j, hj⟩ := List.mem_iff_getElem?.1 hm
        have := h 0 (j + 1) (by simp [hy]) (by simpa using hj)
        omega
      have hf : ys.filter (fun x => x == p) = [] := by
        rw [List.filter_eq_nil_iff]
        intro x hx he
        exact hn ((by simpa using he) ▸ hx)
      rw [List.filter_cons, if_pos (by simpa using hy), hf, if_pos (by simp [hy]), hy]
    · rw [List.filter_cons, if_neg (by simpa using hy), ih (fun i j hi hj => by have := h (i + 1) (j + 1) (by simpa using hi) (by simpa using hj); omega)]
      have : (p ∈ y :: ys) ↔ p ∈ ys := by simp [Ne.symm hy]
      simp only [this]

theorem map_one (ps : List ByteArray) (p : Nat) : ∀ i j : Nat, (mMap ps)[i]? = some (p : Int) → (mMap ps)[j]? = some (p : Int) → i = j := by
  intro i j hi hj
  have hb : ∀ s : Nat, (mMap ps)[s]? = some (p : Int) → ∃ q d, recR (ps[p]?.getD ByteArray.empty) = some ((s : Int), q, d) := by
    intro s hs
    have hlt : s < 26 := by
      have := mMap_len ps
      rcases Nat.lt_or_ge s 26 with h' | h'
      · exact h'
      · rw [List.getElem?_eq_none (by omega)] at hs; cases hs
    rcases mUpto_inv ps 60 s hlt with ⟨h1, -⟩ | ⟨p', q, d, -, h2, -, h4⟩
    · have h1' : (mMap ps)[s]? = some (-1) := h1
      rw [h1'] at hs; injection hs with hs; omega
    · have h2' : (mMap ps)[s]? = some (p' : Int) := h2
      rw [h2'] at hs; injection hs with hs
      have : p' = p := by omega
      subst this
      exact ⟨q, d, h4⟩
  obtain ⟨q, d, h1⟩ := hb i hi
  obtain ⟨q', d', h2⟩ := hb j hj
  rw [h1] at h2
  simp at h2
  omega

theorem lives_in {ps : List ByteArray} {B i : Nat} (h : (B : Int) * 6 + i ∈ mMap ps) : livesU (mMap ps) B (i + 1) = livesU (mMap ps) B i ++ [(B : Int) * 6 + i] := by
  have e : ((B * 6 + i : Nat) : Int) = (B : Int) * 6 + i := by omega
  have := filter_one (map_one ps (B * 6 + i))
  rw [e, if_pos h] at this
  rw [livesU, this]
theorem lives_out {ps : List ByteArray} {B i : Nat} (h : (B : Int) * 6 + i ∉ mMap ps) : livesU (mMap ps) B (i + 1) = livesU (mMap ps) B i := by
  have e : ((B * 6 + i : Nat) : Int) = (B : Int) * 6 + i := by omega
  have := filter_one (map_one ps (B * 6 + i))
  rw [e, if_neg h] at this
  rw [livesU, this, List.append_nil]

/-- Lives of whatever came in. -/
def livesOf (ps : List ByteArray) (ws ms : List Int) (q b : Int) : List Int := if ftlOkB ps ws ms q = true ∧ 0 ≤ b ∧ b ≤ 9 then livesU ms b.toNat 6 else []
theorem livesOf_len (ps : List ByteArray) (ws ms : List Int) (q b : Int) : (livesOf ps ws ms q b).length ≤ 1000 := by
  unfold livesOf
  split
  · rename_i h
    obtain ⟨-, rfl, -⟩ := ftlOk_parts h.1
    have := livesU_len (mMap ps) b.toNat 6
    rw [mMap_len] at this
    omega
  · simp

set_option maxHeartbeats 1600000 in
theorem specLives_any (a b e0 : Option Addr) (ps : List ByteArray) (ws ms : List Int) (c d f : Nat) (q s : Int) (w : World) (hp : Rd w a (vsString ps)) (hw : Rd w b (vsInt ws)) (hms : Rd w e0 (vsInt ms)) (hl : ps.length ≤ 1048576) (hm : ws.length ≤ 1048576) (hn : ms.length ≤ 1048576) (hs : ∀ s ∈ ps, s.size ≤ 1048576) :
    Calls Try.prog 5 #[.agg #[.slice a ps.length c, .slice b ws.length d, .slice e0 ms.length f, .int .i64 q], .int .i64 s] w fun e w' => ∃ v, e = .returned v ∧ IntsOwn w' w.heap.size v (livesOf ps ws ms q s) ∧ Below w.heap.size w w' := by
  obtain ⟨R, hR⟩ : ∃ R, R = livesOf ps ws ms q s := ⟨_, rfl⟩
  rw [← hR]
  obtain ⟨A, hA⟩ : ∃ A, A = w.alloc (Obj.cells #[.slice a ps.length c, .slice b ws.length d, .slice e0 ms.length f, .int .i64 q] 32) := ⟨_, rfl⟩
  have hbA : Below w.heap.size w A := by rw [hA]; exact (Below.refl _ _).alloc (Nat.le_refl _) _
  have xA : At A w.heap.size [.slice a ps.length c, .slice b ws.length d, .slice e0 ms.length f, .int .i64 q] := by rw [hA]; exact at_new w [.slice a ps.length c, .slice b ws.length d, .slice e0 ms.length f, .int .i64 q] _
  have x0 : A.cell? ⟨w.heap.size, 0, none⟩ = some (.slice a ps.length c) := xA.2 0 (by simp)
  have x1 : A.cell? ⟨w.heap.size, 1, none⟩ = some (.slice b ws.length d) := xA.2 1 (by simp)
  have x2 : A.cell? ⟨w.heap.size, 2, none⟩ = some (.slice e0 ms.length f) := xA.2 2 (by simp)
  have x3 : A.cell? ⟨w.heap.size, 3, none⟩ = some (.int .i64 q) := xA.2 3 (by simp)
  by_cases hin : 0 ≤ s ∧ s ≤ 9
  · have hd : decide (0 ≤ s ∧ s ≤ 9) = true := by simpa using hin
    have HF := hide (specFtlOk_any a b e0 ps ws ms c d f q A (hp.below hbA) (hw.below hbA) (hms.below hbA) hl hm hn hs)
    cases hok : ftlOkB ps ws ms q with
    | false =>
      have HR : Hid (R = []) := by show _ = _; rw [hR, livesOf, if_neg (by simp [hok])]
      rw [hok] at HF
      clear hR hp hw hms hs hok
      go_enter Try.func5, Try.ntmps5
      go_wp2_with (first | (go_at_call 15; refine (in_any _ _ _ _).mono ?_; rw [hd]; rintro e u ⟨rfl, hu⟩; have hu' := hu.symm; subst hu') | (rw [← hA]; clear hA) | (go_at_call 16; refine HF.out.mono ?_; rintro e w1 ⟨rfl, hb1⟩; have HB1 := hide hb1; clear hb1))
      go_ret
      have hb := after hbA HB1.out
      refine ⟨_, rfl, ?_, hb.alloc hb.size _⟩
      rw [HR.out]
      exact World.ownsRow_made w1 #[] 0 hb.size (Nat.zero_le _) rfl
    | true =>
      obtain ⟨B, rfl⟩ : ∃ B : Nat, s = B := ⟨s.toNat, by omega⟩
      have HR : Hid (R = livesU ms B 6) := by show _ = _; rw [hR, livesOf, if_pos ⟨hok, hin⟩, Int.toNat_natCast]
      have HLV : Hid (∀ u, Below A.heap.size A u → Calls Try.prog 17 #[.agg #[.slice a ps.length c, .slice b ws.length d, .slice e0 ms.length f, .int .i64 q], .int .i64 B] u fun e w' => ∃ v, e = .returned v ∧ w'.ownsRow u.heap.size 3 1 v (livesU ms B 6).length (vsInt (livesU ms B 6)) ∧ Below u.heap.size u w') := fun u hu =>
        lives_any _ _ e0 ms f B q u (hms.below (after hbA hu)) hn (by omega)
      rw [hok] at HF
      clear hR hp hw hms hs hok hin
      go_enter Try.func5, Try.ntmps5
      go_wp2_with (first | (go_at_call 15; refine (in_any _ _ _ _).mono ?_; rw [hd]; rintro e u ⟨rfl, hu⟩; have hu' := hu.symm; subst hu') | (rw [← hA]; clear hA) | (go_at_call 16; refine HF.out.mono ?_; rintro e w1 ⟨rfl, hb1⟩; have HB1 := hide hb1; have x0 : w1.cell? ⟨w.heap.size, 0, none⟩ = some (.slice a ps.length c) := (xA.below hb1).2 0 (by simp); have x1 : w1.cell? ⟨w.heap.size, 1, none⟩ = some (.slice b ws.length d) := (xA.below hb1).2 1 (by simp); have x2 : w1.cell? ⟨w.heap.size, 2, none⟩ = some (.slice e0 ms.length f) := (xA.below hb1).2 2 (by simp); have x3 : w1.cell? ⟨w.heap.size, 3, none⟩ = some (.int .i64 q) := (xA.below hb1).2 3 (by simp); clear hb1) | (go_at_call 17; refine (HLV.out _ HB1.out).mono ?_; rintro e w2 ⟨v2, rfl, ho2, hb2⟩; have HB2 := hide hb2; have HO2 := hide ho2; clear hb2 ho2))
      go_ret
      have hb := after hbA HB1.out
      refine ⟨_, rfl, ?_, after hb HB2.out⟩
      rw [HR.out]
      exact owns_mono HO2.out hb.size
  · have hd : decide (0 ≤ s ∧ s ≤ 9) = false := by simpa using hin
    have HR : Hid (R = []) := by show _ = _; rw [hR, livesOf, if_neg (fun h => hin h.2)]
    clear hR hp hw hms hs hin
    go_enter Try.func5, Try.ntmps5
    go_wp2_with (first | (go_at_call 15; refine (in_any _ _ _ _).mono ?_; rw [hd]; rintro e u ⟨rfl, hu⟩; have hu' := hu.symm; subst hu') | (rw [← hA]; clear hA))
    go_ret
    refine ⟨_, rfl, ?_, hbA.alloc hbA.size _⟩
    rw [HR.out]
    exact World.ownsRow_made A #[] 0 hbA.size (Nat.zero_le _) rfl

set_option maxRecDepth 100000 in
set_option maxHeartbeats 3200000 in
theorem livesIn_any (e0 : Option Addr) (ps : List ByteArray) (f B : Nat) (w : World) (hms : Rd w e0 (vsInt (mMap ps))) (hB10 : B < 10) :
    Calls Try.prog 21 #[.slice e0 (mMap ps).length f, .int .i64 B] w fun e w' => ∃ v, e = .returned v ∧ IntsOwn w' w.heap.size v (livesU (mMap ps) B 6) ∧ Below w.heap.size w w' := by
  obtain ⟨i2, hi2, hz0, hz1, hz2⟩ := info_parts infoInt
  have HMS := hide hms
  clear hms
  go_enter Try.func21, Try.ntmps21
  go_wp2
  go_loopw [5, 8] (fun v i wr => ∃ k : Nat, k ≤ 6 ∧ i = .int .i64 k ∧ wr.ownsRow w.heap.size 3 1 v (livesU (mMap ps) B k).length (vsInt (livesU (mMap ps) B k)) ∧ Below w.heap.size w wr) (fun _ i _ => 6 - (intOf i).toNat)
  case atStart => exact ⟨0, Nat.zero_le _, rfl, World.ownsRow_nil _ _ _ _, Below.refl _ _⟩
  case round =>
    obtain ⟨k, hk, rfl, hown, hbr⟩ := hrel
    have hsr := hbr.size
    by_cases hlt : k < 6
    · have hll : (livesU (mMap ps) B k).length ≤ 156 := by
        have := livesU_len (mMap ps) B k
        rw [mMap_len] at this
        omega
      have HC := hide (containsInt_any e0 (mMap ps) f ((B : Int) * 6 + k) wr (HMS.out.below hbr) (by rw [mMap_len]; decide))
      by_cases hmem : (B : Int) * 6 + k ∈ mMap ps
      · rw [show decide ((B : Int) * 6 + k ∈ mMap ps) = true by simpa using hmem] at HC
        have HE := hide (lives_in hmem)
        clear hmem
        go_wp2_with (first | (go_at_call 32; refine HC.out.mono ?_; rintro e u ⟨rfl, hu⟩; have hu' := hu.symm; subst hu'; clear HC hu) | (at_builtin; go_must (refine wpList_append_one rfl _ _ 23 rfl w.heap.size 3 i2 (.int .i64 0) 8 Try.underlying23 hi2 hz0 hz1 hz2 rfl _ _ _ (.int .i64 ((B : Int) * 6 + k)) rfl hown rfl rfl (by omega) (by omega) hsr rfl ?_); intro v' u3 hown' hb'))
        go_roundw
        case rel => exact ⟨k + 1, by omega, by go_num, by rw [HE.out]; simpa using hown', hbr.trans hb'⟩
        case measure => simp [intOf]; omega
      · rw [show decide ((B : Int) * 6 + k ∈ mMap ps) = false by simpa using hmem] at HC
        have HE := hide (lives_out hmem)
        have HOWN := hide hown
        clear hmem hown
        go_wp2_with (first | (go_at_call 32; refine HC.out.mono ?_; rintro e u ⟨rfl, hu⟩; have hu' := hu.symm; subst hu'; clear HC hu))
        go_roundw
        case rel => exact ⟨k + 1, by omega, by go_num, by rw [HE.out]; exact HOWN.out, hbr⟩
        case measure => simp [intOf]; omega
    · obtain rfl : k = 6 := by omega
      have HOWN := hide hown
      clear hown
      go_wp2
      go_ret
      exact ⟨_, rfl, HOWN.out, hbr⟩

set_option maxRecDepth 100000 in
set_option maxHeartbeats 3200000 in
theorem implLives_any (a b e0 : Option Addr) (ps : List ByteArray) (ws ms : List Int) (c d f : Nat) (q s : Int) (w : World) (hp : Rd w a (vsString ps)) (hw : Rd w b (vsInt ws)) (hms : Rd w e0 (vsInt ms)) (hl : ps.length ≤ 1048576) (hm : ws.length ≤ 1048576) (hn : ms.length ≤ 1048576) (hs : ∀ s ∈ ps, s.size ≤ 1048576) :
    Calls Try.prog 7 #[.agg #[.slice a ps.length c, .slice b ws.length d, .slice e0 ms.length f, .int .i64 q], .int .i64 s] w fun e w' => ∃ v, e = .returned v ∧ IntsOwn w' w.heap.size v (livesOf ps ws ms q s) ∧ Below w.heap.size w w' := by
  obtain ⟨i2, hi2, hz0, hz1, hz2⟩ := info_parts infoInt
  obtain ⟨R, hR⟩ : ∃ R, R = livesOf ps ws ms q s := ⟨_, rfl⟩
  rw [← hR]
  obtain ⟨A, hA⟩ : ∃ A, A = w.alloc (Obj.cells #[.slice a ps.length c, .slice b ws.length d, .slice e0 ms.length f, .int .i64 q] 32) := ⟨_, rfl⟩
  have hbA : Below w.heap.size w A := by rw [hA]; exact (Below.refl _ _).alloc (Nat.le_refl _) _
  have xA : At A w.heap.size [.slice a ps.length c, .slice b ws.length d, .slice e0 ms.length f, .int .i64 q] := by rw [hA]; exact at_new w [.slice a ps.length c, .slice b ws.length d, .slice e0 ms.length f, .int .i64 q] _
  have x0 : A.cell? ⟨w.heap.size, 0, none⟩ = some (.slice a ps.length c) := xA.2 0 (by simp)
  have x1 : A.cell? ⟨w.heap.size, 1, none⟩ = some (.slice b ws.length d) := xA.2 1 (by simp)
  have x2 : A.cell? ⟨w.heap.size, 2, none⟩ = some (.slice e0 ms.length f) := xA.2 2 (by simp)
  have x3 : A.cell? ⟨w.heap.size, 3, none⟩ = some (.int .i64 q) := xA.2 3 (by simp)
  by_cases h0 : s < 0
  · have HR : Hid (R = []) := by show _ = _; rw [hR, livesOf, if_neg (by omega)]
    clear hR hp hw hms hs
    go_enter Try.func7, Try.ntmps7
    go_wp2_with (rw [← hA]; clear hA)
    go_ret
    exact ⟨_, rfl, by rw [HR.out]; exact World.ownsRow_nil _ _ _ _, hbA⟩
  by_cases h1 : 10 ≤ s
  · have HR : Hid (R = []) := by show _ = _; rw [hR, livesOf, if_neg (by omega)]
    clear hR hp hw hms hs
    go_enter Try.func7, Try.ntmps7
    go_wp2_with (rw [← hA]; clear hA)
    go_ret
    exact ⟨_, rfl, by rw [HR.out]; exact World.ownsRow_nil _ _ _ _, hbA⟩
  have HF := hide (implFtlOk_any a b e0 ps ws ms c d f q A (hp.below hbA) (hw.below hbA) (hms.below hbA) hl hm hn hs)
  cases hok : ftlOkB ps ws ms q with
  | false =>
    have HR : Hid (R = []) := by show _ = _; rw [hR, livesOf, if_neg (by simp [hok])]
    rw [hok] at HF
    clear hR hp hw hms hs hok
    go_enter Try.func7, Try.ntmps7
    go_wp2_with (first | (rw [← hA]; clear hA) | (go_at_call 20; refine HF.out.mono ?_; rintro e w1 ⟨rfl, hb1⟩; have HB1 := hide hb1; clear hb1))
    go_ret
    exact ⟨_, rfl, by rw [HR.out]; exact World.ownsRow_nil _ _ _ _, after hbA HB1.out⟩
  | true =>
    obtain ⟨-, rfl, rfl⟩ := ftlOk_parts hok
    obtain ⟨B, rfl⟩ : ∃ B : Nat, s = B := ⟨s.toNat, by omega⟩
    have hB10 : B < 10 := by omega
    have HR : Hid (R = livesU (mMap ps) B 6) := by show _ = _; rw [hR, livesOf, if_pos ⟨hok, by omega⟩, Int.toNat_natCast]
    rw [hok] at HF
    have HLV : Hid (∀ u, Below A.heap.size A u → Calls Try.prog 21 #[.slice e0 (mMap ps).length f, .int .i64 B] u fun e w' => ∃ v, e = .returned v ∧ IntsOwn w' u.heap.size v (livesU (mMap ps) B 6) ∧ Below u.heap.size u w') := fun u hu => livesIn_any e0 ps f B u (hms.below (after hbA hu)) hB10
    clear hR hp hw hms hs hok
    go_enter Try.func7, Try.ntmps7
    go_wp2_with (first | (rw [← hA]; clear hA) | (go_at_call 20; refine HF.out.mono ?_; rintro e w1 ⟨rfl, hb1⟩; have HB1 := hide hb1; have y2 : w1.cell? ⟨w.heap.size, 2, none⟩ = some (.slice e0 (mMap ps).length f) := (xA.below hb1).2 2 (by simp); clear hb1) | (go_at_call 21; refine (HLV.out w1 HB1.out).mono ?_; rintro e w2 ⟨v2, rfl, ho2, hb2⟩; have HB2 := hide hb2; have HO2 := hide ho2; clear hb2 ho2))
    go_ret
    have hb := after hbA HB1.out
    refine ⟨_, rfl, ?_, after hb HB2.out⟩
    rw [HR.out]
    exact owns_mono HO2.out hb.size

theorem fnExactLives_both (ps : List ByteArray) (ws : List Int) (ms : List Int) (q : Int) (block : Int) (hk0 : ps.length ≤ 1048576) (hk1 : ws.length ≤ 1048576) (hk2 : ms.length ≤ 1048576) (hs : ∀ s ∈ ps, s.size ≤ 1048576) (_hq : (Lit.int .i64 q).wf = true) (_hblock : (Lit.int .i64 block).wf = true) :
    ∃ (Gxs : List Int) , Gxs.length ≤ 1000 ∧ Hid (∀ (u : World) (v : Value), FtlRd u v ps ws ms q → Calls Try.prog 5 #[v, .int .i64 block] u fun e w' => ∃ v, e = .returned (v) ∧ IntsOwn w' u.heap.size v Gxs ∧ Below u.heap.size u w') ∧ Hid (∀ (u : World) (v : Value), FtlRd u v ps ws ms q → Calls Try.prog 7 #[v, .int .i64 block] u fun e w' => ∃ v, e = .returned (v) ∧ IntsOwn w' u.heap.size v Gxs ∧ Below u.heap.size u w') := by
  refine ⟨livesOf ps ws ms q block, livesOf_len _ _ _ _ _, ?_, ?_⟩
  · rintro u v ⟨a, c, b, d, e, f, rfl, h1, h2, h3⟩
    exact specLives_any a b e ps ws ms c d f q block u h1 h2 h3 hk0 hk1 hk2 hs
  · rintro u v ⟨a, c, b, d, e, f, rfl, h1, h2, h3⟩
    exact implLives_any a b e ps ws ms c d f q block u h1 h2 h3 hk0 hk1 hk2 hs

end Go.Proofs.Ythifhalmgolkcaa

namespace Go.Proofs.Ythifhalmgolkcaa
open Go.RowKit Go.Shelf

attribute [local go_sem] Oper.semAt_some

/-- The first k blocks. -/
def blk (k : Nat) : List (Fin 10) := (List.finRange 10).take k
theorem blk_succ {k : Nat} (h : k < 10) : blk (k + 1) = blk k ++ [⟨k, h⟩] := by
  unfold blk
  rw [List.take_add_one]
  congr 1
  simp [h]
theorem blk_len {k : Nat} (h : k ≤ 10) : (blk k).length = k := by simp [blk]; omega

/-- What a round is handed: a block's number and its pages. -/
def encB (ba oa c : Nat) (x : Fin 10) : Array Value := #[.int .i64 ((x.val : Nat) : Int), .slice (some ⟨ba, oa + x.val * 6, none⟩) 6 (c - x.val * 6)]

/-- What a round keeps: what lay below n₀, and the block Bn. -/
def KpB (n₀ Bn : Nat) (W W' : World) : Prop := Below n₀ W W' ∧ W'.heap[Bn]? = W.heap[Bn]?
theorem KpB.refl (n₀ Bn : Nat) (W : World) : KpB n₀ Bn W W := ⟨Below.refl _ _, rfl⟩
theorem kpB_t {n₀ Bn : Nat} {A B C : World} (h : KpB n₀ Bn A B) (k : KpB n₀ Bn B C) : KpB n₀ Bn A C := ⟨h.1.trans k.1, k.2.trans h.2⟩
theorem kpB_b {n₀ Bn : Nat} {w : World} (hn : n₀ ≤ w.heap.size) (hB : Bn < w.heap.size) (W : World) (l : Nat) (o o' : Obj) (hl : w.heap.size ≤ l) (h : W.heap[l]? = some o) (h1 : o.isCells = false) (h2 : o.isWalk = false) : KpB n₀ Bn W (W.putObj l o') :=
  ⟨belowK_b hn W l o o' hl h h1 h2, World.putObj_heap_other (by omega)⟩

end Go.Proofs.Ythifhalmgolkcaa
