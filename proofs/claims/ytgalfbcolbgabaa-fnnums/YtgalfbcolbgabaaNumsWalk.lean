/-
  The walk of the law FnNums: the draws, the numbers and texts put and got, the sums.
-/
import Derived.Test.YtgalfbcolbgabaaDraw3
import Derived.Test.YtgalfbcolbgabaaNumMath
import Derived.Test.YtgalfbcolbgabaaSum
import Derived.Deep.RegionWith
import Derived.Deep.DeepCutAuto
import Derived.Deep.RegionHeld
import Derived.Deep.DrawnRows
namespace Go.Proofs.Ytgalfbcolbgabaa
open Go.RowKit
attribute [local go_sem ↓] Go.wp_at_zero Go.wp_at_succ
theorem yielded_off {ops : Array Oper} {tmps : Array Value} {j : Nat} (h : ((ops[j]?).bind (·.dst)).bind (tmps[·]?) = some undef) : yielded ops tmps j = none := by simp [yielded, h, undef]
attribute [local go_sem ↓] yielded_off

theorem conv_owned {w : World} {base : Nat} {a : Option Addr} {zs : List Int} {c : Nat} (hb : IsBytes zs) (h : w.ownsRow base 5 1 (.slice a zs.length c) zs.length (u8s zs)) :
    (convert 22 9 (.slice a zs.length c)).run Try.prog w = .ok (.string (strOf zs)) w := by
  rcases id h with ⟨_, ⟨he, h0⟩ | ⟨g, cap, cur, he, -⟩⟩
  · have : zs = [] := List.eq_nil_of_length_eq_zero h0
    subst this
    simp at he
    obtain ⟨rfl, rfl⟩ := he
    show (convert 22 9 (.slice none 0 0)).run Try.prog w = _
    rw [run_convert_bytes_string w 22 9 5 none 0 0 Try.underlying22 Try.underlying5 Try.underlying9]
    rfl
  · simp at he
    obtain ⟨rfl, rfl⟩ := he
    refine conv_bytes hb (fun i hi => ?_)
    rw [Nat.zero_add, h.cellAt i (by omega)]
    simp [hi]

/-- What GetNum hands back, part by part. -/
def rNum : Option (Int × Nat) → Int | none => 0 | some (n, _) => n
def rEnd : Option (Int × Nat) → Int | none => 0 | some (_, j) => j
def rOk : Option (Int × Nat) → Bool | none => false | some _ => true
/-- What GetText hands back, part by part. -/
def tStr : Option (List Int × Nat) → ByteArray | none => ByteArray.empty | some (ys, _) => strOf ys
def tEnd : Option (List Int × Nat) → Int | none => 0 | some (_, j) => j
def tOk : Option (List Int × Nat) → Bool | none => false | some _ => true

theorem implGetNum_r (a : Option Addr) (zs : List Int) (cap : Nat) (i : Int) (w : World) (hr : Rd w a (u8s zs)) (hb : IsBytes zs) (hm : zs.length ≤ 1048576) :
    Calls Try.prog 13 #[.slice a zs.length cap, .int .i64 i] w fun e w' => e = .returned (.tuple #[.int .i64 (rNum (getN zs i)), .int .i64 (rEnd (getN zs i)), .bool (rOk (getN zs i))]) ∧ Below w.heap.size w w' := by
  cases h : getN zs i with
  | none => exact implGetNum_no a zs cap i w hr hb hm h
  | some r => exact implGetNum_yes a zs cap i r.1 r.2 w hr hb hm h
theorem specGetNum_r (a : Option Addr) (zs : List Int) (cap : Nat) (i : Int) (w : World) (hr : Rd w a (u8s zs)) (hb : IsBytes zs) (hm : zs.length ≤ 1048576) (hi : i ≤ 9223372036854775807) :
    Calls Try.prog 16 #[.slice a zs.length cap, .int .i64 i] w fun e w' => e = .returned (.tuple #[.int .i64 (rNum (getN zs i)), .int .i64 (rEnd (getN zs i)), .bool (rOk (getN zs i))]) ∧ w' = w := by
  refine (specGetNum_any a zs cap i w hr hb hm hi).mono ?_
  rintro e w' ⟨h1, h2, rfl⟩
  cases h : getN zs i with
  | none => exact ⟨h1 h, rfl⟩
  | some r => exact ⟨h2 r.1 r.2 h, rfl⟩
theorem implGetText_r (a : Option Addr) (zs : List Int) (cap : Nat) (i : Int) (w : World) (hr : Rd w a (u8s zs)) (hb : IsBytes zs) (hm : zs.length ≤ 1048576) (hcap : zs.length ≤ cap) :
    Calls Try.prog 19 #[.slice a zs.length cap, .int .i64 i] w fun e w' => e = .returned (.tuple #[.string (tStr (getT zs i)), .int .i64 (tEnd (getT zs i)), .bool (tOk (getT zs i))]) ∧ Below w.heap.size w w' := by
  cases h : getT zs i with
  | none => exact implGetText_no a zs cap i w hr hb hm hcap h
  | some r => exact implGetText_yes a zs cap i r.1 r.2 w hr hb hm hcap h
theorem specGetText_r (a : Option Addr) (zs : List Int) (cap : Nat) (i : Int) (w : World) (hr : Rd w a (u8s zs)) (hb : IsBytes zs) (hm : zs.length ≤ 1048576) (hcap : zs.length ≤ cap) (hi : i ≤ 9223372036854775807) :
    Calls Try.prog 22 #[.slice a zs.length cap, .int .i64 i] w fun e w' => e = .returned (.tuple #[.string (tStr (getT zs i)), .int .i64 (tEnd (getT zs i)), .bool (tOk (getT zs i))]) ∧ w' = w := by
  refine (specGetText_any a zs cap i w hr hb hm hcap hi).mono ?_
  rintro e w' ⟨h1, h2, rfl⟩
  cases h : getT zs i with
  | none => exact ⟨h1 h, rfl⟩
  | some r => exact ⟨h2 r.1 r.2 h, rfl⟩

set_option maxRecDepth 100000 in
set_option maxHeartbeats 4000000 in
theorem nums_walk (a : Option Addr) (zs : List Int) (cap : Nat) (w : World) (hr : Rd w a (u8s zs)) (hb : IsBytes zs) (hm : zs.length ≤ 1048576) :
    Calls Try.prog 3 #[.slice a zs.length cap] w fun e w' => e = .returned (.bool true) ∧ Below w.heap.size w w' := by
  have hd : decide ((1048576 : Int) < zs.length) = false := by simp; omega
  obtain ⟨i0, hi, hz0, hz1, hz2⟩ := info_parts info5
  go_enter Try.func3, Try.ntmps3
  go_wp2_with fail
  refine (big_any _ _ _ _).mono ?_
  rw [hd]
  rintro e u ⟨rfl, hu⟩
  have hu' := hu.symm
  subst hu'
  go_wp2_with fail
  refine (DrawPutNum_any a zs cap _ hr hb hm).mono ?_
  rintro e w1 ⟨x, rfl, hx0, hx1, hb1⟩
  go_wp2_with fail
  refine (implPutNum_any x _ (by omega) (by omega)).mono ?_
  rintro e w2 ⟨v2, rfl, ho2, hb2⟩
  obtain ⟨b2, c2, hv2, -⟩ := owns_open ho2
  subst hv2
  have hbw2 := after hb1 hb2
  clear hb1 hb2
  go_upto_region 5 with fail
  go_cut [41] (fun s41 wx => s41 = .bool false ∧ Below w2.heap.size w2 wx)
  case first =>
    as_aux_lemma =>
      have hcv2 := conv_owned (putB_bytes x) ho2
      have hcv2d := conv_owned (w := w2.drew) (putB_bytes x) ho2
      go_region_with (go_at_call 12; refine (specPutNum_any x _ (by omega) (by omega)).mono ?_; rintro e w3 ⟨v3, rfl, ho3, hb3⟩; obtain ⟨b3, c3, hv3, -⟩ := owns_open ho3; subst hv3; have hcv3 := conv_owned (putB_bytes x) ho3; have hcv3' := conv_owned (putB_bytes x) (owns_below (w := w2.drew) ho2 hb3))
      all_goals (go_wp2_with fail; go_meet; exact ⟨by simp, after (after_drew (Below.refl _ _) 1) ‹_›⟩)
  case rest =>
  obtain ⟨rfl, hbc⟩ := hcut
  have ho3 := owns_below ho2 hbc
  have hbw3 := after hbw2 hbc
  clear ho2 hbw2 hbc
  have hlit : (wc.alloc (Obj.cells #[] 5)).ownsRow wc.heap.size 5 1 (.slice (some ⟨wc.heap.size, 0, none⟩) 0 0) 0 [] := World.ownsRow_lit wc #[] 0 (Nat.le_refl _) (by unfold maxLen; omega) rfl
  have hpl := putB_len x
  go_wp2_with (at_builtin; go_must (refine wpList_append_two rfl (.tmp 43) (.tmp 44) 22 rfl wc.heap.size w1.heap.size 5 i0 (.int .u8 0) 1 Try.underlying22 hi hz0 hz1 hz2 rfl _ _ _ rfl hlit _ _ _ rfl (ho3.alloc _) (u8s_one _) (by omega) (by omega) (by simp) ?_); intro v4 w4 ho4 hb4)
  have hb4' : Below wc.heap.size wc w4 := ((Below.refl _ _).alloc (Nat.le_refl _) _).trans hb4
  have hbw4 := after hbw3 hb4'
  have ho4' : w4.ownsRow wc.heap.size 5 1 v4 (putB x).length (u8s (putB x)) := by simpa using ho4
  have hs4 := hb4'.size
  have hwc := hbw3.size
  clear hb4 ho4 hb4' hlit hbw3 ho3
  refine (at_any a zs cap 1 _ (hr.below hbw4) hb hm (by omega)).mono ?_
  rintro e u ⟨⟨q, rfl, hq0, hq1⟩, hu⟩
  have hu' := hu.symm
  subst hu'
  have hwq : IntKind.u8.wrap q = q := u8_small hq0 hq1
  go_wp2_with (at_builtin; go_must (refine wpList_append_one rfl (.tmp 45) (.tmp 49) 22 rfl wc.heap.size 5 i0 (.int .u8 0) 1 Try.underlying22 hi hz0 hz1 hz2 rfl _ _ _ (.int .u8 q) rfl ho4' rfl rfl (by omega) (by omega) hs4 rfl ?_); intro v5 w5 ho5 hb5)
  have hbw5 : Below w.heap.size w w5 := hbw4.trans (hb5.mono hwc)
  have ho5' : w5.ownsRow wc.heap.size 5 1 v5 (putB x ++ [q]).length (u8s (putB x ++ [q])) := by rw [List.length_append]; simpa [u8s] using ho5
  have hby5 : IsBytes (putB x ++ [q]) := by
    intro z hz
    simp only [List.mem_append, List.mem_singleton] at hz
    rcases hz with hz | rfl
    · exact putB_bytes x z hz
    · exact ⟨hq0, hq1⟩
  obtain ⟨b5, c5, hv5, hr5, -⟩ := owns_opened ho5'
  subst hv5
  clear ho5 ho5' hbw4 hwq ho4' hs4 hwc hb5
  have hl5 : (putB x ++ [q]).length ≤ 6 := by rw [List.length_append]; simp; omega
  refine (implGetNum_r b5 (putB x ++ [q]) c5 0 _ hr5 hby5 (by omega)).mono ?_
  rintro e w6 ⟨rfl, hb6⟩
  have hbw6 := after hbw5 hb6
  clear hbw5 hb6 hr5
  go_upto_region 8 with fail
  go_cut [3, 4, 5, 6, 7, 72] (fun _ _ _ _ _ s72 wx => s72 = .bool false ∧ wx = w6)
  case first =>
    as_aux_lemma =>
      by_cases hx : 0 ≤ x ∧ x ≤ 1000000000
      · have hg : getN (putB x ++ [q]) 0 = some (x, (putB x).length) := getN_putB [q] hx.1 hx.2
        have hlp : (0 : Int) < ((putB x).length : Int) := by
          have := (numF_len 4 x).1
          unfold putB; rw [if_pos hx]; omega
        simp only [hg, rNum, rEnd, rOk]
        clear hg hx
        go_wp2_with fail
        go_meet
        exact ⟨by simp, rfl⟩
      · have hl0 : (putB x).length = 0 := by unfold putB; rw [if_neg hx]; rfl
        clear hx
        go_wp2_with fail
        go_meet
        exact ⟨by simp, rfl⟩
  case rest =>
  obtain ⟨rfl, hwc6⟩ := hcut
  subst hwc6
  clear hby5 hl5 hpl
  go_wp2_with fail
  refine (DrawGetNum_any a zs cap _ (hr.below hbw6) hb hm).mono ?_
  rintro e w7 ⟨b7, ys, c7, k, rfl, hby7, hl7, hlc7, hr7, hk7, hb7⟩
  have hbw7 := after hbw6 hb7
  clear hbw6 hb7
  go_wp2_with fail
  refine (implGetNum_r b7 ys c7 k _ hr7 hby7 (by omega)).mono ?_
  rintro e w8 ⟨rfl, hb8⟩
  have hr8 := hr7.below hb8
  have hbw8 := after hbw7 hb8
  clear hbw7 hb8 hr7
  go_wp2_with fail
  refine (specGetNum_r b7 ys c7 k _ hr8 hby7 (by omega) hk7).mono ?_
  rintro e u ⟨rfl, hu⟩
  have hu' := hu.symm
  subst hu'
  go_upto_region 13 with fail
  go_cut [8, 9, 10, 11, 12, 13, 14, 15, 113] (fun _ _ _ _ _ _ _ _ s113 wx => s113 = .bool false ∧ Below w8.heap.size w8 wx)
  case first =>
    as_aux_lemma =>
      cases hg : getN ys k with
      | none =>
        simp only [rNum, rEnd, rOk]
        clear hg hr8
        go_region
        all_goals (go_wp2_with fail; go_meet; exact ⟨by simp, after_drew (Below.refl _ _) 1⟩)
      | some r =>
        obtain ⟨n, j⟩ := r
        simp only [rNum, rEnd, rOk]
        have hinv := getN_inv hby7 hg
        have hbd := getN_bd hby7 hg
        obtain ⟨K, rfl⟩ : ∃ K : Nat, k = K := ⟨k.toNat, by omega⟩
        simp only [Int.toNat_natCast] at hinv
        have hKj : K < j := by omega
        have hjl : j ≤ ys.length := hbd.2.2.1
        have hput : Hid (putB n = (ys.drop K).take (j - K)) := hinv.2.2
        have hn : 0 ≤ n ∧ n ≤ 1000000000 := ⟨hbd.1, hbd.2.1⟩
        have hcut' : ∀ w', Below w8.heap.size w8 w' → Hid (∃ b off, b7 = some ⟨b, off, none⟩ ∧ (convert 22 9 (.slice (some ⟨b, off + K, none⟩) (j - K) (c7 - K))).run Try.prog w' = .ok (.string (strOf (putB n))) w') := by
          intro w' hw'
          obtain ⟨b, off, hb7, hc⟩ := rd_u8 (k := K) (hr8.below hw') (by omega)
          refine ⟨b, off, hb7, ?_⟩
          rw [hput.out]
          exact conv_cut hby7 hc (by omega)
        obtain ⟨b, off, hb7, -⟩ := hcut' w8 (Below.refl _ _)
        subst hb7
        have hcv : ∀ w', Below w8.heap.size w8 w' → (convert 22 9 (.slice (some ⟨b, off + K, none⟩) (j - K) (c7 - K))).run Try.prog w' = .ok (.string (strOf (putB n))) w' := by
          intro w' hw'
          obtain ⟨b', off', he, hrun⟩ := hcut' w' hw'
          simp at he
          obtain ⟨rfl, rfl⟩ := he
          exact hrun
        have hcvd := hcv w8.drew (after_drew (Below.refl _ _) 1)
        have HCV : Hid _ := hcv
        have hcK : ¬ c7 = K := by omega
        clear hg hr8 hinv hbd hcut' hcv
        have hI1 : (0 : Int) ≤ (K : Int) := by omega
        have hI2 : (K : Int) ≤ (j : Int) := by omega
        have hI3 : (j : Int) ≤ (c7 : Int) := by omega
        go_region_held (fun w' => (convert 22 9 (.slice (some ⟨b, off + K, none⟩) (j - K) (c7 - K))).run Try.prog w' = .ok (.string (strOf (putB n))) w') (first | assumption | go_keep) ((go_at_call 11; refine (implPutNum_any n _ (by omega) (by omega)).mono ?_; rintro e w9 ⟨v9, rfl, ho9, hb9⟩; obtain ⟨b9, c9, hv9, -⟩ := owns_open ho9; subst hv9; have hcv9 := conv_owned (putB_bytes n) ho9; have hcv9' := HCV.out w9 (after (after_drew (Below.refl _ _) 1) hb9)))
        all_goals (go_wp2_with fail; go_meet; exact ⟨by simp, after (after_drew (Below.refl _ _) 1) ‹_›⟩)
  case rest =>
  obtain ⟨rfl, hbc⟩ := hcut
  have hbw9 := after hbw8 hbc
  clear hbw8 hbc hr8 hby7
  go_wp2_with fail
  refine (DrawPutText_any a zs cap _ (hr.below hbw9) hb hm).mono ?_
  rintro e w10 ⟨s, rfl, hsz, hb10⟩
  have hbw10 := after hbw9 hb10
  clear hbw9 hb10
  go_wp2_with fail
  refine (implPutText_any s _ (by unfold maxLen; omega)).mono ?_
  rintro e w11 ⟨v11, rfl, ho11, hb11⟩
  obtain ⟨b11, c11, hv11, hr11, hlc11⟩ := owns_opened ho11
  subst hv11
  have hbw11 := after hbw10 hb11
  have htl := textB_len s
  clear hbw10 hb11
  go_wp2_with fail
  refine (implGetText_r b11 (textB s) c11 0 _ hr11 (textB_bytes s) (by omega) hlc11).mono ?_
  rintro e w12 ⟨rfl, hb12⟩
  have ho12 := owns_below ho11 hb12
  have hbw12 := after hbw11 hb12
  clear hbw11 hb12 hr11 ho11
  go_upto_region 18 with fail
  go_cut [16, 17, 18, 19, 20, 149] (fun _ _ _ _ _ s149 wx => s149 = .bool false ∧ Below w12.heap.size w12 wx)
  case first =>
    as_aux_lemma =>
      obtain ⟨L, hL⟩ : ∃ L, (textB s).length = L := ⟨_, rfl⟩
      obtain ⟨S, hS⟩ : ∃ S, strOf (textB s) = S := ⟨_, rfl⟩
      have hcv : ∀ w', Below w12.heap.size w12 w' → (convert 22 9 (.slice b11 L c11)).run Try.prog w' = .ok (.string S) w' := fun w' hw' => by
        rw [← hL, ← hS]; exact conv_owned (textB_bytes s) (owns_below ho12 hw')
      have hcvd := hcv w12.drew (after_drew (Below.refl _ _) 1)
      have HCV : Hid _ := hcv
      have hpt : ∀ w', Calls Try.prog 20 #[.string s] w' fun e w'' => ∃ b c, e = .returned (.slice b L c) ∧ (convert 22 9 (.slice b L c)).run Try.prog w'' = .ok (.string S) w'' ∧ Below w'.heap.size w' w'' := by
        intro w'
        refine (specPutText_any s w' (by unfold maxLen; omega)).mono ?_
        rintro e w13 ⟨v13, rfl, ho13, hb13⟩
        obtain ⟨b13, c13, hv13, -⟩ := owns_open ho13
        subst hv13
        refine ⟨b13, c13, by rw [hL], ?_, hb13⟩
        rw [← hL, ← hS]; exact conv_owned (textB_bytes s) ho13
      have HPT : Hid _ := hpt
      have hgg : Hid (L = 0 ∨ 0 < L ∧ getT (textB s) 0 = some (strB s, L)) := by
        by_cases hs : 400 < s.size
        · left; rw [← hL]; unfold textB; rw [if_pos hs]; rfl
        · right
          refine ⟨?_, by rw [← hL]; exact getT_textB hs⟩
          have h1 := (numF_len 4 (s.size : Int)).1
          rw [← hL]; unfold textB putB; rw [if_neg hs, if_pos (by omega), List.length_append]; omega
      rw [hL]
      obtain ⟨R, hR⟩ : ∃ R, getT (textB s) 0 = R := ⟨_, rfl⟩
      rw [hR] at hgg ⊢
      clear hL hS hcv hpt hR ho12 htl hlc11
      rcases hgg.out with rfl | ⟨hlp, rfl⟩
      · clear hgg
        first | (go_region_held (fun w' => (convert 22 9 (.slice b11 0 c11)).run Try.prog w' = .ok (.string S) w') (first | assumption | go_keep) ((go_at_call 20; refine (HPT.out _).mono ?_; rintro e w13 ⟨b13, c13, rfl, hcv13, hb13⟩; have hcv13' := HCV.out w13 (after (after_drew (Below.refl _ _) 1) hb13)))) | fail
        all_goals (go_wp2_with fail; go_meet; exact ⟨by simp, after (after_drew (Below.refl _ _) 1) ‹_›⟩)
      · clear hgg
        simp only [tStr, tEnd, tOk, strOf_strB]
        have hlpI : (0 : Int) < (L : Int) := by omega
        have hlpD : decide ((0 : Int) < (L : Int)) = true := by simp [hlp]
        have hlpE : decide (0 < L) = true := by simp [hlp]
        go_region_held (fun w' => (convert 22 9 (.slice b11 L c11)).run Try.prog w' = .ok (.string S) w') (first | assumption | go_keep) ((go_at_call 20; refine (HPT.out _).mono ?_; rintro e w13 ⟨b13, c13, rfl, hcv13, hb13⟩; have hcv13' := HCV.out w13 (after (after_drew (Below.refl _ _) 1) hb13)))
        all_goals (go_wp2_with fail; go_meet; exact ⟨by simp, after (after_drew (Below.refl _ _) 1) ‹_›⟩)
  case rest =>
  obtain ⟨rfl, hbc⟩ := hcut
  have hbw13 := after hbw12 hbc
  clear hbw12 hbc ho12 htl hlc11
  go_wp2_with fail
  refine (DrawGetText_any a zs cap _ (hr.below hbw13) hb hm).mono ?_
  rintro e w14 ⟨b14, ts, c14, k, rfl, hby14, hl14, hlc14, hr14, hk14, hb14⟩
  have hbw14 := after hbw13 hb14
  clear hbw13 hb14
  go_wp2_with fail
  refine (implGetText_r b14 ts c14 k _ hr14 hby14 (by omega) hlc14).mono ?_
  rintro e w15 ⟨rfl, hb15⟩
  have hr15 := hr14.below hb15
  have hbw15 := after hbw14 hb15
  clear hbw14 hb15 hr14
  go_wp2_with fail
  refine (specGetText_r b14 ts c14 k _ hr15 hby14 (by omega) hlc14 hk14).mono ?_
  rintro e u ⟨rfl, hu⟩
  have hu' := hu.symm
  subst hu'
  go_upto_region 23 with fail
  go_cut [21, 22, 23, 24, 25, 26, 27, 28, 190] (fun _ _ _ _ _ _ _ _ s190 wx => s190 = .bool false ∧ Below w15.heap.size w15 wx)
  case first =>
    as_aux_lemma =>
      cases hg : getT ts k with
      | none =>
        simp only [tStr, tEnd, tOk]
        clear hg hr15
        go_region
        all_goals (go_wp2_with fail; go_meet; exact ⟨by simp, after_drew (Below.refl _ _) 1⟩)
      | some r =>
        obtain ⟨ys, j⟩ := r
        simp only [tStr, tEnd, tOk]
        have hinv := getT_inv hby14 hg
        obtain ⟨K, rfl⟩ : ∃ K : Nat, k = K := ⟨k.toNat, by omega⟩
        simp only [Int.toNat_natCast] at hinv
        obtain ⟨-, hKj0, hjl, hbys, hput0⟩ := hinv
        have hne : (textB (strOf ys)).length ≠ 0 := by
          intro h0
          have hys : ys.length ≤ 400 := by
            unfold getT at hg
            cases hgn : getN ts (K : Int) with
            | none => rw [hgn] at hg; simp at hg
            | some r =>
              rw [hgn] at hg
              simp only [] at hg
              by_cases hc : 400 < r.1 ∨ (ts.length : Int) - r.2 < r.1
              · rw [if_pos hc] at hg; simp at hg
              · rw [if_neg hc] at hg
                simp only [Option.some.injEq, Prod.mk.injEq] at hg
                rw [← hg.1]; simp; omega
          have h1 := (numF_len 4 ((strOf ys).size : Int)).1
          have h2 : (strOf ys).size = ys.length := strOf_size
          unfold textB putB at h0
          rw [if_neg (by omega), if_pos (by omega), List.length_append] at h0
          omega
        have hKj : K < j := by
          rcases Nat.lt_or_ge K j with h | h
          · exact h
          · exfalso; apply hne; rw [hput0, show j - K = 0 by omega]; simp
        obtain ⟨T, hT⟩ : ∃ T, strOf ys = T := ⟨_, rfl⟩
        rw [hT] at hput0 ⊢
        have hTs : T.size ≤ 9223372036854775807 := by
          rw [← hT, strOf_size]
          have : ys.length ≤ ts.length := by
            unfold getT at hg
            cases hgn : getN ts (K : Int) with
            | none => rw [hgn] at hg; simp at hg
            | some r =>
              rw [hgn] at hg
              simp only [] at hg
              by_cases hc : 400 < r.1 ∨ (ts.length : Int) - r.2 < r.1
              · rw [if_pos hc] at hg; simp at hg
              · rw [if_neg hc] at hg
                simp only [Option.some.injEq, Prod.mk.injEq] at hg
                rw [← hg.1]; simp; omega
          omega
        have hput : Hid (textB T = (ts.drop K).take (j - K)) := hput0
        have hcut' : ∀ w', Below w15.heap.size w15 w' → Hid (∃ b off, b14 = some ⟨b, off, none⟩ ∧ (convert 22 9 (.slice (some ⟨b, off + K, none⟩) (j - K) (c14 - K))).run Try.prog w' = .ok (.string (strOf (textB T))) w') := by
          intro w' hw'
          obtain ⟨b, off, hb', hc⟩ := rd_u8 (k := K) (hr15.below hw') (by omega)
          refine ⟨b, off, hb', ?_⟩
          rw [hput.out]
          exact conv_cut hby14 hc (by omega)
        obtain ⟨b, off, hb', -⟩ := hcut' w15 (Below.refl _ _)
        subst hb'
        obtain ⟨S, hS⟩ : ∃ S, strOf (textB T) = S := ⟨_, rfl⟩
        have hcv : ∀ w', Below w15.heap.size w15 w' → (convert 22 9 (.slice (some ⟨b, off + K, none⟩) (j - K) (c14 - K))).run Try.prog w' = .ok (.string S) w' := by
          intro w' hw'
          obtain ⟨b', off', he, hrun⟩ := hcut' w' hw'
          simp at he
          obtain ⟨rfl, rfl⟩ := he
          rw [← hS]
          exact hrun
        have hcvd := hcv w15.drew (after_drew (Below.refl _ _) 1)
        have HCV : Hid _ := hcv
        have hpt : ∀ w', Calls Try.prog 18 #[.string T] w' fun e w'' => ∃ b n c, e = .returned (.slice b n c) ∧ (convert 22 9 (.slice b n c)).run Try.prog w'' = .ok (.string S) w'' ∧ Below w'.heap.size w' w'' := by
          intro w'
          refine (implPutText_any T w' (by unfold maxLen; omega)).mono ?_
          rintro e w16 ⟨v16, rfl, ho16, hb16⟩
          obtain ⟨b16, c16, hv16, -⟩ := owns_open ho16
          subst hv16
          refine ⟨b16, _, c16, rfl, ?_, hb16⟩
          rw [← hS]; exact conv_owned (textB_bytes T) ho16
        have HPT : Hid _ := hpt
        have hcK : ¬ c14 = K := by omega
        have hI1 : (0 : Int) ≤ (K : Int) := by omega
        have hI2 : (K : Int) ≤ (j : Int) := by omega
        have hI3 : (j : Int) ≤ (c14 : Int) := by omega
        clear hg hr15 hput0 hcut' hcv hpt hS hT hne hbys
        go_region_held (fun w' => (convert 22 9 (.slice (some ⟨b, off + K, none⟩) (j - K) (c14 - K))).run Try.prog w' = .ok (.string S) w') (first | assumption | go_keep) ((go_at_call 18; refine (HPT.out _).mono ?_; rintro e w16 ⟨b16, n16, c16, rfl, hcv16, hb16⟩; have hcv16' := HCV.out w16 (after (after_drew (Below.refl _ _) 1) hb16)))
        all_goals (go_wp2_with fail; go_meet; exact ⟨by simp, after (after_drew (Below.refl _ _) 1) ‹_›⟩)
  case rest =>
  obtain ⟨rfl, hbc⟩ := hcut
  have hbw16 := after hbw15 hbc
  clear hbw15 hbc hr15 hby14
  go_wp2_with fail
  refine (DrawSum_any a zs cap _ (hr.below hbw16) hb hm).mono ?_
  rintro e w17 ⟨v17, xs, rfl, hby17, hl17, ho17, hb17⟩
  obtain ⟨b17, c17, hv17, hr17, -⟩ := owns_opened ho17
  subst hv17
  have hbw17 := after hbw16 hb17
  clear hbw16 hb17
  go_wp2_with fail
  refine (implSum_any b17 xs c17 _ hr17 hby17 (by unfold maxLen; omega)).mono ?_
  rintro e u ⟨rfl, hu⟩
  have hu' := hu.symm
  subst hu'
  go_wp2_with fail
  refine (specSum_any b17 xs c17 _ hr17 hby17 (by unfold maxLen; omega)).mono ?_
  rintro e u ⟨rfl, hu⟩
  have hu' := hu.symm
  subst hu'
  go_wp2
  go_ret
  exact ⟨ret_bool (by simp), hbw17⟩

end Go.Proofs.Ytgalfbcolbgabaa
