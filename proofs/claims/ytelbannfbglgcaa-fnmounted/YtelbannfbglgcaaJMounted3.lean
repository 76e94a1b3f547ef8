/-
  Numbers and texts against their bytes: what is put is got, and what is got was put.
  Contracts of the two sums (impl.Sum, spec.Sum) and of the laws' helpers toByteS, eqByteS over byte slices.
  Records against their texts: what a text tells is the record whose text it is.
-/
import Derived.Test.YtelbannfbglgcaaJMounted2
import Derived.Test.YtelbannfbglgcaaChecked
import Derived.Test.YtelbannfbglgcaaJMounted0
import Derived.Deep.QuietTactic
import Derived.BigQuiet
namespace Go.Proofs.Ytelbannfbglgcaa
open Go.RowKit

theorem at_mid {α : Type} (p r : List α) (x : α) : (p ++ x :: r)[p.length]? = some x := by simp

theorem getF_numF (f : Nat) (m : Int) (p r : List Int) (u n : Int) (h0 : 0 ≤ m) (h1 : m < lim f) (hu : 1 ≤ u) (hz : 1 < u → 0 < m) (hn : n + m * u ≤ 1000000000) :
    getF (p ++ (numF f m ++ r)) (f + 1) p.length u n = some (n + m * u, p.length + (numF f m).length) := by
  induction f generalizing m p u n with
  | zero =>
    simp only [lim] at h1
    unfold getF
    have e : (p ++ (numF 0 m ++ r))[p.length]?.getD 0 = m := by simp [numF]
    rw [if_pos (by simp [numF]), e, if_neg (by omega)]
    have hm : m % 128 = m := by omega
    rw [hm, if_neg (by rintro (h | ⟨rfl, h⟩)
                       · omega
                       · have := hz h; omega)]
    simp [numF]
  | succ f ih =>
    by_cases hs : m < 128
    · rw [numF_small hs]
      unfold getF
      have e : (p ++ ([m] ++ r))[p.length]?.getD 0 = m := by simp
      rw [if_pos (by simp), e, if_neg (by omega)]
      have hm : m % 128 = m := by omega
      rw [hm, if_neg (by rintro (h | ⟨rfl, h⟩)
                         · omega
                         · have := hz h; omega)]
      simp
    · rw [numF_great hs]
      unfold getF
      have e : (p ++ ((m % 128 + 128) :: numF f (m / 128) ++ r))[p.length]?.getD 0 = m % 128 + 128 := by simp
      rw [if_pos (by simp), e, if_pos (by omega)]
      have hm : (m % 128 + 128) % 128 = m % 128 := by omega
      rw [hm]
      have hmu : n + m % 128 * u + m / 128 * (u * 128) = n + m * u := by
        have : m = m % 128 + m / 128 * 128 := by omega
        have h2 : m * u = (m % 128 + m / 128 * 128) * u := by rw [← this]
        rw [h2, Int.add_mul, Int.mul_assoc, Int.mul_comm 128 u]; omega
      have := ih (m / 128) (p ++ [m % 128 + 128]) (u * 128) (n + m % 128 * u) (by omega) (lim_div h1) (by omega) (by omega) (by rw [hmu]; exact hn)
      simp only [List.append_assoc, List.singleton_append, List.length_append, List.length_singleton] at this
      rw [hmu] at this
      simp only [List.cons_append]
      rw [this]
      simp only [List.length_cons]
      congr 2
      omega

theorem getN_putB {x : Int} (r : List Int) (h0 : 0 ≤ x) (h1 : x ≤ 1000000000) : getN (putB x ++ r) 0 = some (x, (putB x).length) := by
  unfold getN putB
  rw [if_pos (by omega), if_pos ⟨h0, h1⟩]
  have := getF_numF 4 x [] r 1 0 h0 (by simp [lim]; omega) (by omega) (by omega) (by omega)
  simpa using this

theorem take_cons {zs : List Int} {j k : Nat} (hj : j < zs.length) : (zs.drop j).take (k + 1) = zs[j]?.getD 0 :: (zs.drop (j + 1)).take k := by
  rw [List.drop_eq_getElem_cons hj, List.take_succ_cons, List.getElem?_eq_getElem hj, Option.getD_some]

theorem lim_least (f : Nat) : (128 : Int) ≤ lim f := by
  induction f with
  | zero => simp [lim]
  | succ f ih => simp only [lim]; omega

theorem getF_inv {zs : List Int} (hb : IsBytes zs) (f j : Nat) (u n m : Int) (q : Nat) (hu : 1 ≤ u) (h : getF zs f j u n = some (m, q)) :
    ∃ (g : Nat) (d : Int), f = g + 1 ∧ m = n + d * u ∧ 0 ≤ d ∧ d < lim g ∧ (1 < u → 0 < d) ∧ j < q ∧ numF g d = (zs.drop j).take (q - j) := by
  induction f generalizing j u n with
  | zero => simp [getF] at h
  | succ f ih =>
    unfold getF at h
    have hz := hb.at j
    by_cases hj : j < zs.length
    · rw [if_pos hj] at h
      by_cases h1 : 128 ≤ zs[j]?.getD 0
      · rw [if_pos h1] at h
        obtain ⟨g, d, rfl, hm, hd0, hd1, hd2, hq, hnum⟩ := ih (j + 1) (u * 128) _ (by omega) h
        refine ⟨g + 1, d * 128 + zs[j]?.getD 0 % 128, rfl, ?_, by omega, ?_, by have := hd2 (by omega); omega, by omega, ?_⟩
        · rw [hm, Int.add_mul, Int.mul_assoc, Int.mul_comm 128 u]; omega
        · simp only [lim]; omega
        · have hd := hd2 (by omega)
          rw [numF_great (by omega)]
          have e1 : (d * 128 + zs[j]?.getD 0 % 128) % 128 + 128 = zs[j]?.getD 0 := by omega
          have e2 : (d * 128 + zs[j]?.getD 0 % 128) / 128 = d := by omega
          rw [e1, e2, hnum, show q - j = (q - (j + 1)) + 1 by omega, take_cons hj]
      · rw [if_neg h1] at h
        by_cases h2 : 1000000000 < n + zs[j]?.getD 0 % 128 * u ∨ zs[j]?.getD 0 = 0 ∧ 1 < u
        · rw [if_pos h2] at h; simp at h
        · rw [if_neg h2] at h
          simp only [Option.some.injEq, Prod.mk.injEq] at h
          obtain ⟨rfl, rfl⟩ := h
          have hm : zs[j]?.getD 0 % 128 = zs[j]?.getD 0 := by omega
          refine ⟨f, zs[j]?.getD 0, rfl, by rw [hm], hz.1, ?_, by omega, by omega, ?_⟩
          · have := lim_least f; omega
          · rw [numF_small (by omega), show j + 1 - j = 0 + 1 by omega, take_cons hj]; simp
    · rw [if_neg hj] at h; simp at h

theorem getN_inv {zs : List Int} (hb : IsBytes zs) {i m : Int} {q : Nat} (h : getN zs i = some (m, q)) : 0 ≤ i ∧ i < q ∧ putB m = (zs.drop i.toNat).take (q - i.toNat) := by
  have hbd := getN_bd hb h
  unfold getN at h
  by_cases h0 : 0 ≤ i
  · rw [if_pos h0] at h
    obtain ⟨g, d, hg, hm, hd0, hd1, -, hq, hnum⟩ := getF_inv hb 5 i.toNat 1 0 m q (by omega) h
    have : g = 4 := by omega
    subst this
    have hmd : m = d := by omega
    subst hmd
    refine ⟨h0, by omega, ?_⟩
    unfold putB
    rw [if_pos (by omega)]
    exact hnum
  · rw [if_neg h0] at h; simp at h

theorem strB_strOf {ys : List Int} (hb : IsBytes ys) : strB (strOf ys) = ys := by
  unfold strB strOf
  simp only [List.map_map]
  apply List.ext_getElem
  · simp
  · intro i h1 h2
    simp only [List.getElem_map, Function.comp]
    have := hb ys[i] (List.getElem_mem h2)
    rw [UInt8.toNat_ofNat']
    omega
theorem strOf_strB (s : ByteArray) : strOf (strB s) = s := by
  unfold strB strOf
  cases s with
  | mk data =>
    congr
    simp [List.map_map, Function.comp_def]
theorem strOf_size {ys : List Int} : (strOf ys).size = ys.length := by simp [strOf, ByteArray.size]

theorem getT_textB {s : ByteArray} (h : ¬ 400 < s.size) : getT (textB s) 0 = some (strB s, (textB s).length) := by
  unfold getT textB
  rw [if_neg h, getN_putB (strB s) (by omega) (by omega)]
  simp only []
  have hl := strB_len s
  rw [if_neg (by rw [List.length_append]; omega)]
  simp [← hl]

theorem getT_inv {zs : List Int} (hb : IsBytes zs) {i : Int} {ys : List Int} {q : Nat} (h : getT zs i = some (ys, q)) : 0 ≤ i ∧ i ≤ q ∧ q ≤ zs.length ∧ IsBytes ys ∧ textB (strOf ys) = (zs.drop i.toNat).take (q - i.toNat) := by
  unfold getT at h
  cases hg : getN zs i with
  | none => rw [hg] at h; simp at h
  | some r =>
    obtain ⟨n, j⟩ := r
    rw [hg] at h
    simp only [] at h
    have hbd := getN_bd hb hg
    obtain ⟨hi0, hi1, hput⟩ := getN_inv hb hg
    by_cases hc : 400 < n ∨ (zs.length : Int) - j < n
    · rw [if_pos hc] at h; simp at h
    · rw [if_neg hc] at h
      simp only [Option.some.injEq, Prod.mk.injEq] at h
      obtain ⟨rfl, rfl⟩ := h
      have hl : ((zs.drop j).take n.toNat).length = n.toNat := by simp; omega
      have hby : IsBytes ((zs.drop j).take n.toNat) := fun z hz => hb z (List.mem_of_mem_drop (List.mem_of_mem_take hz))
      refine ⟨hi0, by omega, by omega, hby, ?_⟩
      unfold textB
      rw [strOf_size, hl, if_neg (by omega), strB_strOf hby]
      have e : ((n.toNat : Nat) : Int) = n := by omega
      rw [e, hput]
      have e2 : j + n.toNat - i.toNat = (j - i.toNat) + n.toNat := by omega
      rw [e2, List.take_add, List.drop_drop, show i.toNat + (j - i.toNat) = j by omega]

end Go.Proofs.Ytelbannfbglgcaa

namespace Go.Proofs.Ytelbannfbglgcaa
open Go.RowKit

/-- What Sum tells. -/
def sumOf (l : List Int) : Int := l.foldl (fun x b => (31 * x + b) % 1000003) 7

theorem sumOf_snoc (l : List Int) (c : Int) : sumOf (l ++ [c]) = (31 * sumOf l + c) % 1000003 := by simp [sumOf]
theorem sumOf_bd (l : List Int) : 0 ≤ sumOf l ∧ sumOf l < 1000003 := by
  rcases List.eq_nil_or_concat l with h | ⟨l', c, h⟩
  · subst h; simp [sumOf]
  · rw [List.concat_eq_append] at h; subst h; rw [sumOf_snoc]; omega
theorem take_snoc {l : List Int} {k : Nat} (h : k < l.length) : l.take (k + 1) = l.take k ++ [l[k]?.getD 0] := by
  rw [List.take_succ_eq_append_getElem h]; simp [h]
theorem sumOf_take {l : List Int} {k : Nat} (h : k < l.length) : sumOf (l.take (k + 1)) = (31 * sumOf (l.take k) + l[k]?.getD 0) % 1000003 := by rw [take_snoc h, sumOf_snoc]

set_option maxHeartbeats 400000 in
theorem implSum_any (a : Option Addr) (zs : List Int) (cap : Nat) (w : World) (hr : Rd w a (u8s zs)) (hb : IsBytes zs) (hm : zs.length ≤ maxLen) :
    Calls Try.prog 113 #[.slice a zs.length cap] w fun e w' => e = .returned (.int .i64 (sumOf zs)) ∧ w' = w := by
  unfold maxLen at hm
  go_enter Try.func113, Try.ntmps113
  go_wp2
  go_loop [3, 8] (fun n i => ∃ k : Nat, k ≤ zs.length ∧ i = .int .i64 k ∧ n = .int .i64 (sumOf (zs.take k))) (fun _ i => zs.length - (intOf i).toNat)
  case atStart => exact ⟨0, Nat.zero_le _, rfl, rfl⟩
  case round =>
    obtain ⟨k, hk, rfl, rfl⟩ := hrel
    have hd := sumOf_bd (zs.take k)
    by_cases hlt : k < zs.length
    · obtain ⟨b, off, z, rfl, hck, hz, HZ⟩ := rd_u8_at hr hb hlt
      have HS : Hid (sumOf (zs.take (k + 1)) = (31 * sumOf (zs.take k) + z) % 1000003) := by rw [← HZ.out]; exact sumOf_take hlt
      clear hr
      go_wp2
      go_round
      case rel => exact ⟨k + 1, by omega, by go_num, by rw [HS.out]⟩
      case measure => simp [intOf]; omega
    · go_wp2
      go_ret
      exact ⟨ret_int (by rw [List.take_of_length_le (by omega)]), rfl⟩

set_option maxHeartbeats 400000 in
theorem specSum_any (a : Option Addr) (zs : List Int) (cap : Nat) (w : World) (hr : Rd w a (u8s zs)) (hb : IsBytes zs) (hm : zs.length ≤ maxLen) :
    Calls Try.prog 131 #[.slice a zs.length cap] w fun e w' => e = .returned (.int .i64 (sumOf zs)) ∧ w' = w := by
  unfold maxLen at hm
  go_enter Try.func131, Try.ntmps131
  go_wp2
  go_loop [3, 4] (fun n i => ∃ k : Nat, k ≤ zs.length ∧ i = .int .i64 k ∧ n = .int .i64 (sumOf (zs.take k))) (fun _ i => zs.length - (intOf i).toNat)
  case atStart => exact ⟨0, Nat.zero_le _, rfl, rfl⟩
  case round =>
    obtain ⟨k, hk, rfl, rfl⟩ := hrel
    have hd := sumOf_bd (zs.take k)
    by_cases hlt : k < zs.length
    · obtain ⟨b, off, z, rfl, hck, hz, HZ⟩ := rd_u8_at hr hb hlt
      have HS : Hid (sumOf (zs.take (k + 1)) = (31 * sumOf (zs.take k) + z) % 1000003) := by rw [← HZ.out]; exact sumOf_take hlt
      clear hr
      go_wp2
      go_round
      case rel => exact ⟨k + 1, by omega, by go_num, by rw [HS.out]⟩
      case measure => simp [intOf]; omega
    · go_wp2
      go_ret
      exact ⟨ret_int (by rw [List.take_of_length_le (by omega)]), rfl⟩

end Go.Proofs.Ytelbannfbglgcaa

namespace Go.Proofs.Ytelbannfbglgcaa
open Go.RowKit

/-- A record may be written. -/
def recOkB (s q : Int) (d : ByteArray) : Bool := decide (0 ≤ s ∧ s ≤ 25) && decide (1 ≤ q ∧ q ≤ 1000000000) && decide (d.size ≤ 400)
/-- What is summed. -/
def restB (s q : Int) (d : ByteArray) : List Int := putB s ++ putB q ++ textB d
/-- The bytes of a record; none of one that may not be written. -/
def recB (s q : Int) (d : ByteArray) : List Int := if recOkB s q d = true then putB (sumOf (restB s q d)) ++ restB s q d else []
/-- The text of a record. -/
def recT (s q : Int) (d : ByteArray) : ByteArray := strOf (recB s q d)

theorem recOkB_iff {s q : Int} {d : ByteArray} : recOkB s q d = true ↔ (0 ≤ s ∧ s ≤ 25) ∧ (1 ≤ q ∧ q ≤ 1000000000) ∧ d.size ≤ 400 := by simp [recOkB, and_assoc]
theorem IsBytes.app {a b : List Int} (h : IsBytes a) (k : IsBytes b) : IsBytes (a ++ b) := by
  intro z hz
  rcases List.mem_append.1 hz with h' | h'
  · exact h z h'
  · exact k z h'
theorem restB_bytes (s q : Int) (d : ByteArray) : IsBytes (restB s q d) := ((putB_bytes s).app (putB_bytes q)).app (textB_bytes d)
theorem recB_bytes (s q : Int) (d : ByteArray) : IsBytes (recB s q d) := by
  unfold recB
  split
  · exact (putB_bytes _).app (restB_bytes s q d)
  · intro z hz; simp at hz
theorem restB_len (s q : Int) (d : ByteArray) : (restB s q d).length ≤ 415 := by
  have h1 := putB_len s
  have h2 := putB_len q
  have h3 := textB_len d
  simp [restB]; omega
theorem recB_len (s q : Int) (d : ByteArray) : (recB s q d).length ≤ 420 := by
  unfold recB
  split
  · have h1 := putB_len (sumOf (restB s q d))
    have h2 := restB_len s q d
    simp; omega
  · simp
theorem recT_size (s q : Int) (d : ByteArray) : (recT s q d).size ≤ 420 := by
  unfold recT; rw [strOf_size]; exact recB_len s q d

theorem getN_mid {x : Int} (p r : List Int) (h0 : 0 ≤ x) (h1 : x ≤ 1000000000) : getN (p ++ (putB x ++ r)) (p.length : Int) = some (x, p.length + (putB x).length) := by
  unfold getN putB
  rw [if_pos (by omega), if_pos ⟨h0, h1⟩, Int.toNat_natCast]
  have := getF_numF 4 x p r 1 0 h0 (by simp [lim]; omega) (by omega) (by omega) (by omega)
  simpa using this
theorem getT_mid {d : ByteArray} (p : List Int) (h : ¬ 400 < d.size) : getT (p ++ textB d) (p.length : Int) = some (strB d, p.length + (textB d).length) := by
  unfold getT textB
  rw [if_neg h, getN_mid p (strB d) (by omega) (by omega)]
  simp only []
  have hl := strB_len d
  rw [if_neg (by rw [List.length_append, List.length_append]; omega)]
  have e : (p ++ (putB ↑d.size ++ strB d)).drop (p.length + (putB ↑d.size).length) = strB d := by
    rw [← List.append_assoc, ← List.length_append, List.drop_left]
  rw [e]
  have e2 : ((d.size : Nat) : Int).toNat = (strB d).length := by omega
  rw [e2, List.take_length, List.length_append, Nat.add_assoc]

/-- What a text tells: the record whose text it is. -/
def recR (t : ByteArray) : Option (Int × Int × ByteArray) :=
  match getN (strB t) 0 with
  | none => none
  | some (_, i) => match getN (strB t) i with
    | none => none
    | some (s, j) => match getN (strB t) j with
      | none => none
      | some (q, k) => match getT (strB t) k with
        | none => none
        | some (ys, _) => if recT s q (strOf ys) = t then some (s, q, strOf ys) else none

theorem recR_of {s q : Int} {d : ByteArray} (h : recOkB s q d = true) : recR (recT s q d) = some (s, q, d) := by
  obtain ⟨⟨s0, s1⟩, ⟨q0, q1⟩, hd⟩ := recOkB_iff.1 h
  have hB : strB (recT s q d) = putB (sumOf (restB s q d)) ++ (putB s ++ (putB q ++ textB d)) := by
    rw [recT, strB_strOf (recB_bytes s q d), recB, if_pos h, restB]
    simp
  have hsum := sumOf_bd (restB s q d)
  unfold recR
  rw [hB, getN_putB _ (by omega) (by omega)]
  simp only []
  rw [getN_mid _ _ s0 (by omega)]
  simp only []
  have e1 : putB (sumOf (restB s q d)) ++ (putB s ++ (putB q ++ textB d)) = (putB (sumOf (restB s q d)) ++ putB s) ++ (putB q ++ textB d) := by simp
  have e2 : (((putB (sumOf (restB s q d))).length + (putB s).length : Nat) : Int) = ((putB (sumOf (restB s q d)) ++ putB s).length : Nat) := by simp
  rw [e1, e2, getN_mid _ _ (by omega) q1]
  simp only []
  have e3 : (putB (sumOf (restB s q d)) ++ putB s) ++ (putB q ++ textB d) = ((putB (sumOf (restB s q d)) ++ putB s) ++ putB q) ++ textB d := by simp
  have e4 : (((putB (sumOf (restB s q d)) ++ putB s).length + (putB q).length : Nat) : Int) = (((putB (sumOf (restB s q d)) ++ putB s) ++ putB q).length : Nat) := by rw [← List.length_append]
  rw [e3, e4, getT_mid _ (by omega)]
  simp only []
  rw [strOf_strB, if_pos rfl]

theorem recR_some {t : ByteArray} {s q : Int} {d : ByteArray} (h : recR t = some (s, q, d)) : recOkB s q d = true ∧ recT s q d = t := by
  have hne : ¬ (strB t) = [] := by
    intro e
    unfold recR at h
    rw [e] at h
    simp [getN, getF] at h
  have ht : recT s q d = t := by
    unfold recR at h
    split at h
    · simp at h
    · split at h
      · simp at h
      · split at h
        · simp at h
        · split at h
          · simp at h
          · split at h
            · simp only [Option.some.injEq, Prod.mk.injEq] at h
              obtain ⟨rfl, rfl, rfl⟩ := h
              assumption
            · simp at h
  refine ⟨?_, ht⟩
  by_cases hok : recOkB s q d = true
  · exact hok
  · exfalso
    apply hne
    rw [← ht, recT, strB_strOf (recB_bytes s q d), recB, if_neg hok]
theorem recR_iff {t : ByteArray} {s q : Int} {d : ByteArray} : recR t = some (s, q, d) ↔ recOkB s q d = true ∧ recT s q d = t :=
  ⟨recR_some, fun ⟨h1, h2⟩ => by rw [← h2]; exact recR_of h1⟩
theorem recR_none {t : ByteArray} : recR t = none ↔ ∀ s q d, recOkB s q d = true → recT s q d ≠ t := by
  constructor
  · intro h s q d h1 h2
    rw [recR_iff.2 ⟨h1, h2⟩] at h
    simp at h
  · intro h
    cases hr : recR t with
    | none => rfl
    | some r =>
      obtain ⟨s, q, d⟩ := r
      have := recR_some hr
      exact absurd this.2 (h s q d this.1)

end Go.Proofs.Ytelbannfbglgcaa
