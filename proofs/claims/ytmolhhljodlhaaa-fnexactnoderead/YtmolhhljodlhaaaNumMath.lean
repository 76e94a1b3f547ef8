/-
  Numbers and texts against their bytes: what is put is got, and what is got was put.
-/
import Derived.Test.YtmolhhljodlhaaaGetText
namespace Go.Proofs.Ytmolhhljodlhaaa
open Go.RowKit

theorem at_mid {α : Type} (p r : List α) (x : α) : (p ++ x :: r)[p.length]? = some x := by simp

theorem getF_numF (f : Nat) (m : Int) (p r : List Int) (u n : Int) (h0 : 0 ≤ m) (h1 : m < lim f) (hu : 1 ≤ u) (hz : 1 < u → 0 < m) (hn : n + m * u ≤ 1000000000) :
    getF (p ++ (numF f m ++ r)) (f + 1) p.length u n = some (n + m * u, p.length + (numF f m).length) := by
  induction f generalizing m p u n with
  | zero =>
    simp only [lim] at h1
    unfold getF
    have e : (p ++ (numF 0 m ++ r))[p.length]?.getD 0 = m := by simp [numF]
    rw [if_pos (by simp [numF]), e, if_neg (by omega)]
    have hm : m % 128 = m := by omega
    rw [hm, if_neg (by rintro (h | ⟨rfl, h⟩)
                       · omega
                       · have := hz h; omega)]
    simp [numF]
  | succ f ih =>
    by_cases hs : m < 128
    · rw [numF_small hs]
      unfold getF
      have e : (p ++ ([m] ++ r))[p.length]?.getD 0 = m := by simp
      rw [if_pos (by simp), e, if_neg (by omega)]
      have hm : m % 128 = m := by omega
      rw [hm, if_neg (by rintro (h | ⟨rfl, h⟩)
                         · omega
                         · have := hz h; omega)]
      simp
    · rw [numF_great hs]
      unfold getF
      have e : (p ++ ((m % 128 + 128) :: numF f (m / 128) ++ r))[p.length]?.getD 0 = m % 128 + 128 := by simp
      rw [if_pos (by simp), e, if_pos (by omega)]
      have hm : (m % 128 + 128) % 128 = m % 128 := by omega
      rw [hm]
      have hmu : n + m % 128 * u + m / 128 * (u * 128) = n + m * u := by
        have : m = m % 128 + m / 128 * 128 := by omega
        have h2 : m * u = (m % 128 + m / 128 * 128) * u := by rw [← this]
        rw [h2, Int.add_mul, Int.mul_assoc, Int.mul_comm 128 u]; omega
      have := ih (m / 128) (p ++ [m % 128 + 128]) (u * 128) (n + m % 128 * u) (by omega) (lim_div h1) (by omega) (by omega) (by rw [hmu]; exact hn)
      simp only [List.append_assoc, List.singleton_append, List.length_append, List.length_singleton] at this
      rw [hmu] at this
      simp only [List.cons_append]
      rw [this]
      simp only [List.length_cons]
      congr 2
      omega

theorem getN_putB {x : Int} (r : List Int) (h0 : 0 ≤ x) (h1 : x ≤ 1000000000) : getN (putB x ++ r) 0 = some (x, (putB x).length) := by
  unfold getN putB
  rw [if_pos (by omega), if_pos ⟨h0, h1⟩]
  have := getF_numF 4 x [] r 1 0 h0 (by simp [lim]; omega) (by omega) (by omega) (by omega)
  simpa using this

theorem take_cons {zs : List Int} {j k : Nat} (hj : j < zs.length) : (zs.drop j).take (k + 1) = zs[j]?.getD 0 :: (zs.drop (j + 1)).take k := by
  rw [List.drop_eq_getElem_cons hj, List.take_succ_cons, List.getElem?_eq_getElem hj, Option.getD_some]

theorem lim_least (f : Nat) : (128 : Int) ≤ lim f := by
  induction f with
  | zero => simp [lim]
  | succ f ih => simp only [lim]; omega

theorem getF_inv {zs : List Int} (hb : IsBytes zs) (f j : Nat) (u n m : Int) (q : Nat) (hu : 1 ≤ u) (h : getF zs f j u n = some (m, q)) :
    ∃ (g : Nat) (d : Int), f = g + 1 ∧ m = n + d * u ∧ 0 ≤ d ∧ d < lim g ∧ (1 < u → 0 < d) ∧ j < q ∧ numF g d = (zs.drop j).take (q - j) := by
  induction f generalizing j u n with
  | zero => simp [getF] at h
  | succ f ih =>
    unfold getF at h
    have hz := hb.at j
    by_cases hj : j < zs.length
    · rw [if_pos hj] at h
      by_cases h1 : 128 ≤ zs[j]?.getD 0
      · rw [if_pos h1] at h
        obtain ⟨g, d, rfl, hm, hd0, hd1, hd2, hq, hnum⟩ := ih (j + 1) (u * 128) _ (by omega) h
        refine ⟨g + 1, d * 128 + zs[j]?.getD 0 % 128, rfl, ?_, by omega, ?_, by have := hd2 (by omega); omega, by omega, ?_⟩
        · rw [hm, Int.add_mul, Int.mul_assoc, Int.mul_comm 128 u]; omega
        · simp only [lim]; omega
        · have hd := hd2 (by omega)
          rw [numF_great (by omega)]
          have e1 : (d * 128 + zs[j]?.getD 0 % 128) % 128 + 128 = zs[j]?.getD 0 := by omega
          have e2 : (d * 128 + zs[j]?.getD 0 % 128) / 128 = d := by omega
          rw [e1, e2, hnum, show q - j = (q - (j + 1)) + 1 by omega, take_cons hj]
      · rw [if_neg h1] at h
        by_cases h2 : 1000000000 < n + zs[j]?.getD 0 % 128 * u ∨ zs[j]?.getD 0 = 0 ∧ 1 < u
        · rw [if_pos h2] at h; simp at h
        · rw [if_neg h2] at h
          simp only [Option.some.injEq, Prod.mk.injEq] at h
          obtain ⟨rfl, rfl⟩ := h
          have hm : zs[j]?.getD 0 % 128 = zs[j]?.getD 0 := by omega
          refine ⟨f, zs[j]?.getD 0, rfl, by rw [hm], hz.1, ?_, by omega, by omega, ?_⟩
          · have := lim_least f; omega
          · rw [numF_small (by omega), show j + 1 - j = 0 + 1 by omega, take_cons hj]; simp
    · rw [if_neg hj] at h; simp at h

theorem getN_inv {zs : List Int} (hb : IsBytes zs) {i m : Int} {q : Nat} (h : getN zs i = some (m, q)) : 0 ≤ i ∧ i < q ∧ putB m = (zs.drop i.toNat).take (q - i.toNat) := by
  have hbd := getN_bd hb h
  unfold getN at h
  by_cases h0 : 0 ≤ i
  · rw [if_pos h0] at h
    obtain ⟨g, d, hg, hm, hd0, hd1, -, hq, hnum⟩ := getF_inv hb 5 i.toNat 1 0 m q (by omega) h
    have : g = 4 := by omega
    subst this
    have hmd : m = d := by omega
    subst hmd
    refine ⟨h0, by omega, ?_⟩
    unfold putB
    rw [if_pos (by omega)]
    exact hnum
  · rw [if_neg h0] at h; simp at h

theorem strB_strOf {ys : List Int} (hb : IsBytes ys) : strB (strOf ys) = ys := by
  unfold strB strOf
  simp only [List.map_map]
  apply List.ext_getElem
  · simp
  · intro i h1 h2
    simp only [List.getElem_map, Function.comp]
    have := hb ys[i] (List.getElem_mem h2)
    rw [UInt8.toNat_ofNat']
    omega
theorem strOf_strB (s : ByteArray) : strOf (strB s) = s := by
  unfold strB strOf
  cases s with
  | mk data =>
    congr
    simp [List.map_map, Function.comp_def]
theorem strOf_size {ys : List Int} : (strOf ys).size = ys.length := by simp [strOf, ByteArray.size]

theorem getT_textB {s : ByteArray} (h : ¬ 400 < s.size) : getT (textB s) 0 = some (strB s, (textB s).length) := by
  unfold getT textB
  rw [if_neg h, getN_putB (strB s) (by omega) (by omega)]
  simp only []
  have hl := strB_len s
  rw [if_neg (by rw [List.length_append]; omega)]
  simp [← hl]

theorem getT_inv {zs : List Int} (hb : IsBytes zs) {i : Int} {ys : List Int} {q : Nat} (h : getT zs i = some (ys, q)) : 0 ≤ i ∧ i ≤ q ∧ q ≤ zs.length ∧ IsBytes ys ∧ textB (strOf ys) = (zs.drop i.toNat).take (q - i.toNat) := by
  unfold getT at h
  cases hg : getN zs i with
  | none => rw [hg] at h; simp at h
  | some r =>
    obtain ⟨n, j⟩ := r
    rw [hg] at h
    simp only [] at h
    have hbd := getN_bd hb hg
    obtain ⟨hi0, hi1, hput⟩ := getN_inv hb hg
    by_cases hc : 400 < n ∨ (zs.length : Int) - j < n
    · rw [if_pos hc] at h; simp at h
    · rw [if_neg hc] at h
      simp only [Option.some.injEq, Prod.mk.injEq] at h
      obtain ⟨rfl, rfl⟩ := h
      have hl : ((zs.drop j).take n.toNat).length = n.toNat := by simp; omega
      have hby : IsBytes ((zs.drop j).take n.toNat) := fun z hz => hb z (List.mem_of_mem_drop (List.mem_of_mem_take hz))
      refine ⟨hi0, by omega, by omega, hby, ?_⟩
      unfold textB
      rw [strOf_size, hl, if_neg (by omega), strB_strOf hby]
      have e : ((n.toNat : Nat) : Int) = n := by omega
      rw [e, hput]
      have e2 : j + n.toNat - i.toNat = (j - i.toNat) + n.toNat := by omega
      rw [e2, List.take_add, List.drop_drop, show i.toNat + (j - i.toNat) = j by omega]

end Go.Proofs.Ytmolhhljodlhaaa
