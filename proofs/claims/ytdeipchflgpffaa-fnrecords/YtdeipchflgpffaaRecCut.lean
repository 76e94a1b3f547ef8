/-
  A record's text that is cut short is the text of no record.
-/
import Derived.Test.YtdeipchflgpffaaRecMath
namespace Go.Proofs.Ytdeipchflgpffaa
open Go.RowKit

theorem putB_head {x y : Int} {r r' : List Int} (hx0 : 0 ≤ x) (hx1 : x ≤ 1000000000) (hy0 : 0 ≤ y) (hy1 : y ≤ 1000000000) (h : putB x ++ r = putB y ++ r') : x = y ∧ r = r' := by
  have h1 := getN_putB r hx0 hx1
  have h2 := getN_putB r' hy0 hy1
  rw [h, h2] at h1
  simp only [Option.some.injEq, Prod.mk.injEq] at h1
  obtain ⟨rfl, -⟩ := h1
  exact ⟨rfl, List.append_cancel_left h⟩

theorem strB_extract (t : ByteArray) (k : Nat) : strB (t.extract 0 k) = (strB t).take k := by
  unfold strB
  rw [ByteArray.data_extract]
  simp [List.map_take]

theorem recR_short {s q : Int} {d : ByteArray} (hok : recOkB s q d = true) {k : Nat} (hk : k < (recT s q d).size) : recR ((recT s q d).extract 0 k) = none := by
  rw [recR_none]
  intro s' q' d' hok' he
  obtain ⟨⟨s0, s1⟩, ⟨q0, q1⟩, hd⟩ := recOkB_iff.1 hok
  obtain ⟨⟨s0', s1'⟩, ⟨q0', q1'⟩, hd'⟩ := recOkB_iff.1 hok'
  have hB : strB (recT s q d) = putB (sumOf (restB s q d)) ++ (putB s ++ (putB q ++ textB d)) := by
    rw [recT, strB_strOf (recB_bytes s q d), recB, if_pos hok, restB]; simp
  have hB' : strB (recT s' q' d') = putB (sumOf (restB s' q' d')) ++ (putB s' ++ (putB q' ++ textB d')) := by
    rw [recT, strB_strOf (recB_bytes s' q' d'), recB, if_pos hok', restB]; simp
  have hcut : strB (recT s' q' d') = (strB (recT s q d)).take k := by rw [he, strB_extract]
  have hall : strB (recT s q d) = strB (recT s' q' d') ++ (strB (recT s q d)).drop k := by rw [hcut, List.take_append_drop]
  have hlen : (strB (recT s q d)).length = (recT s q d).size := strB_len _
  have hne : (strB (recT s q d)).drop k ≠ [] := by
    intro h0
    have := congrArg List.length h0
    simp at this
    omega
  generalize hR : (strB (recT s q d)).drop k = R at hall hne
  rw [hB, hB'] at hall
  simp only [List.append_assoc] at hall
  have b1 := sumOf_bd (restB s q d)
  have b2 := sumOf_bd (restB s' q' d')
  obtain ⟨-, h1⟩ := putB_head (by omega) (by omega) (by omega) (by omega) hall
  obtain ⟨-, h2⟩ := putB_head s0 (by omega) s0' (by omega) h1
  obtain ⟨-, h3⟩ := putB_head (by omega) q1 (by omega) q1' h2
  unfold textB at h3
  rw [if_neg (by omega), if_neg (by omega), List.append_assoc] at h3
  obtain ⟨h4, h5⟩ := putB_head (by omega) (by omega) (by omega) (by omega) h3
  have h6 := congrArg List.length h5
  rw [List.length_append, strB_len, strB_len] at h6
  apply hne
  apply List.eq_nil_of_length_eq_zero
  omega

end Go.Proofs.Ytdeipchflgpffaa
