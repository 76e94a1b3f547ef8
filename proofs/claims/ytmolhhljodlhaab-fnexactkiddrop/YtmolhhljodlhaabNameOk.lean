/-
  NameOk, the program's and the specification's: 1 to 6 bytes from a to z.
-/
import Derived.Test.YtmolhhljodlhaabLib
import Derived.Test.YtmolhhljodlhaabIn
import Derived.Test.YtmolhhljodlhaabStrLib
namespace Go.Proofs.Ytmolhhljodlhaab
open Go.RowKit
set_option maxRecDepth 100000

def lowB (b : UInt8) : Bool := decide (97 ≤ b.toNat) && decide (b.toNat ≤ 122)
def nameB (s : ByteArray) : Bool := s.data.toList.all lowB && decide (1 ≤ s.size) && decide (s.size ≤ 6)
theorem nameB_pre {s : ByteArray} {k : Nat} (hk : k < s.size) (h : Hid ((s.data.toList.take k).all lowB = true)) : (lowB s[k] = true → Hid ((s.data.toList.take (k + 1)).all lowB = true)) ∧ (lowB s[k] = false → nameB s = false) := by
  have e : s.data.toList[k]? = some s[k] := by
    have : k < s.data.toList.length := by simpa using hk
    rw [List.getElem?_eq_getElem this]; simp [ByteArray.getElem_eq_getElem_data]
  constructor
  · intro hb
    show _ = true
    have := h.out
    rw [List.take_add_one, e]
    simp only [Option.toList_some, List.all_append, List.all_cons, List.all_nil, hb, this, Bool.and_self]
  · intro hb
    unfold nameB
    have : s.data.toList.all lowB = false := by
      cases hc : s.data.toList.all lowB with
      | false => rfl
      | true =>
        rw [List.all_eq_true] at hc
        have := hc s[k] (List.mem_of_getElem? e)
        rw [hb] at this; cases this
    rw [this]; simp
theorem nameB_all {s : ByteArray} {k : Nat} (hk : ¬ k < s.size) (h : Hid ((s.data.toList.take k).all lowB = true)) : nameB s = (decide (1 ≤ s.size) && decide (s.size ≤ 6)) := by
  have := h.out
  rw [List.take_of_length_le (by simp; omega)] at this
  unfold nameB
  rw [this]; simp

end Go.Proofs.Ytmolhhljodlhaab
