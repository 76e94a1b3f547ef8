/-
  Bytes as strings: the conversion of a byte slice whose cells are known.
-/
import Derived.Test.YtmolhhljodlhaaaChecked
import Derived.Test.YtmolhhljodlhaaaLib
import Derived.Laws.IdiomStrings
namespace Go.Proofs.Ytmolhhljodlhaaa
open Go.RowKit

/-- Bytes as a string. -/
def strOf (ys : List Int) : ByteArray := ⟨(ys.map fun z => UInt8.ofNat z.toNat).toArray⟩

theorem add_at (b o j : Nat) : (⟨b, o, none⟩ : Addr).add j = ⟨b, o + j, none⟩ := by
  by_cases h0 : j = 0
  · subst h0; simp [Addr.add]
  · simp [Addr.add, h0]

theorem conv_bytes {w : World} {b o c : Nat} {ys : List Int} (hb : IsBytes ys) (hc : ∀ i, i < ys.length → w.cell? ⟨b, o + i, none⟩ = some (.int .u8 (ys[i]?.getD 0))) :
    (convert 52 9 (.slice (some ⟨b, o, none⟩) ys.length c)).run Try.prog w = .ok (.string (strOf ys)) w := by
  have h := run_convert_bytes_back (P := Try.prog) w 52 9 5 ⟨b, o, none⟩ c (ys.map fun z => UInt8.ofNat z.toNat) Try.underlying52 Try.underlying5 Try.underlying9 (by
    intro j hj
    rw [List.length_map] at hj
    rw [add_at, hc j hj]
    have hz := hb.at j
    simp only [List.getElem_map, hj, getElem?_pos, Option.getD_some] at hz ⊢
    have e : (UInt8.ofNat (ys[j].toNat)).toNat = ys[j].toNat := by
      rw [UInt8.toNat_ofNat']; omega
    rw [e]
    simp; omega)
  rw [List.length_map] at h
  exact h

theorem u8_small {n : Int} (h0 : 0 ≤ n) (h : n ≤ 255) : IntKind.u8.wrap n = n := by
  simp [IntKind.wrap, IntKind.bits, IntKind.signed]; omega

end Go.Proofs.Ytmolhhljodlhaaa
