/-
  A record that came in as an argument.
-/
import Derived.Test.YtgmgmknjocfdfaaImplRead3
import Derived.Lib.SmallJoins
namespace Go.Proofs.Ytgmgmknjocfdfaa
open Go.RowKit Go.ChangeShapes Go.WideShapes Go.ChangeAt Go.Joins

theorem i64_of {n : Int} (h : (Lit.int .i64 n).wf = true) : -9223372036854775808 ≤ n ∧ n ≤ 9223372036854775807 := by
  simp [Lit.wf, IntKind.min, IntKind.max, IntKind.bits, IntKind.signed] at h
  omega

theorem rec_of {H : Type} {enc : TypeId × Value → H} {W : World} {r : Reach} {base : Nat} {v : Value} {d : DataW H} {p : List MemPlace} (hv : Value.okWide Try.prog W r base 33 v) (h : DataW.Trod enc Try.prog W 0 (fun _ => true) true 33 v d p) :
    ∃ (s q : Int) (x : ByteArray), v = .agg #[.int .i64 s, .int .i64 q, .string x] ∧ x.size ≤ maxLen ∧ (-9223372036854775808 ≤ s ∧ s ≤ 9223372036854775807) ∧ (-9223372036854775808 ≤ q ∧ q ≤ 9223372036854775807) := by
  obtain ⟨c0, c1, c2, y0, y1, y2, m, rfl, -, -, hy0, hy1, hy2⟩ := open_agg3 Try.underlying33 (by kernel_rfl) (by kernel_rfl) hv h
  obtain ⟨s, e0, -, ws⟩ := DataW.trod_int Try.underlying3 hy0
  obtain ⟨q, e1, -, wq⟩ := DataW.trod_int Try.underlying3 hy1
  obtain ⟨x, e2, -, hx⟩ := DataW.trod_string Try.underlying9 hy2
  cases e0
  cases e1
  cases e2
  exact ⟨s, q, x, rfl, hx, i64_of ws, i64_of wq⟩

end Go.Proofs.Ytgmgmknjocfdfaa
