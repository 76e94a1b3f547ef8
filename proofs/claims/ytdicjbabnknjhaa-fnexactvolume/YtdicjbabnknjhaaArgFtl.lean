/-
  What is mounted, as it came in as an argument; chips too, as values that can be read.
-/
import Derived.Test.YtdicjbabnknjhaaLawKit
namespace Go.Proofs.Ytdicjbabnknjhaa
open Go.RowKit Go.ChangeShapes Go.WideShapes Go.ChangeAt Go.Joins Go.Deep
set_option maxRecDepth 100000

theorem chipRd_of {H : Type} {enc : TypeId × Value → H} {W : World} {r : Reach} {base : Nat} {v : Value} {d : DataW H} {p : List MemPlace} (hv : Value.okWide Try.prog W r base 36 v) (h : DataW.Trod enc Try.prog W 0 (fun _ => true) true 36 v d p) :
    ∃ a ps c b ws e, v = .agg #[.slice a (List.length ps) c, .slice b (List.length ws) e] ∧ ChipRd W (.agg #[.slice a (List.length ps) c, .slice b (List.length ws) e]) ps ws ∧ ps.length ≤ maxLen ∧ ws.length ≤ maxLen ∧ ∀ s ∈ ps, s.size ≤ maxLen := by
  obtain ⟨a, ps, c, b, ws, e, rfl, h1, h2, h3, h4, h5⟩ := chip_of hv h
  exact ⟨a, ps, c, b, ws, e, rfl, ⟨a, c, b, e, rfl, h1, h2⟩, h3, h4, h5⟩

set_option maxRecDepth 100000 in
theorem ftl_of {H : Type} {enc : TypeId × Value → H} {W : World} {r : Reach} {base : Nat} {v : Value} {d : DataW H} {p : List MemPlace} (hv : Value.okWide Try.prog W r base 38 v) (h : DataW.Trod enc Try.prog W 0 (fun _ => true) true 38 v d p) :
    ∃ a ps c b ws e f ms g q, v = .agg #[.slice a (List.length ps) c, .slice b (List.length ws) e, .slice f (List.length ms) g, .int .i64 q] ∧ FtlRd W (.agg #[.slice a (List.length ps) c, .slice b (List.length ws) e, .slice f (List.length ms) g, .int .i64 q]) ps ws ms q ∧
      ps.length ≤ maxLen ∧ ws.length ≤ maxLen ∧ ms.length ≤ maxLen ∧ (∀ s ∈ ps, s.size ≤ maxLen) ∧ (Lit.int .i64 q).wf = true := by
  obtain ⟨cs, rfl, hsz⟩ := okWide_struct Try.underlying38 hv
  obtain ⟨c0, c1, c2, c3, rfl⟩ := array4 (hsz.trans (by kernel_rfl))
  obtain ⟨fuel, hf⟩ := h
  obtain ⟨y0, y1, y2, n, -, -, h0, h1, h2⟩ := trod_struct3 Try.underlying38 hf
  have k0 : DataW.trod enc Try.prog W 0 (fun _ => true) true n 36 [c0, c1] = some y0 := h0
  have k1 : DataW.trod enc Try.prog W 0 (fun _ => true) true n 34 [c2] = some y1 := h1
  have k2 : DataW.trod enc Try.prog W 0 (fun _ => true) true n 3 [c3] = some y2 := h2
  obtain ⟨z0, z1, n', -, -, g0, g1⟩ := trod_struct2 Try.underlying36 k0
  have j0 : DataW.trod enc Try.prog W 0 (fun _ => true) true n' 33 [c0] = some z0 := g0
  have j1 : DataW.trod enc Try.prog W 0 (fun _ => true) true n' 34 [c1] = some z1 := g1
  obtain ⟨a, ps, c, rfl, hp, hl, hs⟩ := rdStrings_of j0
  obtain ⟨b, ws, e, rfl, hw, hm⟩ := rdInts_of j1
  obtain ⟨f, ms, g, rfl, hr, hn⟩ := rdInts_of k1
  obtain ⟨q, e1, -, wq⟩ := DataW.trod_int Try.underlying3 k2
  cases e1
  exact ⟨a, ps, c, b, ws, e, f, ms, g, q, rfl, ⟨a, c, b, e, f, g, rfl, hp, hw, hr⟩, hl, hm, hn, hs, wq⟩

end Go.Proofs.Ytdicjbabnknjhaa
