/-
  What Writes answers, of both: in the form that its law's walk takes.
-/
import Derived.Test.YtghlnagainodaaaGreatJWrites35
namespace Go.Proofs.YtghlnagainodaaaGreat
open Go.RowKit

theorem writesR_len (ps : List ByteArray) (ws ms : List Int) (q : Int) (L : List (Int × ByteArray)) : (writesR ps ws ms q L).1.length ≤ 20000 ∧ (writesR ps ws ms q L).2.1.1.length ≤ 20000 ∧ (writesR ps ws ms q L).2.1.2.1.length ≤ 20000 ∧ (writesR ps ws ms q L).2.1.2.2.1.length ≤ 20000 := by
  unfold writesR
  split
  · next hok =>
    obtain ⟨hch, hmm, -⟩ := ftlOk_parts hok
    split
    · exact ⟨Nat.zero_le _, by show ps.length ≤ _; rw [hch.1]; decide, by show ws.length ≤ _; rw [hch.2.1]; decide, by show ms.length ≤ _; rw [← hmm, mMap_len]; decide⟩
    · next r hr =>
      have h8 : ¬ 8 < L.length := by intro h; rw [pWritesL, if_pos h] at hr; cases hr
      rw [pWritesL, if_neg h8] at hr
      obtain ⟨h1, h2⟩ := pWrites_right L ps ws [] r hch hr
      rw [List.length_nil] at h2
      exact ⟨by show r.2.2.length ≤ _; omega, by show r.1.length ≤ _; rw [h1.1]; decide, by show r.2.1.length ≤ _; rw [h1.2.1]; decide, by show (mMap r.1).length ≤ _; rw [mMap_len]; decide⟩
  · exact ⟨by decide, by decide, by decide, by decide⟩

theorem fnExactWrites_both (ps : List ByteArray) (ws ms : List Int) (q : Int) (L : List (Int × ByteArray)) (hk0 : ps.length ≤ 1048576) (hk1 : ws.length ≤ 1048576) (hk2 : ms.length ≤ 1048576) (hkL : L.length ≤ 1048576) (hsL : ∀ x ∈ L, x.2.size ≤ 1048576) (hwL : ∀ x ∈ L, (Lit.int .i64 x.1).wf = true) (hs : ∀ s ∈ ps, s.size ≤ 1048576) (_hq : (Lit.int .i64 q).wf = true) :
    ∃ (G0cs : List (Int × Int × ByteArray)) (G1ps : List ByteArray) (G1ws : List Int) (G1ms : List Int) (G1q : Int) (S2 : Bool), (G0cs.length ≤ 20000 ∧ G1ps.length ≤ 20000 ∧ G1ws.length ≤ 20000 ∧ G1ms.length ≤ 20000) ∧ Hid (∀ (u : World) (v v2 : Value), FtlRd u v ps ws ms q → PutsRd u v2 L → Calls Tryz.prog 6 #[v, v2] u fun e w' => ∃ v0 v1, e = .returned (.tuple #[v0, v1, .bool S2]) ∧ (ActsOwn w' u.heap.size v0 G0cs ∧ FtlOwn w' u.heap.size v1 G1ps G1ws G1ms G1q) ∧ Below u.heap.size u w') ∧ Hid (∀ (u : World) (v v2 : Value), FtlRd u v ps ws ms q → PutsRd u v2 L → Calls Tryz.prog 9 #[v, v2] u fun e w' => ∃ v0 v1, e = .returned (.tuple #[v0, v1, .bool S2]) ∧ (ActsOwn w' u.heap.size v0 G0cs ∧ FtlOwn w' u.heap.size v1 G1ps G1ws G1ms G1q) ∧ Below u.heap.size u w') := by
  have hb : ∀ x ∈ L, x.2.size ≤ 1048576 ∧ -9223372036854775808 ≤ x.1 ∧ x.1 ≤ 9223372036854775807 := fun x hx => ⟨hsL x hx, (bounds_i64 (hwL x hx)).1, (bounds_i64 (hwL x hx)).2⟩
  refine ⟨(writesR ps ws ms q L).1, (writesR ps ws ms q L).2.1.1, (writesR ps ws ms q L).2.1.2.1, (writesR ps ws ms q L).2.1.2.2.1, (writesR ps ws ms q L).2.1.2.2.2, (writesR ps ws ms q L).2.2, writesR_len _ _ _ _ _, ?_, ?_⟩
  · rintro u v v2 ⟨a, c, b, d, e, f, rfl, h1, h2, h3⟩ ⟨la, lc, rfl, h4⟩
    refine (specWrites_fn a b e ps ws ms c d f lc la q L u h1 h2 h3 hk0 hk1 hk2 hs hkL hb h4).mono ?_
    rintro e w' ⟨va, vf, rfl, ha, hf, hb⟩
    exact ⟨va, vf, rfl, ⟨ha, hf⟩, hb⟩
  · rintro u v v2 ⟨a, c, b, d, e, f, rfl, h1, h2, h3⟩ ⟨la, lc, rfl, h4⟩
    refine (implWrites_fn a b e ps ws ms c d f lc la q L u h1 h2 h3 hk0 hk1 hk2 hs hkL (fun x hx => ⟨by have := (hb x hx).1; unfold maxLen; omega, (hb x hx).2⟩) h4).mono ?_
    rintro e w' ⟨va, vf, rfl, ha, hf, hb⟩
    exact ⟨va, vf, rfl, ⟨ha, hf⟩, hb⟩
end Go.Proofs.YtghlnagainodaaaGreat
