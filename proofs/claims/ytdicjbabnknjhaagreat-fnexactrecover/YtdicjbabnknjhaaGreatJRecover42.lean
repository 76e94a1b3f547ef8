/-
  What Recover answers, of both: in the form that its law's walk takes.
-/
import Derived.Test.YtdicjbabnknjhaaGreatJRecover41
import Derived.Test.YtdicjbabnknjhaaGreatJRecover40
namespace Go.Proofs.YtdicjbabnknjhaaGreat
open Go.RowKit

theorem writesL_bd {M : List (Int × ByteArray)} {ps : List ByteArray} {ws : List Int} {r : List ByteArray × List Int × List (Int × Int × ByteArray)} (hch : chipOkP ps ws) (hr : pWritesL M ps ws = some r) : chipOkP r.1 r.2.1 ∧ r.2.2.length ≤ 12568 := by
  have h8 : ¬ 8 < M.length := by intro h; rw [pWritesL, if_pos h] at hr; cases hr
  rw [pWritesL, if_neg h8] at hr
  obtain ⟨h1, h2⟩ := pWrites_right M ps ws [] r hch hr
  rw [List.length_nil] at h2
  exact ⟨h1, by omega⟩
theorem recoverR_len (ps : List ByteArray) (ws ms : List Int) (q : Int) : (recoverR ps ws ms q).1.length ≤ 20000 ∧ (recoverR ps ws ms q).2.1.1.length ≤ 20000 ∧ (recoverR ps ws ms q).2.1.2.1.length ≤ 20000 ∧ (recoverR ps ws ms q).2.1.2.2.1.length ≤ 20000 := by
  unfold recoverR
  split
  · next hok =>
    obtain ⟨hch, hmm, -⟩ := ftlOk_parts hok
    split
    · exact ⟨Nat.zero_le _, by show ps.length ≤ _; rw [hch.1]; decide, by show ws.length ≤ _; rw [hch.2.1]; decide, by show ms.length ≤ _; rw [← hmm, mMap_len]; decide⟩
    · next r hr =>
      have hb : chipOkP r.1 r.2.1 ∧ r.2.2.length ≤ 12568 := by
        unfold recoverX at hr
        split at hr
        · injection hr with hr; subst hr; exact ⟨hch, by simp⟩
        · exact writesL_bd hch hr
      exact ⟨by show r.2.2.length ≤ _; omega, by show r.1.length ≤ _; rw [hb.1.1]; decide, by show r.2.1.length ≤ _; rw [hb.1.2.1]; decide, by show (mMap r.1).length ≤ _; rw [mMap_len]; decide⟩
  · exact ⟨by decide, by decide, by decide, by decide⟩

theorem fnExactRecover_both (ps : List ByteArray) (ws ms : List Int) (q : Int) (hk0 : ps.length ≤ 1048576) (hk1 : ws.length ≤ 1048576) (hk2 : ms.length ≤ 1048576) (hs : ∀ s ∈ ps, s.size ≤ 1048576) (_hq : (Lit.int .i64 q).wf = true) :
    ∃ (G0cs : List (Int × Int × ByteArray)) (G1ps : List ByteArray) (G1ws : List Int) (G1ms : List Int) (G1q : Int) (S2 : Bool), (G0cs.length ≤ 20000 ∧ G1ps.length ≤ 20000 ∧ G1ws.length ≤ 20000 ∧ G1ms.length ≤ 20000) ∧ Hid (∀ (u : World) (v : Value), FtlRd u v ps ws ms q → Calls Tryz.prog 19 #[v] u fun e w' => ∃ v0 v1, e = .returned (.tuple #[v0, v1, .bool S2]) ∧ (ActsOwn w' u.heap.size v0 G0cs ∧ FtlOwn w' u.heap.size v1 G1ps G1ws G1ms G1q) ∧ Below u.heap.size u w') ∧ Hid (∀ (u : World) (v : Value), FtlRd u v ps ws ms q → Calls Tryz.prog 20 #[v] u fun e w' => ∃ v0 v1, e = .returned (.tuple #[v0, v1, .bool S2]) ∧ (ActsOwn w' u.heap.size v0 G0cs ∧ FtlOwn w' u.heap.size v1 G1ps G1ws G1ms G1q) ∧ Below u.heap.size u w') := by
  refine ⟨(recoverR ps ws ms q).1, (recoverR ps ws ms q).2.1.1, (recoverR ps ws ms q).2.1.2.1, (recoverR ps ws ms q).2.1.2.2.1, (recoverR ps ws ms q).2.1.2.2.2, (recoverR ps ws ms q).2.2, recoverR_len _ _ _ _, ?_, ?_⟩
  · rintro u v ⟨a, c, b, d, e, f, rfl, h1, h2, h3⟩
    refine (specRecover_fn a b e ps ws ms c d f q u h1 h2 h3 hk0 hk1 hk2 hs).mono ?_
    rintro e w' ⟨va, vf, rfl, ha, hf, hb⟩
    exact ⟨va, vf, rfl, ⟨ha, hf⟩, hb⟩
  · rintro u v ⟨a, c, b, d, e, f, rfl, h1, h2, h3⟩
    refine (implRecover_fn a b e ps ws ms c d f q u h1 h2 h3 hk0 hk1 hk2 hs).mono ?_
    rintro e w' ⟨va, vf, rfl, ha, hf, hb⟩
    exact ⟨va, vf, rfl, ⟨ha, hf⟩, hb⟩
end Go.Proofs.YtdicjbabnknjhaaGreat
