/-
  Both Volumes at any arguments.
-/
import Derived.Test.YtdicjbabnknjhaaVolume
namespace Go.Proofs.Ytdicjbabnknjhaa
open Go.RowKit

set_option maxRecDepth 100000 in
set_option maxHeartbeats 1600000 in
theorem implVolOut_any (a b e0 : Option Addr) (ps : List ByteArray) (ws ms : List Int) (c d f : Nat) (q v : Int) (w : World) (hv : ¬ (0 ≤ v ∧ v ≤ 1)) :
    Calls Try.prog 18 #[.agg #[.slice a ps.length c, .slice b ws.length d, .slice e0 ms.length f, .int .i64 q], .int .i64 v] w fun e w' => ∃ v', e = .returned v' ∧ StrsOwn w' w.heap.size v' (volOf ps ws ms q v) ∧ Below w.heap.size w w' := by
  obtain ⟨R, hR⟩ : ∃ R, R = volOf ps ws ms q v := ⟨_, rfl⟩
  rw [← hR]
  have HR : Hid (R = []) := by show _ = _; rw [hR, volOf, if_neg (fun h => hv h.1)]
  have hb : Below w.heap.size w (w.alloc (Obj.cells #[.slice a ps.length c, .slice b ws.length d, .slice e0 ms.length f, .int .i64 q] 43)) := (Below.refl _ _).alloc (Nat.le_refl _) _
  clear hR
  by_cases h0 : v < 0
  · clear hv
    go_enter Try.func18, Try.ntmps18
    go_wp2
    go_ret
    exact ⟨_, rfl, by rw [HR.out]; exact World.ownsRow_nil _ _ _ _, hb⟩
  · have h2 : 2 ≤ v := by omega
    clear hv
    go_enter Try.func18, Try.ntmps18
    go_wp2
    go_ret
    exact ⟨_, rfl, by rw [HR.out]; exact World.ownsRow_nil _ _ _ _, hb⟩

set_option maxRecDepth 100000 in
set_option maxHeartbeats 1600000 in
theorem specVolOut_any (a b e0 : Option Addr) (ps : List ByteArray) (ws ms : List Int) (c d f : Nat) (q v : Int) (w : World) (hv : ¬ (0 ≤ v ∧ v ≤ 1)) :
    Calls Try.prog 16 #[.agg #[.slice a ps.length c, .slice b ws.length d, .slice e0 ms.length f, .int .i64 q], .int .i64 v] w fun e w' => ∃ v', e = .returned v' ∧ StrsOwn w' w.heap.size v' (volOf ps ws ms q v) ∧ Below w.heap.size w w' := by
  obtain ⟨R, hR⟩ : ∃ R, R = volOf ps ws ms q v := ⟨_, rfl⟩
  rw [← hR]
  have HR : Hid (R = []) := by show _ = _; rw [hR, volOf, if_neg (fun h => hv h.1)]
  have hd : decide (0 ≤ v ∧ v ≤ 1) = false := by simpa using hv
  obtain ⟨A, hA⟩ : ∃ A, A = w.alloc (Obj.cells #[.slice a ps.length c, .slice b ws.length d, .slice e0 ms.length f, .int .i64 q] 43) := ⟨_, rfl⟩
  have hbA : Below w.heap.size w A := by rw [hA]; exact (Below.refl _ _).alloc (Nat.le_refl _) _
  obtain ⟨W, hW⟩ : ∃ W, W = A.alloc (Obj.cells #[] 9) := ⟨_, rfl⟩
  have hbW : Below A.heap.size A W := by rw [hW]; exact (Below.refl _ _).alloc (Nat.le_refl _) _
  have hsA : A.heap.size = w.heap.size + 1 := by rw [hA]; simp
  have hW0 : W.ownsRow w.heap.size 9 1 (.slice (some ⟨w.heap.size + 1, 0, none⟩) 0 0) 0 [] := by
    have := World.ownsRow_made (base := w.heap.size) (e := 9) (size := 1) A #[] 0 (by omega) (Nat.zero_le _) rfl
    rw [hW, ← hsA]; exact this
  have hfin := after hbA hbW
  clear hR hv hbA hbW hsA
  go_enter Try.func16, Try.ntmps16
  go_wp2_with (first | (go_at_call 41; refine (in_any _ _ _ _).mono ?_; rw [hd]; rw [← hA, ← hW]; clear hA hW; rintro e u ⟨rfl, hu⟩; have hu' := hu.symm; subst hu'))
  go_ret
  exact ⟨_, rfl, by rw [HR.out]; exact hW0, hfin⟩

theorem fnExactVolume_both (ps : List ByteArray) (ws : List Int) (ms : List Int) (q : Int) (vol : Int) (hk0 : ps.length ≤ 1048576) (hk1 : ws.length ≤ 1048576) (hk2 : ms.length ≤ 1048576) (hs : ∀ s ∈ ps, s.size ≤ 1048576) (_hq : (Lit.int .i64 q).wf = true) (_hv : (Lit.int .i64 vol).wf = true) :
    ∃ (G0xs : List ByteArray), (G0xs.length ≤ 1000) ∧ Hid (∀ (u : World) (v : Value), FtlRd u v ps ws ms q → Calls Try.prog 16 #[v, .int .i64 vol] u fun e w' => ∃ v0, e = .returned (v0) ∧ (StrsOwn w' u.heap.size v0 G0xs) ∧ Below u.heap.size u w') ∧ Hid (∀ (u : World) (v : Value), FtlRd u v ps ws ms q → Calls Try.prog 18 #[v, .int .i64 vol] u fun e w' => ∃ v0, e = .returned (v0) ∧ (StrsOwn w' u.heap.size v0 G0xs) ∧ Below u.heap.size u w') := by
  refine ⟨volOf ps ws ms q vol, volOf_len _ _ _ _ _, ?_, ?_⟩
  · rintro u v ⟨a, c, b, d, e, f, rfl, h1, h2, h3⟩
    by_cases hv : 0 ≤ vol ∧ vol ≤ 1
    · obtain ⟨V, rfl⟩ : ∃ V : Nat, vol = V := ⟨vol.toNat, by omega⟩
      exact specVolIn_any a b e ps ws ms c d f V q u (by omega) h1 h2 h3 hk0 hk1 hk2 hs
    · exact specVolOut_any a b e ps ws ms c d f q vol u hv
  · rintro u v ⟨a, c, b, d, e, f, rfl, h1, h2, h3⟩
    by_cases hv : 0 ≤ vol ∧ vol ≤ 1
    · obtain ⟨V, rfl⟩ : ∃ V : Nat, vol = V := ⟨vol.toNat, by omega⟩
      exact implVolIn_any a b e ps ws ms c d f V q u (by omega) h1 h2 h3 hk0 hk1 hk2 hs
    · exact implVolOut_any a b e ps ws ms c d f q vol u hv
end Go.Proofs.Ytdicjbabnknjhaa
