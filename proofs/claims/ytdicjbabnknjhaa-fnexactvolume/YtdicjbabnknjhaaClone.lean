/-
  Contracts of slices.Clone at []string and []int: a row that is not empty is copied into a row of the call's own.
-/
import Derived.Test.YtdicjbabnknjhaaSpecCopy
import Derived.Lib.SliceRun
namespace Go.Proofs.Ytdicjbabnknjhaa
open Go.RowKit

theorem rd_cells {w : World} {b o : Nat} {vs : List Value} (h : Rd w (some ⟨b, o, none⟩) vs) (j : Nat) (u : Value) (hu : vs[j]? = some u) : w.cell? ((⟨b, o, none⟩ : Addr).add j) = some u := by
  rcases h with h | ⟨b', o', he, hc⟩
  · rw [h] at hu; simp at hu
  · simp at he; obtain ⟨rfl, rfl⟩ := he; rw [add_at]; exact hc j u hu

set_option maxHeartbeats 1600000 in
theorem cloneString_any (b o c : Nat) (ps : List ByteArray) (w : World) (hp : Rd w (some ⟨b, o, none⟩) (vsString ps)) (hl : ps.length ≤ 1048576) :
    Calls Try.prog 79 #[.slice (some ⟨b, o, none⟩) ps.length c] w fun e w' => ∃ v, e = .returned v ∧ w'.ownsRow w.heap.size 9 1 v ps.length (vsString ps) ∧ Below w.heap.size w w' := by
  obtain ⟨i1, hi1, hy0, hy1, hy2⟩ := info_parts infoString
  obtain ⟨W, hW⟩ : ∃ W, W = w.alloc (Obj.cells #[] 9) := ⟨_, rfl⟩
  have hbW : Below w.heap.size w W := by subst hW; exact (Below.refl _ _).alloc (Nat.le_refl _) _
  have HC : Hid (∀ j u, (vsString ps)[j]? = some u → W.cell? ((⟨b, o, none⟩ : Addr).add j) = some u) := fun j u hu => rd_cells (hp.below hbW) j u hu
  have hW0 : W.ownsRow w.heap.size 9 1 (.slice (some ⟨w.heap.size, 0, none⟩) 0 0) 0 [] := by subst hW; exact World.ownsRow_made w #[] 0 (Nat.le_refl _) (Nat.zero_le _) rfl
  have hsW : w.heap.size < W.heap.size := by subst hW; simp
  clear hp
  have q22 : ∀ (w : World) (a : Option Addr) (n c n' c' : Nat), (binOp .eql 33 (.slice a n c) (.slice none n' c')).run Try.prog w = .ok (.bool a.isNone) w := fun w a n c n' c' => Lib.run_eql_slice_nil w _ _ a n c n' c' Try.underlying33
  go_enter Try.func79, Try.ntmps79
  go_wp2_with (at_builtin; rw [← hW]; refine wpList_append_own _ rfl _ _ 33 rfl w.heap.size 9 i1 (.string ⟨#[]⟩) 1 16 Try.underlying33 hi1 hy0 hy1 hy2 rfl (by decide) _ _ _ rfl hW0 ⟨b, o, none⟩ ps.length c (vsString ps) rfl ?q1 ?q2 ?q3 ?q4 ?q5 ?q6 ?_)
  case q1 => simp
  case q2 => exact HC.out
  case q3 => intro u hu; simp at hu; obtain ⟨x, _, rfl⟩ := hu; rfl
  case q4 => unfold maxLen; omega
  case q5 => omega
  case q6 => omega
  intro v' w1 hown hgrow _
  go_wp2
  go_ret
  refine ⟨v', rfl, by simpa using hown, ?_⟩
  rw [← hW] at hgrow
  exact hbW.grown hgrow (by omega) (by intro k hk; simp [Value.ownBlock] at hk; omega)

set_option maxHeartbeats 1600000 in
theorem cloneInt_any (b o c : Nat) (ws : List Int) (w : World) (hp : Rd w (some ⟨b, o, none⟩) (vsInt ws)) (hl : ws.length ≤ 1048576) :
    Calls Try.prog 80 #[.slice (some ⟨b, o, none⟩) ws.length c] w fun e w' => ∃ v, e = .returned v ∧ w'.ownsRow w.heap.size 3 1 v ws.length (vsInt ws) ∧ Below w.heap.size w w' := by
  obtain ⟨i1, hi1, hy0, hy1, hy2⟩ := info_parts infoInt
  obtain ⟨W, hW⟩ : ∃ W, W = w.alloc (Obj.cells #[] 3) := ⟨_, rfl⟩
  have hbW : Below w.heap.size w W := by subst hW; exact (Below.refl _ _).alloc (Nat.le_refl _) _
  have HC : Hid (∀ j u, (vsInt ws)[j]? = some u → W.cell? ((⟨b, o, none⟩ : Addr).add j) = some u) := fun j u hu => rd_cells (hp.below hbW) j u hu
  have hW0 : W.ownsRow w.heap.size 3 1 (.slice (some ⟨w.heap.size, 0, none⟩) 0 0) 0 [] := by subst hW; exact World.ownsRow_made w #[] 0 (Nat.le_refl _) (Nat.zero_le _) rfl
  have hsW : w.heap.size < W.heap.size := by subst hW; simp
  clear hp
  have q22 : ∀ (w : World) (a : Option Addr) (n c n' c' : Nat), (binOp .eql 34 (.slice a n c) (.slice none n' c')).run Try.prog w = .ok (.bool a.isNone) w := fun w a n c n' c' => Lib.run_eql_slice_nil w _ _ a n c n' c' Try.underlying34
  go_enter Try.func80, Try.ntmps80
  go_wp2_with (at_builtin; rw [← hW]; refine wpList_append_own _ rfl _ _ 34 rfl w.heap.size 3 i1 (.int .i64 0) 1 8 Try.underlying34 hi1 hy0 hy1 hy2 rfl (by decide) _ _ _ rfl hW0 ⟨b, o, none⟩ ws.length c (vsInt ws) rfl ?q1 ?q2 ?q3 ?q4 ?q5 ?q6 ?_)
  case q1 => simp
  case q2 => exact HC.out
  case q3 => intro u hu; simp at hu; obtain ⟨x, _, rfl⟩ := hu; rfl
  case q4 => unfold maxLen; omega
  case q5 => omega
  case q6 => omega
  intro v' w1 hown hgrow _
  go_wp2
  go_ret
  refine ⟨v', rfl, by simpa using hown, ?_⟩
  rw [← hW] at hgrow
  exact hbW.grown hgrow (by omega) (by intro k hk; simp [Value.ownBlock] at hk; omega)

end Go.Proofs.Ytdicjbabnknjhaa
