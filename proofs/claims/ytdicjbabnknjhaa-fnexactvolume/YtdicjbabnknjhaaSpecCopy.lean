/-
  Contract of the specification's l2Copy: a chip of sixty pages and ten numbers is copied into rows of its own.
-/
import Derived.Test.YtdicjbabnknjhaaSpecChip
import Derived.Deep.RegionHeldLaw
import Derived.Deep.RegionLawGrows
namespace Go.Proofs.Ytdicjbabnknjhaa
open Go.RowKit
attribute [local go_sem ↓] Go.wp_at_zero Go.wp_at_succ

/-- What a cell holds, behind a name that the walk does not open. -/
def cellOr (w : World) (b o : Nat) : Value := (w.cell? ⟨b, o, none⟩).getD undef
theorem cellOr_eq {w : World} {b o : Nat} (h : (w.cell? ⟨b, o, none⟩).isSome = true) : w.cell? ⟨b, o, none⟩ = some (cellOr w b o) := by
  obtain ⟨v, hv⟩ := Option.isSome_iff_exists.1 h
  simp [cellOr, hv]

/-- What stays while the copies are made: the boxed chip, the place of the answer, all that is older. -/
abbrev CopyS (w : World) (p q : Value) (w' : World) : Prop :=
  w'.cell? ⟨w.heap.size, 0, none⟩ = some p ∧ w'.cell? ⟨w.heap.size, 1, none⟩ = some q ∧ w'.cell? ⟨w.heap.size + 1, 0, none⟩ = some (cellOr w' (w.heap.size + 1) 0) ∧ w'.cell? ⟨w.heap.size + 1, 1, none⟩ = some (cellOr w' (w.heap.size + 1) 1) ∧
    w'.frozen? ⟨w.heap.size + 1, 0, none⟩ = false ∧ w'.frozen? ⟨w.heap.size + 1, 1, none⟩ = false ∧ Below w.heap.size w w' ∧ w.heap.size + 1 < w'.heap.size
theorem copyS_step {w : World} {p q : Value} {w' w'' : World} (h : CopyS w p q w') (hb : Below w'.heap.size w' w'') : CopyS w p q w'' := by
  obtain ⟨h1, h2, h3, h4, h5, h6, h7, h8⟩ := h
  refine ⟨?_, ?_, ?_, ?_, ?_, ?_, h7.trans (hb.mono h7.size), Nat.lt_of_lt_of_le h8 hb.size⟩
  · rw [hb.cell (p := ⟨w.heap.size, 0, none⟩) (by show _ < _; simp; omega)]; exact h1
  · rw [hb.cell (p := ⟨w.heap.size, 1, none⟩) (by show _ < _; simp; omega)]; exact h2
  · exact cellOr_eq (by rw [hb.cell (p := ⟨w.heap.size + 1, 0, none⟩) (by show _ < _; simp; omega), h3]; rfl)
  · exact cellOr_eq (by rw [hb.cell (p := ⟨w.heap.size + 1, 1, none⟩) (by show _ < _; simp; omega), h4]; rfl)
  · rw [hb.frozen (p := ⟨w.heap.size + 1, 0, none⟩) (by show _ < _; simp; omega)]; exact h5
  · rw [hb.frozen (p := ⟨w.heap.size + 1, 1, none⟩) (by show _ < _; simp; omega)]; exact h6
theorem copyS_store {w : World} {p q : Value} {w' : World} (h : CopyS w p q w') (x y : Value) : CopyS w p q ((w'.setCell ⟨w.heap.size + 1, 0, none⟩ x).setCell ⟨w.heap.size + 1, 1, none⟩ y) := by
  obtain ⟨h1, h2, h3, h4, h5, h6, h7, h8⟩ := h
  have k0 : ((w'.setCell ⟨w.heap.size + 1, 0, none⟩ x).setCell ⟨w.heap.size + 1, 1, none⟩ y).cell? ⟨w.heap.size + 1, 0, none⟩ = some x := by simp [go_sem, h3]
  have k1 : ((w'.setCell ⟨w.heap.size + 1, 0, none⟩ x).setCell ⟨w.heap.size + 1, 1, none⟩ y).cell? ⟨w.heap.size + 1, 1, none⟩ = some y := by simp [go_sem, h4]
  refine ⟨by simpa [go_sem] using h1, by simpa [go_sem] using h2, cellOr_eq (by rw [k0]; rfl), cellOr_eq (by rw [k1]; rfl), by simpa using h5, by simpa using h6, (h7.setCell (by show _ ≤ _; simp) _).setCell (by show _ ≤ _; simp) _, by simpa [World.setCell] using h8⟩
theorem copyS_alloc {w : World} {p q : Value} {w' : World} (h : CopyS w p q w') (o : Obj) : CopyS w p q (w'.alloc o) := copyS_step h ((Below.refl _ _).alloc (Nat.le_refl _) o)

theorem owns_form {w : World} {base : Nat} {e : TypeId} {v : Value} {n : Nat} {xs : List Value} (h : w.ownsRow base e 1 v n xs) (hn : 0 < n) : ∃ g cap, v = .slice (some ⟨g, 0, none⟩) n cap ∧ base ≤ g ∧ g < w.heap.size := by
  rcases id h with ⟨_, ⟨_, h0⟩ | ⟨g, cap, cur, hv, hg, -⟩⟩
  · omega
  · exact ⟨g, cap, hv, hg, (h.lt g (by rw [hv]; rfl)).2⟩
theorem copyS_below {w : World} (p q : Value) {w' : World} (h : CopyS w p q w') : Below w.heap.size w w' := h.2.2.2.2.2.2.1
theorem copyS_drew {w : World} {p q : Value} {w' : World} (h : CopyS w p q w') : CopyS w p q w'.drew := copyS_step h (after_drew (Below.refl _ _) 1)

theorem copy_fin {w : World} {p q : Value} {wF : World} (h : CopyS w p q wF) {ps : List ByteArray} {ws : List Int} {gA kA gB kB N M bA bB : Nat} (hN : N = ps.length) (hM : M = ws.length)
    (hA : wF.ownsRow bA 9 1 (.slice (some ⟨gA, 0, none⟩) N kA) N (vsString ps)) (hB : wF.ownsRow bB 3 1 (.slice (some ⟨gB, 0, none⟩) M kB) M (vsInt ws)) (hbA : w.heap.size + 1 < bA) (hbB : w.heap.size + 1 < bB) (hne : gA ≠ gB) :
    ChipOwn ((wF.setCell ⟨w.heap.size + 1, 0, none⟩ (.slice (some ⟨gA, 0, none⟩) N kA)).setCell ⟨w.heap.size + 1, 1, none⟩ (.slice (some ⟨gB, 0, none⟩) M kB)) w.heap.size (.agg #[.slice (some ⟨gA, 0, none⟩) N kA, .slice (some ⟨gB, 0, none⟩) M kB]) ps ws ∧
      Below w.heap.size w ((wF.setCell ⟨w.heap.size + 1, 0, none⟩ (.slice (some ⟨gA, 0, none⟩) N kA)).setCell ⟨w.heap.size + 1, 1, none⟩ (.slice (some ⟨gB, 0, none⟩) M kB)) := by
  subst hN hM
  refine ⟨⟨_, _, rfl, ?_, ?_, ?_⟩, (copyS_store h _ _).2.2.2.2.2.2.1⟩
  · refine owns_mono (ownsRow_setCell_below (ownsRow_setCell_below hA ?_ _) ?_ _) (by omega) <;> (show _ < _; simpa using hbA)
  · refine owns_mono (ownsRow_setCell_below (ownsRow_setCell_below hB ?_ _) ?_ _) (by omega) <;> (show _ < _; simpa using hbB)
  · intro k hk
    simp [Value.ownBlock] at hk ⊢
    omega

set_option maxRecDepth 100000 in
set_option maxHeartbeats 3200000 in
theorem copy_any (a b : Option Addr) (ps : List ByteArray) (ws : List Int) (c d : Nat) (w : World) (hp : Rd w a (vsString ps)) (hw : Rd w b (vsInt ws)) (hl : ps.length = 60) (hm : ws.length = 10) :
    Calls Try.prog 68 #[.agg #[.slice a ps.length c, .slice b ws.length d]] w fun e w' => ∃ v, e = .returned v ∧ ChipOwn w' w.heap.size v ps ws ∧ Below w.heap.size w w' := by
  obtain ⟨i1, hi1, hy0, hy1, hy2⟩ := info_parts infoString
  obtain ⟨i2, hi2, hz0, hz1, hz2⟩ := info_parts infoInt
  obtain ⟨N, hN⟩ : ∃ N, N = ps.length := ⟨_, rfl⟩
  obtain ⟨M, hM⟩ : ∃ M, M = ws.length := ⟨_, rfl⟩
  obtain ⟨b1, o1, rfl, -⟩ := rd_at (k := 0) hp (by simp; omega)
  obtain ⟨b2, o2, rfl, -⟩ := rd_at (k := 0) hw (by simp; omega)
  rw [← hN, ← hM]
  have HN : Hid (N = ps.length ∧ M = ws.length ∧ N = 60 ∧ M = 10) := ⟨hN, hM, by omega, by omega⟩
  have hN0 : 0 < N := by omega
  have hM0 : 0 < M := by omega
  have hN1 : N ≤ 100 := by omega
  have hM1 : M ≤ 100 := by omega
  have hs0 : CopyS w (.slice (some ⟨b1, o1, none⟩) N c) (.slice (some ⟨b2, o2, none⟩) M d) ((w.alloc (Obj.cells #[.slice (some ⟨b1, o1, none⟩) N c, .slice (some ⟨b2, o2, none⟩) M d] 41)).alloc (Obj.cells #[.slice none 0 0, .slice none 0 0] 41)) := by
    refine ⟨?_, ?_, cellOr_eq ?_, cellOr_eq ?_, ?_, ?_, ((Below.refl _ _).alloc (Nat.le_refl _) _).alloc (by simp) _, ?_⟩ <;> simp [go_sem]
  have hcp : ∀ w', Below w.heap.size w w' → Hid (∀ j u, (vsString ps)[j]? = some u → w'.cell? ((⟨b1, o1, none⟩ : Addr).add j) = some u) := by
    intro w' hb j u hu
    rcases hp.below hb with h | ⟨b, o, he, hc⟩
    · rw [h] at hu; simp at hu
    · simp at he; obtain ⟨rfl, rfl⟩ := he; rw [add_at]; exact hc j u hu
  have hcw : ∀ w', Below w.heap.size w w' → Hid (∀ j u, (vsInt ws)[j]? = some u → w'.cell? ((⟨b2, o2, none⟩ : Addr).add j) = some u) := by
    intro w' hb j u hu
    rcases hw.below hb with h | ⟨b, o, he, hc⟩
    · rw [h] at hu; simp at hu
    · simp at he; obtain ⟨rfl, rfl⟩ := he; rw [add_at]; exact hc j u hu
  have HCP : Hid _ := hcp
  have HCW : Hid _ := hcw
  have hlp : Hid ((vsString ps).length = N * 1) := by show _ = _; simp [hN]
  have hlw : Hid ((vsInt ws).length = M * 1) := by show _ = _; simp [hM]
  have HS0 : Hid _ := hs0
  clear hcp hcw hp hw hN hM hl hm hs0
  go_enter Try.func68, Try.ntmps68
  go_wp2_with fail
  go_region_held_law (fun w' => w'.cell? ⟨w.heap.size, 0, none⟩ = some (.slice (some ⟨b1, o1, none⟩) N c) ∧ w'.cell? ⟨w.heap.size, 1, none⟩ = some (.slice (some ⟨b2, o2, none⟩) M d) ∧ w'.cell? ⟨w.heap.size + 1, 0, none⟩ = some (cellOr w' (w.heap.size + 1) 0) ∧ w'.cell? ⟨w.heap.size + 1, 1, none⟩ = some (cellOr w' (w.heap.size + 1) 1) ∧
    w'.frozen? ⟨w.heap.size + 1, 0, none⟩ = false ∧ w'.frozen? ⟨w.heap.size + 1, 1, none⟩ = false ∧ Below w.heap.size w w' ∧ w.heap.size + 1 < w'.heap.size)
    (first | (exact copyS_drew HS0.out) | (refine copyS_step (by assumption) (by assumption)) | (refine copyS_alloc (by assumption) _) | (refine copyS_store (by assumption) _ _) | go_keep)
    ((first | (refine step_append_grows (by rfl) (.tmp 3) (.tmp 5) 33 (by rfl) 9 i1 (.string ⟨#[]⟩) 1 16 Try.underlying33 hi1 hy0 hy1 hy2 rfl (by decide) _ 0 0 [] (by rfl) (by simp) (by simp) (by simp) ⟨b1, o1, none⟩ N c (vsString ps) (by rfl) hlp.out ((HCP.out _ (copyS_below (.slice (some ⟨b1, o1, none⟩) N c) (.slice (some ⟨b2, o2, none⟩) M d) (by assumption))).out) (by intro u hu; simp at hu; obtain ⟨x, -, rfl⟩ := hu; rfl) (by omega) (by unfold maxLen; omega) (by omega) ?_; intro vA wA hoA hgA; have hbA := (Below.refl _ _).grown hgA (Nat.le_refl _) (by simp); simp only [Nat.zero_add, List.nil_append] at hoA; obtain ⟨gA, kA, hvA, hlA, hgA'⟩ := owns_form hoA hN0; subst hvA) | (refine step_append_grows (by rfl) (.tmp 7) (.tmp 9) 34 (by rfl) 3 i2 (.int .i64 0) 1 8 Try.underlying34 hi2 hz0 hz1 hz2 rfl (by decide) _ 0 0 [] (by rfl) (by simp) (by simp) (by simp) ⟨b2, o2, none⟩ M d (vsInt ws) (by rfl) hlw.out ((HCW.out _ (copyS_below (.slice (some ⟨b1, o1, none⟩) N c) (.slice (some ⟨b2, o2, none⟩) M d) (by assumption))).out) (by intro u hu; simp at hu; obtain ⟨x, -, rfl⟩ := hu; rfl) (by omega) (by unfold maxLen; omega) (by omega) ?_; intro vB wB hoB hgB; have hbB := (Below.refl _ _).grown hgB (Nat.le_refl _) (by simp); simp only [Nat.zero_add, List.nil_append] at hoB; obtain ⟨gB, kB, hvB, hlB, hgB'⟩ := owns_form hoB hM0; subst hvB)))
  all_goals go_wp2
  all_goals
    have hSF : CopyS w (.slice (some ⟨b1, o1, none⟩) N c) (.slice (some ⟨b2, o2, none⟩) M d) wB := by
      first
      | exact copyS_step (copyS_alloc (copyS_step (copyS_drew (copyS_alloc HS0.out _)) hbA) _) hbB
      | exact copyS_step (copyS_step (copyS_drew (copyS_alloc (copyS_alloc HS0.out _) _)) hbA) hbB
    obtain ⟨bA, hA', hbA'⟩ : ∃ bA, wB.ownsRow bA 9 1 (.slice (some ⟨gA, 0, none⟩) N kA) N (vsString ps) ∧ w.heap.size + 1 < bA := by
      first
      | exact ⟨_, owns_below hoA hbB, by simp; omega⟩
      | exact ⟨_, owns_below (hoA.alloc _) hbB, by simp; omega⟩
      | exact ⟨_, owns_below hoA hbB, by simp⟩
      | exact ⟨_, owns_below (hoA.alloc _) hbB, by simp⟩
    have hSA : w.heap.size + 1 < gB := by
      have := hSF.2.2.2.2.2.2.2
      have := hbA'
      simp at hlA hlB hgA'; omega
    have hne : gA ≠ gB := by first | omega | (simp at hlB; omega)
    have hbB' : w.heap.size + 1 < gB := hSA
    have hB' : wB.ownsRow gB 3 1 (.slice (some ⟨gB, 0, none⟩) M kB) M (vsInt ws) := by
      rcases hoB with ⟨q1, ⟨q2, -⟩ | ⟨g, cap', cur, q2, q3, q4⟩⟩
      · simp at q2
      · refine ⟨q1, .inr ⟨g, cap', cur, q2, ?_, q4⟩⟩
        simp at q2; omega
    have fin := copy_fin hSF HN.out.1 HN.out.2.1 hA' hB' hbA' hbB' hne
    obtain ⟨k1, k2, k3, k4, -⟩ := hSF
    exact bodyPost_ret (v := .agg #[.slice (some ⟨gA, 0, none⟩) N kA, .slice (some ⟨gB, 0, none⟩) M kB]) (by simp [results, Try.results68, go_sem, k3, k4]) rfl ⟨_, rfl, fin⟩

end Go.Proofs.Ytdicjbabnknjhaa
