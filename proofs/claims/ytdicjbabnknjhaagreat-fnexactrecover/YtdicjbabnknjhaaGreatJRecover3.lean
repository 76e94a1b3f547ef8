/-
  Contract of the specification's l2Copy: a chip of sixty pages and ten numbers is copied into rows of its own.
  Contract of the specification's Burn.
  What the laws' walks carry along: chips in variables of the law.
-/
import Derived.Test.YtdicjbabnknjhaaGreatJRecover2
import Derived.Deep.RegionHeldLaw
import Derived.Deep.RegionLawGrows
namespace Go.Proofs.YtdicjbabnknjhaaGreat
open Go.RowKit
attribute [local go_sem ↓] Go.wp_at_zero Go.wp_at_succ

/-- What a cell holds, behind a name that the walk does not open. -/
def cellOr (w : World) (b o : Nat) : Value := (w.cell? ⟨b, o, none⟩).getD undef
theorem cellOr_eq {w : World} {b o : Nat} (h : (w.cell? ⟨b, o, none⟩).isSome = true) : w.cell? ⟨b, o, none⟩ = some (cellOr w b o) := by
  obtain ⟨v, hv⟩ := Option.isSome_iff_exists.1 h
  simp [cellOr, hv]

/-- What stays while the copies are made: the boxed chip, the place of the answer, all that is older. -/
abbrev CopyS (w : World) (p q : Value) (w' : World) : Prop :=
  w'.cell? ⟨w.heap.size, 0, none⟩ = some p ∧ w'.cell? ⟨w.heap.size, 1, none⟩ = some q ∧ w'.cell? ⟨w.heap.size + 1, 0, none⟩ = some (cellOr w' (w.heap.size + 1) 0) ∧ w'.cell? ⟨w.heap.size + 1, 1, none⟩ = some (cellOr w' (w.heap.size + 1) 1) ∧
    w'.frozen? ⟨w.heap.size + 1, 0, none⟩ = false ∧ w'.frozen? ⟨w.heap.size + 1, 1, none⟩ = false ∧ Below w.heap.size w w' ∧ w.heap.size + 1 < w'.heap.size
theorem copyS_step {w : World} {p q : Value} {w' w'' : World} (h : CopyS w p q w') (hb : Below w'.heap.size w' w'') : CopyS w p q w'' := by
  obtain ⟨h1, h2, h3, h4, h5, h6, h7, h8⟩ := h
  refine ⟨?_, ?_, ?_, ?_, ?_, ?_, h7.trans (hb.mono h7.size), Nat.lt_of_lt_of_le h8 hb.size⟩
  · rw [hb.cell (p := ⟨w.heap.size, 0, none⟩) (by show _ < _; simp; omega)]; exact h1
  · rw [hb.cell (p := ⟨w.heap.size, 1, none⟩) (by show _ < _; simp; omega)]; exact h2
  · exact cellOr_eq (by rw [hb.cell (p := ⟨w.heap.size + 1, 0, none⟩) (by show _ < _; simp; omega), h3]; rfl)
  · exact cellOr_eq (by rw [hb.cell (p := ⟨w.heap.size + 1, 1, none⟩) (by show _ < _; simp; omega), h4]; rfl)
  · rw [hb.frozen (p := ⟨w.heap.size + 1, 0, none⟩) (by show _ < _; simp; omega)]; exact h5
  · rw [hb.frozen (p := ⟨w.heap.size + 1, 1, none⟩) (by show _ < _; simp; omega)]; exact h6
theorem copyS_store {w : World} {p q : Value} {w' : World} (h : CopyS w p q w') (x y : Value) : CopyS w p q ((w'.setCell ⟨w.heap.size + 1, 0, none⟩ x).setCell ⟨w.heap.size + 1, 1, none⟩ y) := by
  obtain ⟨h1, h2, h3, h4, h5, h6, h7, h8⟩ := h
  have k0 : ((w'.setCell ⟨w.heap.size + 1, 0, none⟩ x).setCell ⟨w.heap.size + 1, 1, none⟩ y).cell? ⟨w.heap.size + 1, 0, none⟩ = some x := by simp [go_sem, h3]
  have k1 : ((w'.setCell ⟨w.heap.size + 1, 0, none⟩ x).setCell ⟨w.heap.size + 1, 1, none⟩ y).cell? ⟨w.heap.size + 1, 1, none⟩ = some y := by simp [go_sem, h4]
  refine ⟨by simpa [go_sem] using h1, by simpa [go_sem] using h2, cellOr_eq (by rw [k0]; rfl), cellOr_eq (by rw [k1]; rfl), by simpa using h5, by simpa using h6, (h7.setCell (by show _ ≤ _; simp) _).setCell (by show _ ≤ _; simp) _, by simpa [World.setCell] using h8⟩
theorem copyS_alloc {w : World} {p q : Value} {w' : World} (h : CopyS w p q w') (o : Obj) : CopyS w p q (w'.alloc o) := copyS_step h ((Below.refl _ _).alloc (Nat.le_refl _) o)

theorem owns_form {w : World} {base : Nat} {e : TypeId} {v : Value} {n : Nat} {xs : List Value} (h : w.ownsRow base e 1 v n xs) (hn : 0 < n) : ∃ g cap, v = .slice (some ⟨g, 0, none⟩) n cap ∧ base ≤ g ∧ g < w.heap.size := by
  rcases id h with ⟨_, ⟨_, h0⟩ | ⟨g, cap, cur, hv, hg, -⟩⟩
  · omega
  · exact ⟨g, cap, hv, hg, (h.lt g (by rw [hv]; rfl)).2⟩
theorem copyS_below {w : World} (p q : Value) {w' : World} (h : CopyS w p q w') : Below w.heap.size w w' := h.2.2.2.2.2.2.1
theorem copyS_drew {w : World} {p q : Value} {w' : World} (h : CopyS w p q w') : CopyS w p q w'.drew := copyS_step h (after_drew (Below.refl _ _) 1)

theorem copy_fin {w : World} {p q : Value} {wF : World} (h : CopyS w p q wF) {ps : List ByteArray} {ws : List Int} {gA kA gB kB N M bA bB : Nat} (hN : N = ps.length) (hM : M = ws.length)
    (hA : wF.ownsRow bA 9 1 (.slice (some ⟨gA, 0, none⟩) N kA) N (vsString ps)) (hB : wF.ownsRow bB 3 1 (.slice (some ⟨gB, 0, none⟩) M kB) M (vsInt ws)) (hbA : w.heap.size + 1 < bA) (hbB : w.heap.size + 1 < bB) (hne : gA ≠ gB) :
    ChipOwn ((wF.setCell ⟨w.heap.size + 1, 0, none⟩ (.slice (some ⟨gA, 0, none⟩) N kA)).setCell ⟨w.heap.size + 1, 1, none⟩ (.slice (some ⟨gB, 0, none⟩) M kB)) w.heap.size (.agg #[.slice (some ⟨gA, 0, none⟩) N kA, .slice (some ⟨gB, 0, none⟩) M kB]) ps ws ∧
      Below w.heap.size w ((wF.setCell ⟨w.heap.size + 1, 0, none⟩ (.slice (some ⟨gA, 0, none⟩) N kA)).setCell ⟨w.heap.size + 1, 1, none⟩ (.slice (some ⟨gB, 0, none⟩) M kB)) := by
  subst hN hM
  refine ⟨⟨_, _, rfl, ?_, ?_, ?_⟩, (copyS_store h _ _).2.2.2.2.2.2.1⟩
  · refine owns_mono (ownsRow_setCell_below (ownsRow_setCell_below hA ?_ _) ?_ _) (by omega) <;> (show _ < _; simpa using hbA)
  · refine owns_mono (ownsRow_setCell_below (ownsRow_setCell_below hB ?_ _) ?_ _) (by omega) <;> (show _ < _; simpa using hbB)
  · intro k hk
    simp [Value.ownBlock] at hk ⊢
    omega

set_option maxRecDepth 100000 in
set_option maxHeartbeats 3200000 in
theorem copy_any (a b : Option Addr) (ps : List ByteArray) (ws : List Int) (c d : Nat) (w : World) (hp : Rd w a (vsString ps)) (hw : Rd w b (vsInt ws)) (hl : ps.length = 60) (hm : ws.length = 10) :
    Calls Tryz.prog 59 #[.agg #[.slice a ps.length c, .slice b ws.length d]] w fun e w' => ∃ v, e = .returned v ∧ ChipOwn w' w.heap.size v ps ws ∧ Below w.heap.size w w' := by
  obtain ⟨i1, hi1, hy0, hy1, hy2⟩ := info_parts infoString
  obtain ⟨i2, hi2, hz0, hz1, hz2⟩ := info_parts infoInt
  obtain ⟨N, hN⟩ : ∃ N, N = ps.length := ⟨_, rfl⟩
  obtain ⟨M, hM⟩ : ∃ M, M = ws.length := ⟨_, rfl⟩
  obtain ⟨b1, o1, rfl, -⟩ := rd_at (k := 0) hp (by simp; omega)
  obtain ⟨b2, o2, rfl, -⟩ := rd_at (k := 0) hw (by simp; omega)
  rw [← hN, ← hM]
  have HN : Hid (N = ps.length ∧ M = ws.length ∧ N = 60 ∧ M = 10) := ⟨hN, hM, by omega, by omega⟩
  have hN0 : 0 < N := by omega
  have hM0 : 0 < M := by omega
  have hN1 : N ≤ 100 := by omega
  have hM1 : M ≤ 100 := by omega
  have hs0 : CopyS w (.slice (some ⟨b1, o1, none⟩) N c) (.slice (some ⟨b2, o2, none⟩) M d) ((w.alloc (Obj.cells #[.slice (some ⟨b1, o1, none⟩) N c, .slice (some ⟨b2, o2, none⟩) M d] 32)).alloc (Obj.cells #[.slice none 0 0, .slice none 0 0] 32)) := by
    refine ⟨?_, ?_, cellOr_eq ?_, cellOr_eq ?_, ?_, ?_, ((Below.refl _ _).alloc (Nat.le_refl _) _).alloc (by simp) _, ?_⟩ <;> simp [go_sem]
  have hcp : ∀ w', Below w.heap.size w w' → Hid (∀ j u, (vsString ps)[j]? = some u → w'.cell? ((⟨b1, o1, none⟩ : Addr).add j) = some u) := by
    intro w' hb j u hu
    rcases hp.below hb with h | ⟨b, o, he, hc⟩
    · rw [h] at hu; simp at hu
    · simp at he; obtain ⟨rfl, rfl⟩ := he; rw [add_at]; exact hc j u hu
  have hcw : ∀ w', Below w.heap.size w w' → Hid (∀ j u, (vsInt ws)[j]? = some u → w'.cell? ((⟨b2, o2, none⟩ : Addr).add j) = some u) := by
    intro w' hb j u hu
    rcases hw.below hb with h | ⟨b, o, he, hc⟩
    · rw [h] at hu; simp at hu
    · simp at he; obtain ⟨rfl, rfl⟩ := he; rw [add_at]; exact hc j u hu
  have HCP : Hid _ := hcp
  have HCW : Hid _ := hcw
  have hlp : Hid ((vsString ps).length = N * 1) := by show _ = _; simp [hN]
  have hlw : Hid ((vsInt ws).length = M * 1) := by show _ = _; simp [hM]
  have HS0 : Hid _ := hs0
  clear hcp hcw hp hw hN hM hl hm hs0
  go_enter Tryz.func59, Tryz.ntmps59
  go_wp2_with fail
  go_region_held_law (fun w' => w'.cell? ⟨w.heap.size, 0, none⟩ = some (.slice (some ⟨b1, o1, none⟩) N c) ∧ w'.cell? ⟨w.heap.size, 1, none⟩ = some (.slice (some ⟨b2, o2, none⟩) M d) ∧ w'.cell? ⟨w.heap.size + 1, 0, none⟩ = some (cellOr w' (w.heap.size + 1) 0) ∧ w'.cell? ⟨w.heap.size + 1, 1, none⟩ = some (cellOr w' (w.heap.size + 1) 1) ∧
    w'.frozen? ⟨w.heap.size + 1, 0, none⟩ = false ∧ w'.frozen? ⟨w.heap.size + 1, 1, none⟩ = false ∧ Below w.heap.size w w' ∧ w.heap.size + 1 < w'.heap.size)
    (first | (exact copyS_drew HS0.out) | (refine copyS_step (by assumption) (by assumption)) | (refine copyS_alloc (by assumption) _) | (refine copyS_store (by assumption) _ _) | go_keep)
    ((first | (refine step_append_grows (by rfl) (.tmp 3) (.tmp 5) 22 (by rfl) 9 i1 (.string ⟨#[]⟩) 1 16 Tryz.underlying22 hi1 hy0 hy1 hy2 rfl (by decide) _ 0 0 [] (by rfl) (by simp) (by simp) (by simp) ⟨b1, o1, none⟩ N c (vsString ps) (by rfl) hlp.out ((HCP.out _ (copyS_below (.slice (some ⟨b1, o1, none⟩) N c) (.slice (some ⟨b2, o2, none⟩) M d) (by assumption))).out) (by intro u hu; simp at hu; obtain ⟨x, -, rfl⟩ := hu; rfl) (by omega) (by unfold maxLen; omega) (by omega) ?_; intro vA wA hoA hgA; have hbA := (Below.refl _ _).grown hgA (Nat.le_refl _) (by simp); simp only [Nat.zero_add, List.nil_append] at hoA; obtain ⟨gA, kA, hvA, hlA, hgA'⟩ := owns_form hoA hN0; subst hvA) | (refine step_append_grows (by rfl) (.tmp 7) (.tmp 9) 23 (by rfl) 3 i2 (.int .i64 0) 1 8 Tryz.underlying23 hi2 hz0 hz1 hz2 rfl (by decide) _ 0 0 [] (by rfl) (by simp) (by simp) (by simp) ⟨b2, o2, none⟩ M d (vsInt ws) (by rfl) hlw.out ((HCW.out _ (copyS_below (.slice (some ⟨b1, o1, none⟩) N c) (.slice (some ⟨b2, o2, none⟩) M d) (by assumption))).out) (by intro u hu; simp at hu; obtain ⟨x, -, rfl⟩ := hu; rfl) (by omega) (by unfold maxLen; omega) (by omega) ?_; intro vB wB hoB hgB; have hbB := (Below.refl _ _).grown hgB (Nat.le_refl _) (by simp); simp only [Nat.zero_add, List.nil_append] at hoB; obtain ⟨gB, kB, hvB, hlB, hgB'⟩ := owns_form hoB hM0; subst hvB)))
  all_goals go_wp2
  all_goals
    have hSF : CopyS w (.slice (some ⟨b1, o1, none⟩) N c) (.slice (some ⟨b2, o2, none⟩) M d) wB := by
      first
      | exact copyS_step (copyS_alloc (copyS_step (copyS_drew (copyS_alloc HS0.out _)) hbA) _) hbB
      | exact copyS_step (copyS_step (copyS_drew (copyS_alloc (copyS_alloc HS0.out _) _)) hbA) hbB
    obtain ⟨bA, hA', hbA'⟩ : ∃ bA, wB.ownsRow bA 9 1 (.slice (some ⟨gA, 0, none⟩) N kA) N (vsString ps) ∧ w.heap.size + 1 < bA := by
      first
      | exact ⟨_, owns_below hoA hbB, by simp; omega⟩
      | exact ⟨_, owns_below (hoA.alloc _) hbB, by simp; omega⟩
      | exact ⟨_, owns_below hoA hbB, by simp⟩
      | exact ⟨_, owns_below (hoA.alloc _) hbB, by simp⟩
    have hSA : w.heap.size + 1 < gB := by
      have := hSF.2.2.2.2.2.2.2
      have := hbA'
      simp at hlA hlB hgA'; omega
    have hne : gA ≠ gB := by first | omega | (simp at hlB; omega)
    have hbB' : w.heap.size + 1 < gB := hSA
    have hB' : wB.ownsRow gB 3 1 (.slice (some ⟨gB, 0, none⟩) M kB) M (vsInt ws) := by
      rcases hoB with ⟨q1, ⟨q2, -⟩ | ⟨g, cap', cur, q2, q3, q4⟩⟩
      · simp at q2
      · refine ⟨q1, .inr ⟨g, cap', cur, q2, ?_, q4⟩⟩
        simp at q2; omega
    have fin := copy_fin hSF HN.out.1 HN.out.2.1 hA' hB' hbA' hbB' hne
    obtain ⟨k1, k2, k3, k4, -⟩ := hSF
    exact bodyPost_ret (v := .agg #[.slice (some ⟨gA, 0, none⟩) N kA, .slice (some ⟨gB, 0, none⟩) M kB]) (by simp [results, Tryz.results59, go_sem, k3, k4]) rfl ⟨_, rfl, fin⟩

end Go.Proofs.YtdicjbabnknjhaaGreat

namespace Go.Proofs.YtdicjbabnknjhaaGreat
open Go.RowKit

/-- What Burn makes of the pages. -/
def burnOk (ps : List ByteArray) (page : Int) (text : ByteArray) : Prop := 0 ≤ page ∧ page ≤ 59 ∧ ps[page.toNat]?.getD ByteArray.empty = ByteArray.empty ∧ text ≠ ByteArray.empty ∧ text.size ≤ 800

/-- A chip that is the call's own, its rows written out. -/
theorem own_form {w : World} {base : Nat} {v : Value} {ps : List ByteArray} {ws : List Int} (h : ChipOwn w base v ps ws) (h1 : 0 < ps.length) (h2 : 0 < ws.length) :
    ∃ g k g' k', v = .agg #[.slice (some ⟨g, 0, none⟩) ps.length k, .slice (some ⟨g', 0, none⟩) ws.length k'] ∧ w.ownsRow base 9 1 (.slice (some ⟨g, 0, none⟩) ps.length k) ps.length (vsString ps) ∧
      w.ownsRow base 3 1 (.slice (some ⟨g', 0, none⟩) ws.length k') ws.length (vsInt ws) ∧ g ≠ g' ∧ base ≤ g ∧ base ≤ g' ∧ g < w.heap.size ∧ g' < w.heap.size := by
  obtain ⟨v1, v2, rfl, ho1, ho2, hne⟩ := h
  obtain ⟨g, k, rfl, hb, hl⟩ := owns_form ho1 h1
  obtain ⟨g', k', rfl, hb', hl'⟩ := owns_form ho2 h2
  exact ⟨g, k, g', k', rfl, ho1, ho2, fun e => hne g rfl (by rw [e]; rfl), hb, hb', hl, hl'⟩
theorem own_zero (w : World) (base : Nat) : ChipOwn w base (.agg #[.slice none 0 0, .slice none 0 0]) [] [] :=
  ⟨_, _, rfl, World.ownsRow_nil _ _ _ _, World.ownsRow_nil _ _ _ _, fun k hk => by simp [Value.ownBlock] at hk⟩
theorem own_below {w w' : World} {base : Nat} {v : Value} {ps : List ByteArray} {ws : List Int} (h : ChipOwn w base v ps ws) (hb : Below w.heap.size w w') : ChipOwn w' base v ps ws := by
  obtain ⟨v1, v2, rfl, ho1, ho2, hne⟩ := h
  exact ⟨v1, v2, rfl, owns_below ho1 hb, owns_below ho2 hb, hne⟩
theorem own_mono {w : World} {base base' : Nat} {v : Value} {ps : List ByteArray} {ws : List Int} (h : ChipOwn w base' v ps ws) (hb : base ≤ base') : ChipOwn w base v ps ws := by
  obtain ⟨v1, v2, rfl, ho1, ho2, hne⟩ := h
  exact ⟨v1, v2, rfl, owns_mono ho1 hb, owns_mono ho2 hb, hne⟩
theorem own_set {w : World} {base : Nat} {v : Value} {ps : List ByteArray} {ws : List Int} (h : ChipOwn w base v ps ws) {a : Addr} (ha : a.block < base) (u : Value) : ChipOwn (w.setCell a u) base v ps ws := by
  obtain ⟨v1, v2, rfl, ho1, ho2, hne⟩ := h
  exact ⟨v1, v2, rfl, ownsRow_setCell_below ho1 ha u, ownsRow_setCell_below ho2 ha u, hne⟩
/-- One page is written. -/
theorem own_page {w : World} {base g k g' k' : Nat} {ps : List ByteArray} {ws : List Int} (ho1 : w.ownsRow base 9 1 (.slice (some ⟨g, 0, none⟩) ps.length k) ps.length (vsString ps))
    (ho2 : w.ownsRow base 3 1 (.slice (some ⟨g', 0, none⟩) ws.length k') ws.length (vsInt ws)) (hne : g ≠ g') (j : Nat) (t : ByteArray) :
    ChipOwn (w.setCell ⟨g, j, none⟩ (.string t)) base (.agg #[.slice (some ⟨g, 0, none⟩) ps.length k, .slice (some ⟨g', 0, none⟩) ws.length k']) (ps.set j t) ws := by
  have hs := ho1.stored j (.string t)
  refine ⟨_, _, rfl, ?_, ?_, ?_⟩
  · have e : (vsString ps).set j (.string t) = vsString (ps.set j t) := by simp [List.map_set]
    have := hs.1
    rw [e] at this
    simpa using this
  · exact ho2.kept hs.2 (.inr (by simp [Value.ownBlock]; omega))
  · intro q hq
    simp [Value.ownBlock] at hq ⊢
    omega

theorem isEmpty_str {s : ByteArray} (h : ¬ s = ByteArray.empty) : s.toList.isEmpty = false := by
  rw [ByteArray.toList_eq]
  cases s with
  | mk data =>
    cases hd : data.toList with
    | nil =>
      exfalso; apply h
      have : data = #[] := by simpa using hd
      rw [this]; rfl
    | cons x r => simp

end Go.Proofs.YtdicjbabnknjhaaGreat

namespace Go.Proofs.YtdicjbabnknjhaaGreat
open Go.RowKit



/-- The variable at block p holds a chip that can be read. -/
def Loc (u : World) (p : Nat) (a b : Option Addr) (c d : Nat) (ps : List ByteArray) (ws : List Int) : Prop :=
  u.cell? ⟨p, 0, none⟩ = some (.slice a ps.length c) ∧ u.cell? ⟨p, 1, none⟩ = some (.slice b ws.length d) ∧ Rd u a (vsString ps) ∧ Rd u b (vsInt ws)
theorem Loc.below {u u' : World} {p : Nat} {a b : Option Addr} {c d : Nat} {ps : List ByteArray} {ws : List Int} (h : Loc u p a b c d ps ws) (hb : Below u.heap.size u u') : Loc u' p a b c d ps ws :=
  ⟨(hb.cell (p := ⟨p, 0, none⟩) (lt_of_cell h.1)).trans h.1, (hb.cell (p := ⟨p, 1, none⟩) (lt_of_cell h.1)).trans h.2.1, h.2.2.1.below hb, h.2.2.2.below hb⟩

/-- The variable at block p holds a chip whose rows are the call's own, from block 'base' on. -/
def LocO (u : World) (p base : Nat) (a b : Option Addr) (n m c d : Nat) (xs ys : List Value) : Prop :=
  u.cell? ⟨p, 0, none⟩ = some (.slice a n c) ∧ u.cell? ⟨p, 1, none⟩ = some (.slice b m d) ∧ u.ownsRow base 9 1 (.slice a n c) n xs ∧ u.ownsRow base 3 1 (.slice b m d) m ys ∧
    (∀ k, (Value.slice a n c).ownBlock = some k → (Value.slice b m d).ownBlock ≠ some k) ∧ (∀ k, (Value.slice a n c).ownBlock = some k → k < p) ∧ (∀ k, (Value.slice b m d).ownBlock = some k → k < p) ∧ base ≤ p
theorem LocO.below {u u' : World} {p base : Nat} {a b : Option Addr} {n m c d : Nat} {xs ys : List Value} (h : LocO u p base a b n m c d xs ys) (hb : Below u.heap.size u u') : LocO u' p base a b n m c d xs ys :=
  ⟨(hb.cell (p := ⟨p, 0, none⟩) (lt_of_cell h.1)).trans h.1, (hb.cell (p := ⟨p, 1, none⟩) (lt_of_cell h.1)).trans h.2.1, owns_below h.2.2.1 hb, owns_below h.2.2.2.1 hb, h.2.2.2.2⟩
theorem LocO.loc {u : World} {p base : Nat} {a b : Option Addr} {c d : Nat} {ps : List ByteArray} {ws : List Int} (h : LocO u p base a b ps.length ws.length c d (vsString ps) (vsInt ws)) : Loc u p a b c d ps ws :=
  ⟨h.1, h.2.1, rd_of_own h.2.2.1, rd_of_own h.2.2.2.1⟩
theorem only_cell {u u' : World} {L : List (Option Nat)} {p o : Nat} {v : Value} (h : OnlyIn u u' L) (hn : some p ∉ L) (hc : u.cell? ⟨p, o, none⟩ = some v) : u'.cell? ⟨p, o, none⟩ = some v := by
  have := h.block p (lt_of_cell hc) hn
  simp only [World.cell?] at hc ⊢
  rw [this]; exact hc
/-- Others were written: those below 'base'. -/
theorem LocO.apart {u u' : World} {L : List (Option Nat)} {p base : Nat} {a b : Option Addr} {n m c d : Nat} {xs ys : List Value} (h : LocO u p base a b n m c d xs ys) (hO : OnlyIn u u' L) (hL : ∀ k, some k ∈ L → k < base) : LocO u' p base a b n m c d xs ys := by
  obtain ⟨h1, h2, h3, h4, h5, h6, h7, h8⟩ := h
  have hp : some p ∉ L := fun hk => by have := hL p hk; omega
  refine ⟨only_cell hO hp h1, only_cell hO hp h2, hO.owns h3 ?_, hO.owns h4 ?_, h5, h6, h7, h8⟩
  · intro k hk hc; have := hL k hc; have := (h3.lt k hk).1; omega
  · intro k hk hc; have := hL k hc; have := (h4.lt k hk).1; omega
/-- Its own rows were written. -/
theorem LocO.marked {u u' : World} {p base : Nat} {a b : Option Addr} {n m c d : Nat} {xs ys xs' ys' : List Value} (h : LocO u p base a b n m c d xs ys) (hO : OnlyIn u u' [(Value.slice a n c).ownBlock, (Value.slice b m d).ownBlock])
    (h1' : u'.ownsRow base 9 1 (.slice a n c) n xs') (h2' : u'.ownsRow base 3 1 (.slice b m d) m ys') : LocO u' p base a b n m c d xs' ys' := by
  obtain ⟨h1, h2, h3, h4, h5, h6, h7, h8⟩ := h
  have hp : some p ∉ [(Value.slice a n c).ownBlock, (Value.slice b m d).ownBlock] := by
    intro hk
    simp only [List.mem_cons, List.not_mem_nil, or_false] at hk
    rcases hk with hk | hk
    · have := h6 p hk.symm; omega
    · have := h7 p hk.symm; omega
  exact ⟨only_cell hO hp h1, only_cell hO hp h2, h1', h2', h5, h6, h7, h8⟩
/-- Below its base nothing was written then. -/
theorem LocO.older {u u' : World} {p base B : Nat} {a b : Option Addr} {n m c d : Nat} {xs ys : List Value} (h : LocO u p base a b n m c d xs ys) (hO : OnlyIn u u' [(Value.slice a n c).ownBlock, (Value.slice b m d).ownBlock]) (hB : B ≤ base) (hu : B ≤ u.heap.size) : Below B u u' := by
  obtain ⟨h1, h2, h3, h4, h5, h6, h7, h8⟩ := h
  refine hO.below hu ?_
  intro k hk
  simp only [List.mem_cons, List.not_mem_nil, or_false] at hk
  rcases hk with hk | hk
  · have := (h3.lt k hk.symm).1; omega
  · have := (h4.lt k hk.symm).1; omega
theorem LocO.blocks {u : World} {p base : Nat} {a b : Option Addr} {n m c d : Nat} {xs ys : List Value} (h : LocO u p base a b n m c d xs ys) : ∀ k, some k ∈ [(Value.slice a n c).ownBlock, (Value.slice b m d).ownBlock] → k < p := by
  intro k hk
  simp only [List.mem_cons, List.not_mem_nil, or_false] at hk
  rcases hk with hk | hk
  · exact h.2.2.2.2.2.1 k hk.symm
  · exact h.2.2.2.2.2.2.1 k hk.symm

/-- A chip of the call's own is laid into a new variable. -/
theorem locO_new {w : World} {base : Nat} {a b : Option Addr} {n m c d : Nat} {xs ys : List Value} (h1 : w.ownsRow base 9 1 (.slice a n c) n xs) (h2 : w.ownsRow base 3 1 (.slice b m d) m ys)
    (hne : ∀ k, (Value.slice a n c).ownBlock = some k → (Value.slice b m d).ownBlock ≠ some k) (hb : base ≤ w.heap.size) : LocO (w.alloc (.cells #[.slice a n c, .slice b m d] 32)) w.heap.size base a b n m c d xs ys :=
  ⟨by simp, by simp, h1.alloc _, h2.alloc _, hne, fun k hk => (h1.lt k hk).2, fun k hk => (h2.lt k hk).2, hb⟩

end Go.Proofs.YtdicjbabnknjhaaGreat
