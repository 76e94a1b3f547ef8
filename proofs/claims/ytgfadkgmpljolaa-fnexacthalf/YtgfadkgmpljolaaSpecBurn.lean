/-
  Contract of the specification's Burn.
-/
import Derived.Test.YtgfadkgmpljolaaSpecCopy
namespace Go.Proofs.Ytgfadkgmpljolaa
open Go.RowKit

/-- What Burn makes of the pages. -/
def burnOk (ps : List ByteArray) (page : Int) (text : ByteArray) : Prop := 0 ≤ page ∧ page ≤ 59 ∧ ps[page.toNat]?.getD ByteArray.empty = ByteArray.empty ∧ text ≠ ByteArray.empty ∧ text.size ≤ 800

/-- A chip that is the call's own, its rows written out. -/
theorem own_form {w : World} {base : Nat} {v : Value} {ps : List ByteArray} {ws : List Int} (h : ChipOwn w base v ps ws) (h1 : 0 < ps.length) (h2 : 0 < ws.length) :
    ∃ g k g' k', v = .agg #[.slice (some ⟨g, 0, none⟩) ps.length k, .slice (some ⟨g', 0, none⟩) ws.length k'] ∧ w.ownsRow base 9 1 (.slice (some ⟨g, 0, none⟩) ps.length k) ps.length (vsString ps) ∧
      w.ownsRow base 3 1 (.slice (some ⟨g', 0, none⟩) ws.length k') ws.length (vsInt ws) ∧ g ≠ g' ∧ base ≤ g ∧ base ≤ g' ∧ g < w.heap.size ∧ g' < w.heap.size := by
  obtain ⟨v1, v2, rfl, ho1, ho2, hne⟩ := h
  obtain ⟨g, k, rfl, hb, hl⟩ := owns_form ho1 h1
  obtain ⟨g', k', rfl, hb', hl'⟩ := owns_form ho2 h2
  exact ⟨g, k, g', k', rfl, ho1, ho2, fun e => hne g rfl (by rw [e]; rfl), hb, hb', hl, hl'⟩
theorem own_zero (w : World) (base : Nat) : ChipOwn w base (.agg #[.slice none 0 0, .slice none 0 0]) [] [] :=
  ⟨_, _, rfl, World.ownsRow_nil _ _ _ _, World.ownsRow_nil _ _ _ _, fun k hk => by simp [Value.ownBlock] at hk⟩
theorem own_below {w w' : World} {base : Nat} {v : Value} {ps : List ByteArray} {ws : List Int} (h : ChipOwn w base v ps ws) (hb : Below w.heap.size w w') : ChipOwn w' base v ps ws := by
  obtain ⟨v1, v2, rfl, ho1, ho2, hne⟩ := h
  exact ⟨v1, v2, rfl, owns_below ho1 hb, owns_below ho2 hb, hne⟩
theorem own_mono {w : World} {base base' : Nat} {v : Value} {ps : List ByteArray} {ws : List Int} (h : ChipOwn w base' v ps ws) (hb : base ≤ base') : ChipOwn w base v ps ws := by
  obtain ⟨v1, v2, rfl, ho1, ho2, hne⟩ := h
  exact ⟨v1, v2, rfl, owns_mono ho1 hb, owns_mono ho2 hb, hne⟩
theorem own_set {w : World} {base : Nat} {v : Value} {ps : List ByteArray} {ws : List Int} (h : ChipOwn w base v ps ws) {a : Addr} (ha : a.block < base) (u : Value) : ChipOwn (w.setCell a u) base v ps ws := by
  obtain ⟨v1, v2, rfl, ho1, ho2, hne⟩ := h
  exact ⟨v1, v2, rfl, ownsRow_setCell_below ho1 ha u, ownsRow_setCell_below ho2 ha u, hne⟩
/-- One page is written. -/
theorem own_page {w : World} {base g k g' k' : Nat} {ps : List ByteArray} {ws : List Int} (ho1 : w.ownsRow base 9 1 (.slice (some ⟨g, 0, none⟩) ps.length k) ps.length (vsString ps))
    (ho2 : w.ownsRow base 3 1 (.slice (some ⟨g', 0, none⟩) ws.length k') ws.length (vsInt ws)) (hne : g ≠ g') (j : Nat) (t : ByteArray) :
    ChipOwn (w.setCell ⟨g, j, none⟩ (.string t)) base (.agg #[.slice (some ⟨g, 0, none⟩) ps.length k, .slice (some ⟨g', 0, none⟩) ws.length k']) (ps.set j t) ws := by
  have hs := ho1.stored j (.string t)
  refine ⟨_, _, rfl, ?_, ?_, ?_⟩
  · have e : (vsString ps).set j (.string t) = vsString (ps.set j t) := by simp [List.map_set]
    have := hs.1
    rw [e] at this
    simpa using this
  · exact ho2.kept hs.2 (.inr (by simp [Value.ownBlock]; omega))
  · intro q hq
    simp [Value.ownBlock] at hq ⊢
    omega

set_option maxHeartbeats 1600000 in
theorem specBurn_bad (a b : Option Addr) (ps : List ByteArray) (ws : List Int) (c d : Nat) (page : Int) (text : ByteArray) (w : World) (hp : Rd w a (vsString ps)) (hw : Rd w b (vsInt ws)) (hl : ps.length ≤ 1048576) (hm : ws.length ≤ 1048576) (hs : ∀ s ∈ ps, s.size ≤ 1048576) (hok : ¬ chipOkP ps ws) :
    Calls Try.prog 18 #[.agg #[.slice a ps.length c, .slice b ws.length d], .int .i64 page, .string text] w fun e w' => ∃ v, e = .returned (.tuple #[v, .bool false]) ∧ ChipOwn w' w.heap.size v [] [] ∧ Below w.heap.size w w' := by
  obtain ⟨W, hW⟩ : ∃ W, W = (w.alloc (Obj.cells #[.slice a ps.length c, .slice b ws.length d] 28)).alloc (Obj.cells #[.slice none 0 0, .slice none 0 0] 28) := ⟨_, rfl⟩
  have hbW : Below w.heap.size w W := by subst hW; exact ((Below.refl _ _).alloc (Nat.le_refl _) _).alloc (by simp) _
  have cW : W.cell? ⟨w.heap.size + 1, 0, none⟩ = some (.slice none 0 0) ∧ W.cell? ⟨w.heap.size + 1, 1, none⟩ = some (.slice none 0 0) ∧ W.frozen? ⟨w.heap.size + 1, 0, none⟩ = false ∧ W.frozen? ⟨w.heap.size + 1, 1, none⟩ = false ∧ w.heap.size + 1 < W.heap.size := by
    subst hW; refine ⟨?_, ?_, ?_, ?_, ?_⟩ <;> simp [go_sem]
  have hB := chipOkB_false hok
  go_enter Try.func18, Try.ntmps18
  go_wp2_with fail
  rw [← hW]
  clear hW
  refine (specChipOk_any a b ps ws c d _ (hp.below hbW) (hw.below hbW) hl hm hs).mono ?_
  rw [hB]
  rintro e w1 ⟨rfl, hb1⟩
  have k1 := (hb1.cell (p := ⟨w.heap.size + 1, 0, none⟩) (by show _ < _; exact cW.2.2.2.2)).trans cW.1
  have k2 := (hb1.cell (p := ⟨w.heap.size + 1, 1, none⟩) (by show _ < _; exact cW.2.2.2.2)).trans cW.2.1
  have f1 := (hb1.frozen (p := ⟨w.heap.size + 1, 0, none⟩) (by show _ < _; exact cW.2.2.2.2)).trans cW.2.2.1
  have f2 := (hb1.frozen (p := ⟨w.heap.size + 1, 1, none⟩) (by show _ < _; exact cW.2.2.2.2)).trans cW.2.2.2.1
  have hbw1 := after hbW hb1
  clear hb1 hbW cW hp hw hs hok hB
  go_wp2
  exact bodyPost_ret (v := .tuple #[.agg #[.slice none 0 0, .slice none 0 0], .bool false]) (by simp [results, Try.results18, go_sem, k1, k2]) rfl ⟨_, rfl, own_zero _ _, (hbw1.setCell (by show _ ≤ _; simp) _).setCell (by show _ ≤ _; simp) _⟩

theorem isEmpty_str {s : ByteArray} (h : ¬ s = ByteArray.empty) : s.toList.isEmpty = false := by
  rw [ByteArray.toList_eq]
  cases s with
  | mk data =>
    cases hd : data.toList with
    | nil =>
      exfalso; apply h
      have : data = #[] := by simpa using hd
      rw [this]; rfl
    | cons x r => simp

set_option maxHeartbeats 3200000 in
theorem specBurn_ok (a b : Option Addr) (ps : List ByteArray) (ws : List Int) (c d : Nat) (page : Int) (text : ByteArray) (w : World) (hp : Rd w a (vsString ps)) (hw : Rd w b (vsInt ws)) (hok : chipOkP ps ws) (ht : text.size ≤ 1048576) :
    Calls Try.prog 18 #[.agg #[.slice a ps.length c, .slice b ws.length d], .int .i64 page, .string text] w fun e w' => (burnOk ps page text → ∃ v, e = .returned (.tuple #[v, .bool true]) ∧ ChipOwn w' w.heap.size v (ps.set page.toNat text) ws) ∧
      (¬ burnOk ps page text → ∃ v, e = .returned (.tuple #[v, .bool false]) ∧ ChipOwn w' w.heap.size v ps ws) ∧ Below w.heap.size w w' := by
  obtain ⟨W, hW⟩ : ∃ W, W = (w.alloc (Obj.cells #[.slice a ps.length c, .slice b ws.length d] 28)).alloc (Obj.cells #[.slice none 0 0, .slice none 0 0] 28) := ⟨_, rfl⟩
  have hbW : Below w.heap.size w W := by subst hW; exact ((Below.refl _ _).alloc (Nat.le_refl _) _).alloc (by simp) _
  have cW : W.cell? ⟨w.heap.size, 0, none⟩ = some (.slice a ps.length c) ∧ W.cell? ⟨w.heap.size, 1, none⟩ = some (.slice b ws.length d) ∧ W.cell? ⟨w.heap.size + 1, 0, none⟩ = some (.slice none 0 0) ∧ W.cell? ⟨w.heap.size + 1, 1, none⟩ = some (.slice none 0 0) ∧ W.frozen? ⟨w.heap.size + 1, 0, none⟩ = false ∧ W.frozen? ⟨w.heap.size + 1, 1, none⟩ = false := by
    subst hW; refine ⟨?_, ?_, ?_, ?_, ?_, ?_⟩ <;> simp [go_sem]
  have hsW : w.heap.size + 1 < W.heap.size := by subst hW; simp
  have hB := chipOkB_true hok
  obtain ⟨hl, hm, hs8, hx⟩ := hok
  have HL : Hid (ps.length = 60 ∧ ws.length = 10) := ⟨hl, hm⟩
  have hl1 : 60 ≤ ps.length ∧ ps.length ≤ 60 := by omega
  have hm1 : 10 ≤ ws.length ∧ ws.length ≤ 10 := by omega
  clear hl hm
  go_enter Try.func18, Try.ntmps18
  go_wp2_with fail
  rw [← hW]
  clear hW
  refine (specChipOk_any a b ps ws c d _ (hp.below hbW) (hw.below hbW) (by omega) (by omega) (fun s h => by have := hs8 s h; omega)).mono ?_
  rw [hB]
  rintro e w1 ⟨rfl, hb1⟩
  have k1 := (hb1.cell (p := ⟨w.heap.size, 0, none⟩) (by show _ < _; simp; omega)).trans cW.1
  have k2 := (hb1.cell (p := ⟨w.heap.size, 1, none⟩) (by show _ < _; simp; omega)).trans cW.2.1
  have hbw1 := after hbW hb1
  have hs1 := hb1.size
  go_wp2_with fail
  refine (copy_any a b ps ws c d _ (hp.below hbw1) (hw.below hbw1) HL.out.1 HL.out.2).mono ?_
  rintro e w2 ⟨v, rfl, hown, hb2⟩
  obtain ⟨g, kg, g', kg', rfl, ho1, ho2, hne, hg1, hg2, hg3, hg4⟩ := own_form hown (by omega) (by omega)
  have hb12 := after hb1 hb2
  have hbw2 := after hbw1 hb2
  have hs2 := hb2.size
  obtain ⟨V, hV⟩ : ∃ V, V = w2.alloc (Obj.cells #[.slice (some ⟨g, 0, none⟩) ps.length kg, .slice (some ⟨g', 0, none⟩) ws.length kg'] 28) := ⟨_, rfl⟩
  have bV2 : Below w2.heap.size w2 V := by subst hV; exact (Below.refl _ _).alloc (Nat.le_refl _) _
  have bV : Below W.heap.size W V := hb12.trans (bV2.mono (by omega))
  have j0 : (w2.alloc (Obj.cells #[.slice (some ⟨g, 0, none⟩) ps.length kg, .slice (some ⟨g', 0, none⟩) ws.length kg'] 28)).cell? ⟨w.heap.size, 0, none⟩ = some (.slice a ps.length c) := by
    rw [← hV]; exact (bV.cell (p := ⟨w.heap.size, 0, none⟩) (by show _ < _; simp; omega)).trans cW.1
  have j1 : V.cell? ⟨w.heap.size, 0, none⟩ = some (.slice a ps.length c) := (bV.cell (p := ⟨w.heap.size, 0, none⟩) (by show _ < _; simp; omega)).trans cW.1
  have j3 : V.cell? ⟨w.heap.size + 1, 0, none⟩ = some (.slice none 0 0) := (bV.cell (p := ⟨w.heap.size + 1, 0, none⟩) (by show _ < _; simp; omega)).trans cW.2.2.1
  have j4 : V.cell? ⟨w.heap.size + 1, 1, none⟩ = some (.slice none 0 0) := (bV.cell (p := ⟨w.heap.size + 1, 1, none⟩) (by show _ < _; simp; omega)).trans cW.2.2.2.1
  have f3 : V.frozen? ⟨w.heap.size + 1, 0, none⟩ = false := (bV.frozen (p := ⟨w.heap.size + 1, 0, none⟩) (by show _ < _; simp; omega)).trans cW.2.2.2.2.1
  have f4 : V.frozen? ⟨w.heap.size + 1, 1, none⟩ = false := (bV.frozen (p := ⟨w.heap.size + 1, 1, none⟩) (by show _ < _; simp; omega)).trans cW.2.2.2.2.2
  have j5 : V.cell? ⟨w2.heap.size, 0, none⟩ = some (.slice (some ⟨g, 0, none⟩) ps.length kg) := by subst hV; simp
  have j6 : V.cell? ⟨w2.heap.size, 1, none⟩ = some (.slice (some ⟨g', 0, none⟩) ws.length kg') := by subst hV; simp
  have hpc : Rd V a (vsString ps) := (hp.below hbw2).below bV2
  have hbV : Below w.heap.size w V := after hbw2 bV2
  have HO1 : Hid _ := owns_below ho1 bV2
  have HO2 : Hid _ := owns_below ho2 bV2
  have hgw : w.heap.size + 1 < g ∧ w.heap.size + 1 < g' ∧ w.heap.size + 1 < w1.heap.size := by omega
  have hgn : ¬ g = w.heap.size + 1 := by omega
  have hgn2 : ¬ g = w2.heap.size := by omega
  have hwn2 : ¬ w2.heap.size = w.heap.size + 1 := by omega
  clear hb1 hb2 hb12 hbW cW hp hw hx hB hbw1 hown k1 k2 bV bV2 hbw2 ho1 ho2 hs1 hs2 hsW
  go_wp2_with fail
  refine (in_any _ _ _ _).mono ?_
  rintro e u ⟨rfl, hu⟩
  have hu' := hu.symm
  subst hu'
  rw [← hV]
  clear hV j0
  have finF : Hid (ChipOwn ((V.setCell ⟨w.heap.size + 1, 0, none⟩ (.slice (some ⟨g, 0, none⟩) ps.length kg)).setCell ⟨w.heap.size + 1, 1, none⟩ (.slice (some ⟨g', 0, none⟩) ws.length kg')) w.heap.size (.agg #[.slice (some ⟨g, 0, none⟩) ps.length kg, .slice (some ⟨g', 0, none⟩) ws.length kg']) ps ws) := by
    refine own_mono (own_set (own_set ⟨_, _, rfl, HO1.out, HO2.out, ?_⟩ ?_ _) ?_ _) (by omega)
    · intro q hq
      simp [Value.ownBlock] at hq ⊢
      omega
    · show _ < _; exact hgw.2.2
    · show _ < _; exact hgw.2.2
  by_cases hin : 0 ≤ page ∧ page ≤ (ps.length : Int) - 1
  · have hd : decide (0 ≤ page ∧ page ≤ (ps.length : Int) - 1) = true := by simpa using hin
    rw [hd]
    obtain ⟨P, rfl⟩ : ∃ P : Nat, page = P := ⟨page.toNat, by omega⟩
    have hPl : P < ps.length := by omega
    clear hin hd
    obtain ⟨b1, o1, x, rfl, hck, HX⟩ := rdString_at hpc hPl
    clear hpc
    by_cases hxe : x = ByteArray.empty
    · by_cases hte : text = ByteArray.empty
      · have hnb : Hid (¬ burnOk ps P text) := fun h => h.2.2.2.1 hte
        subst hxe hte
        go_wp2
        exact bodyPost_ret (v := .tuple #[.agg #[.slice (some ⟨g, 0, none⟩) ps.length kg, .slice (some ⟨g', 0, none⟩) ws.length kg'], .bool false]) (by simp [results, Try.results18, go_sem, j3, j4]) rfl ⟨fun h => absurd h hnb.out, fun _ => ⟨_, rfl, finF.out⟩, (hbV.setCell (by show _ ≤ _; simp) _).setCell (by show _ ≤ _; simp) _⟩
      · have hti := isEmpty_str hte
        by_cases ht8 : (800 : Int) < (text.size : Int)
        · have hnb : Hid (¬ burnOk ps P text) := fun h => by have := h.2.2.2.2; omega
          subst hxe
          clear hte
          go_wp2
          exact bodyPost_ret (v := .tuple #[.agg #[.slice (some ⟨g, 0, none⟩) ps.length kg, .slice (some ⟨g', 0, none⟩) ws.length kg'], .bool false]) (by simp [results, Try.results18, go_sem, j3, j4]) rfl ⟨fun h => absurd h hnb.out, fun _ => ⟨_, rfl, finF.out⟩, (hbV.setCell (by show _ ≤ _; simp) _).setCell (by show _ ≤ _; simp) _⟩
        · have hyb : Hid (burnOk ps P text) := ⟨by omega, by omega, by rw [Int.toNat_natCast, HX.out, hxe]; rfl, hte, by omega⟩
          have hcg : V.cell? ⟨g, P, none⟩ = some (.string x) := by
            rw [World.ownsRow.cellAt HO1.out P (by omega), List.getElem?_map, HX.out]; rfl
          have hfg := World.ownsRow.frozenAt HO1.out P
          have finT : Hid (ChipOwn (((V.setCell ⟨g, P, none⟩ (.string text)).setCell ⟨w.heap.size + 1, 0, none⟩ (.slice (some ⟨g, 0, none⟩) ps.length kg)).setCell ⟨w.heap.size + 1, 1, none⟩ (.slice (some ⟨g', 0, none⟩) ws.length kg')) w.heap.size (.agg #[.slice (some ⟨g, 0, none⟩) ps.length kg, .slice (some ⟨g', 0, none⟩) ws.length kg']) (ps.set P text) ws) := by
            refine own_mono (own_set (own_set (own_page HO1.out HO2.out hne P text) ?_ _) ?_ _) (show w.heap.size ≤ w1.heap.size by omega)
            · show _ < _; exact hgw.2.2
            · show _ < _; exact hgw.2.2
          have hbT : Hid (Below w.heap.size w (((V.setCell ⟨g, P, none⟩ (.string text)).setCell ⟨w.heap.size + 1, 0, none⟩ (.slice (some ⟨g, 0, none⟩) ps.length kg)).setCell ⟨w.heap.size + 1, 1, none⟩ (.slice (some ⟨g', 0, none⟩) ws.length kg'))) :=
            ((hbV.setCell (by show _ ≤ _; simp; omega) _).setCell (by show _ ≤ _; simp) _).setCell (by show _ ≤ _; simp) _
          subst hxe
          clear hte finF
          go_wp2
          exact bodyPost_ret (v := .tuple #[.agg #[.slice (some ⟨g, 0, none⟩) ps.length kg, .slice (some ⟨g', 0, none⟩) ws.length kg'], .bool true]) (by simp [results, Try.results18, go_sem, j3, j4]) rfl ⟨fun _ => ⟨_, rfl, by rw [Int.toNat_natCast]; exact finT.out⟩, fun h => absurd hyb.out h, hbT.out⟩
    · have hxi := isEmpty_str hxe
      have hnb : Hid (¬ burnOk ps P text) := fun h => hxe (by have := h.2.2.1; rw [Int.toNat_natCast, HX.out] at this; exact this)
      clear hxe
      go_wp2
      exact bodyPost_ret (v := .tuple #[.agg #[.slice (some ⟨g, 0, none⟩) ps.length kg, .slice (some ⟨g', 0, none⟩) ws.length kg'], .bool false]) (by simp [results, Try.results18, go_sem, j3, j4]) rfl ⟨fun h => absurd h hnb.out, fun _ => ⟨_, rfl, finF.out⟩, (hbV.setCell (by show _ ≤ _; simp) _).setCell (by show _ ≤ _; simp) _⟩
  · have hd : decide (0 ≤ page ∧ page ≤ (ps.length : Int) - 1) = false := by simpa using hin
    have hnb : Hid (¬ burnOk ps page text) := fun h => hin ⟨h.1, by have := h.2.1; omega⟩
    rw [hd]
    clear hin hd hpc
    go_wp2
    exact bodyPost_ret (v := .tuple #[.agg #[.slice (some ⟨g, 0, none⟩) ps.length kg, .slice (some ⟨g', 0, none⟩) ws.length kg'], .bool false]) (by simp [results, Try.results18, go_sem, j3, j4]) rfl ⟨fun h => absurd h hnb.out, fun _ => ⟨_, rfl, finF.out⟩, (hbV.setCell (by show _ ≤ _; simp) _).setCell (by show _ ≤ _; simp) _⟩

end Go.Proofs.Ytgfadkgmpljolaa
