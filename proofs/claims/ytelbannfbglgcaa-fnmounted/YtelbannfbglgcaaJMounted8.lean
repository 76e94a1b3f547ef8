/-
  Contract of the specification's Burn.
  Contract of the specification's l2Wipe: the first pages of a block of a chip that is our own are cleared, its number is one more.
  Contract of the specification's Mount.
-/
import Derived.Test.YtelbannfbglgcaaJMounted7
import Derived.RegionTactic
import Derived.BigRegion
import Derived.Test.YtelbannfbglgcaaJMounted4
import Derived.Test.YtelbannfbglgcaaJMounted5
import Derived.Deep.QuietTactic
import Derived.BigQuiet
namespace Go.Proofs.Ytelbannfbglgcaa
open Go.RowKit

/-- What Burn makes of the pages. -/
def burnOk (ps : List ByteArray) (page : Int) (text : ByteArray) : Prop := 0 ≤ page ∧ page ≤ 59 ∧ ps[page.toNat]?.getD ByteArray.empty = ByteArray.empty ∧ text ≠ ByteArray.empty ∧ text.size ≤ 800

/-- A chip that is the call's own, its rows written out. -/
theorem own_form {w : World} {base : Nat} {v : Value} {ps : List ByteArray} {ws : List Int} (h : ChipOwn w base v ps ws) (h1 : 0 < ps.length) (h2 : 0 < ws.length) :
    ∃ g k g' k', v = .agg #[.slice (some ⟨g, 0, none⟩) ps.length k, .slice (some ⟨g', 0, none⟩) ws.length k'] ∧ w.ownsRow base 9 1 (.slice (some ⟨g, 0, none⟩) ps.length k) ps.length (vsString ps) ∧
      w.ownsRow base 3 1 (.slice (some ⟨g', 0, none⟩) ws.length k') ws.length (vsInt ws) ∧ g ≠ g' ∧ base ≤ g ∧ base ≤ g' ∧ g < w.heap.size ∧ g' < w.heap.size := by
  obtain ⟨v1, v2, rfl, ho1, ho2, hne⟩ := h
  obtain ⟨g, k, rfl, hb, hl⟩ := owns_form ho1 h1
  obtain ⟨g', k', rfl, hb', hl'⟩ := owns_form ho2 h2
  exact ⟨g, k, g', k', rfl, ho1, ho2, fun e => hne g rfl (by rw [e]; rfl), hb, hb', hl, hl'⟩
theorem own_zero (w : World) (base : Nat) : ChipOwn w base (.agg #[.slice none 0 0, .slice none 0 0]) [] [] :=
  ⟨_, _, rfl, World.ownsRow_nil _ _ _ _, World.ownsRow_nil _ _ _ _, fun k hk => by simp [Value.ownBlock] at hk⟩
theorem own_below {w w' : World} {base : Nat} {v : Value} {ps : List ByteArray} {ws : List Int} (h : ChipOwn w base v ps ws) (hb : Below w.heap.size w w') : ChipOwn w' base v ps ws := by
  obtain ⟨v1, v2, rfl, ho1, ho2, hne⟩ := h
  exact ⟨v1, v2, rfl, owns_below ho1 hb, owns_below ho2 hb, hne⟩
theorem own_mono {w : World} {base base' : Nat} {v : Value} {ps : List ByteArray} {ws : List Int} (h : ChipOwn w base' v ps ws) (hb : base ≤ base') : ChipOwn w base v ps ws := by
  obtain ⟨v1, v2, rfl, ho1, ho2, hne⟩ := h
  exact ⟨v1, v2, rfl, owns_mono ho1 hb, owns_mono ho2 hb, hne⟩
theorem own_set {w : World} {base : Nat} {v : Value} {ps : List ByteArray} {ws : List Int} (h : ChipOwn w base v ps ws) {a : Addr} (ha : a.block < base) (u : Value) : ChipOwn (w.setCell a u) base v ps ws := by
  obtain ⟨v1, v2, rfl, ho1, ho2, hne⟩ := h
  exact ⟨v1, v2, rfl, ownsRow_setCell_below ho1 ha u, ownsRow_setCell_below ho2 ha u, hne⟩
/-- One page is written. -/
theorem own_page {w : World} {base g k g' k' : Nat} {ps : List ByteArray} {ws : List Int} (ho1 : w.ownsRow base 9 1 (.slice (some ⟨g, 0, none⟩) ps.length k) ps.length (vsString ps))
    (ho2 : w.ownsRow base 3 1 (.slice (some ⟨g', 0, none⟩) ws.length k') ws.length (vsInt ws)) (hne : g ≠ g') (j : Nat) (t : ByteArray) :
    ChipOwn (w.setCell ⟨g, j, none⟩ (.string t)) base (.agg #[.slice (some ⟨g, 0, none⟩) ps.length k, .slice (some ⟨g', 0, none⟩) ws.length k']) (ps.set j t) ws := by
  have hs := ho1.stored j (.string t)
  refine ⟨_, _, rfl, ?_, ?_, ?_⟩
  · have e : (vsString ps).set j (.string t) = vsString (ps.set j t) := by simp [List.map_set]
    have := hs.1
    rw [e] at this
    simpa using this
  · exact ho2.kept hs.2 (.inr (by simp [Value.ownBlock]; omega))
  · intro q hq
    simp [Value.ownBlock] at hq ⊢
    omega

set_option maxHeartbeats 1600000 in
theorem specBurn_bad (a b : Option Addr) (ps : List ByteArray) (ws : List Int) (c d : Nat) (page : Int) (text : ByteArray) (w : World) (hp : Rd w a (vsString ps)) (hw : Rd w b (vsInt ws)) (hl : ps.length ≤ 1048576) (hm : ws.length ≤ 1048576) (hs : ∀ s ∈ ps, s.size ≤ 1048576) (hok : ¬ chipOkP ps ws) :
    Calls Try.prog 11 #[.agg #[.slice a ps.length c, .slice b ws.length d], .int .i64 page, .string text] w fun e w' => ∃ v, e = .returned (.tuple #[v, .bool false]) ∧ ChipOwn w' w.heap.size v [] [] ∧ Below w.heap.size w w' := by
  obtain ⟨W, hW⟩ : ∃ W, W = (w.alloc (Obj.cells #[.slice a ps.length c, .slice b ws.length d] 27)).alloc (Obj.cells #[.slice none 0 0, .slice none 0 0] 27) := ⟨_, rfl⟩
  have hbW : Below w.heap.size w W := by subst hW; exact ((Below.refl _ _).alloc (Nat.le_refl _) _).alloc (by simp) _
  have cW : W.cell? ⟨w.heap.size + 1, 0, none⟩ = some (.slice none 0 0) ∧ W.cell? ⟨w.heap.size + 1, 1, none⟩ = some (.slice none 0 0) ∧ W.frozen? ⟨w.heap.size + 1, 0, none⟩ = false ∧ W.frozen? ⟨w.heap.size + 1, 1, none⟩ = false ∧ w.heap.size + 1 < W.heap.size := by
    subst hW; refine ⟨?_, ?_, ?_, ?_, ?_⟩ <;> simp [go_sem]
  have hB := chipOkB_false hok
  go_enter Try.func11, Try.ntmps11
  go_wp2_with fail
  rw [← hW]
  clear hW
  refine (specChipOk_any a b ps ws c d _ (hp.below hbW) (hw.below hbW) hl hm hs).mono ?_
  rw [hB]
  rintro e w1 ⟨rfl, hb1⟩
  have k1 := (hb1.cell (p := ⟨w.heap.size + 1, 0, none⟩) (by show _ < _; exact cW.2.2.2.2)).trans cW.1
  have k2 := (hb1.cell (p := ⟨w.heap.size + 1, 1, none⟩) (by show _ < _; exact cW.2.2.2.2)).trans cW.2.1
  have f1 := (hb1.frozen (p := ⟨w.heap.size + 1, 0, none⟩) (by show _ < _; exact cW.2.2.2.2)).trans cW.2.2.1
  have f2 := (hb1.frozen (p := ⟨w.heap.size + 1, 1, none⟩) (by show _ < _; exact cW.2.2.2.2)).trans cW.2.2.2.1
  have hbw1 := after hbW hb1
  clear hb1 hbW cW hp hw hs hok hB
  go_wp2
  exact bodyPost_ret (v := .tuple #[.agg #[.slice none 0 0, .slice none 0 0], .bool false]) (by simp [results, Try.results11, go_sem, k1, k2]) rfl ⟨_, rfl, own_zero _ _, (hbw1.setCell (by show _ ≤ _; simp) _).setCell (by show _ ≤ _; simp) _⟩

theorem isEmpty_str {s : ByteArray} (h : ¬ s = ByteArray.empty) : s.toList.isEmpty = false := by
  rw [ByteArray.toList_eq]
  cases s with
  | mk data =>
    cases hd : data.toList with
    | nil =>
      exfalso; apply h
      have : data = #[] := by simpa using hd
      rw [this]; rfl
    | cons x r => simp

set_option maxHeartbeats 3200000 in
theorem specBurn_ok (a b : Option Addr) (ps : List ByteArray) (ws : List Int) (c d : Nat) (page : Int) (text : ByteArray) (w : World) (hp : Rd w a (vsString ps)) (hw : Rd w b (vsInt ws)) (hok : chipOkP ps ws) (ht : text.size ≤ 1048576) :
    Calls Try.prog 11 #[.agg #[.slice a ps.length c, .slice b ws.length d], .int .i64 page, .string text] w fun e w' => (burnOk ps page text → ∃ v, e = .returned (.tuple #[v, .bool true]) ∧ ChipOwn w' w.heap.size v (ps.set page.toNat text) ws) ∧
      (¬ burnOk ps page text → ∃ v, e = .returned (.tuple #[v, .bool false]) ∧ ChipOwn w' w.heap.size v ps ws) ∧ Below w.heap.size w w' := by
  obtain ⟨W, hW⟩ : ∃ W, W = (w.alloc (Obj.cells #[.slice a ps.length c, .slice b ws.length d] 27)).alloc (Obj.cells #[.slice none 0 0, .slice none 0 0] 27) := ⟨_, rfl⟩
  have hbW : Below w.heap.size w W := by subst hW; exact ((Below.refl _ _).alloc (Nat.le_refl _) _).alloc (by simp) _
  have cW : W.cell? ⟨w.heap.size, 0, none⟩ = some (.slice a ps.length c) ∧ W.cell? ⟨w.heap.size, 1, none⟩ = some (.slice b ws.length d) ∧ W.cell? ⟨w.heap.size + 1, 0, none⟩ = some (.slice none 0 0) ∧ W.cell? ⟨w.heap.size + 1, 1, none⟩ = some (.slice none 0 0) ∧ W.frozen? ⟨w.heap.size + 1, 0, none⟩ = false ∧ W.frozen? ⟨w.heap.size + 1, 1, none⟩ = false := by
    subst hW; refine ⟨?_, ?_, ?_, ?_, ?_, ?_⟩ <;> simp [go_sem]
  have hsW : w.heap.size + 1 < W.heap.size := by subst hW; simp
  have hB := chipOkB_true hok
  obtain ⟨hl, hm, hs8, hx⟩ := hok
  have HL : Hid (ps.length = 60 ∧ ws.length = 10) := ⟨hl, hm⟩
  have hl1 : 60 ≤ ps.length ∧ ps.length ≤ 60 := by omega
  have hm1 : 10 ≤ ws.length ∧ ws.length ≤ 10 := by omega
  clear hl hm
  go_enter Try.func11, Try.ntmps11
  go_wp2_with fail
  rw [← hW]
  clear hW
  refine (specChipOk_any a b ps ws c d _ (hp.below hbW) (hw.below hbW) (by omega) (by omega) (fun s h => by have := hs8 s h; omega)).mono ?_
  rw [hB]
  rintro e w1 ⟨rfl, hb1⟩
  have k1 := (hb1.cell (p := ⟨w.heap.size, 0, none⟩) (by show _ < _; simp; omega)).trans cW.1
  have k2 := (hb1.cell (p := ⟨w.heap.size, 1, none⟩) (by show _ < _; simp; omega)).trans cW.2.1
  have hbw1 := after hbW hb1
  have hs1 := hb1.size
  go_wp2_with fail
  refine (copy_any a b ps ws c d _ (hp.below hbw1) (hw.below hbw1) HL.out.1 HL.out.2).mono ?_
  rintro e w2 ⟨v, rfl, hown, hb2⟩
  obtain ⟨g, kg, g', kg', rfl, ho1, ho2, hne, hg1, hg2, hg3, hg4⟩ := own_form hown (by omega) (by omega)
  have hb12 := after hb1 hb2
  have hbw2 := after hbw1 hb2
  have hs2 := hb2.size
  obtain ⟨V, hV⟩ : ∃ V, V = w2.alloc (Obj.cells #[.slice (some ⟨g, 0, none⟩) ps.length kg, .slice (some ⟨g', 0, none⟩) ws.length kg'] 27) := ⟨_, rfl⟩
  have bV2 : Below w2.heap.size w2 V := by subst hV; exact (Below.refl _ _).alloc (Nat.le_refl _) _
  have bV : Below W.heap.size W V := hb12.trans (bV2.mono (by omega))
  have j0 : (w2.alloc (Obj.cells #[.slice (some ⟨g, 0, none⟩) ps.length kg, .slice (some ⟨g', 0, none⟩) ws.length kg'] 27)).cell? ⟨w.heap.size, 0, none⟩ = some (.slice a ps.length c) := by
    rw [← hV]; exact (bV.cell (p := ⟨w.heap.size, 0, none⟩) (by show _ < _; simp; omega)).trans cW.1
  have j1 : V.cell? ⟨w.heap.size, 0, none⟩ = some (.slice a ps.length c) := (bV.cell (p := ⟨w.heap.size, 0, none⟩) (by show _ < _; simp; omega)).trans cW.1
  have j3 : V.cell? ⟨w.heap.size + 1, 0, none⟩ = some (.slice none 0 0) := (bV.cell (p := ⟨w.heap.size + 1, 0, none⟩) (by show _ < _; simp; omega)).trans cW.2.2.1
  have j4 : V.cell? ⟨w.heap.size + 1, 1, none⟩ = some (.slice none 0 0) := (bV.cell (p := ⟨w.heap.size + 1, 1, none⟩) (by show _ < _; simp; omega)).trans cW.2.2.2.1
  have f3 : V.frozen? ⟨w.heap.size + 1, 0, none⟩ = false := (bV.frozen (p := ⟨w.heap.size + 1, 0, none⟩) (by show _ < _; simp; omega)).trans cW.2.2.2.2.1
  have f4 : V.frozen? ⟨w.heap.size + 1, 1, none⟩ = false := (bV.frozen (p := ⟨w.heap.size + 1, 1, none⟩) (by show _ < _; simp; omega)).trans cW.2.2.2.2.2
  have j5 : V.cell? ⟨w2.heap.size, 0, none⟩ = some (.slice (some ⟨g, 0, none⟩) ps.length kg) := by subst hV; simp
  have j6 : V.cell? ⟨w2.heap.size, 1, none⟩ = some (.slice (some ⟨g', 0, none⟩) ws.length kg') := by subst hV; simp
  have hpc : Rd V a (vsString ps) := (hp.below hbw2).below bV2
  have hbV : Below w.heap.size w V := after hbw2 bV2
  have HO1 : Hid _ := owns_below ho1 bV2
  have HO2 : Hid _ := owns_below ho2 bV2
  have hgw : w.heap.size + 1 < g ∧ w.heap.size + 1 < g' ∧ w.heap.size + 1 < w1.heap.size := by omega
  have hgn : ¬ g = w.heap.size + 1 := by omega
  have hgn2 : ¬ g = w2.heap.size := by omega
  have hwn2 : ¬ w2.heap.size = w.heap.size + 1 := by omega
  clear hb1 hb2 hb12 hbW cW hp hw hx hB hbw1 hown k1 k2 bV bV2 hbw2 ho1 ho2 hs1 hs2 hsW
  go_wp2_with fail
  refine (in_any _ _ _ _).mono ?_
  rintro e u ⟨rfl, hu⟩
  have hu' := hu.symm
  subst hu'
  rw [← hV]
  clear hV j0
  have finF : Hid (ChipOwn ((V.setCell ⟨w.heap.size + 1, 0, none⟩ (.slice (some ⟨g, 0, none⟩) ps.length kg)).setCell ⟨w.heap.size + 1, 1, none⟩ (.slice (some ⟨g', 0, none⟩) ws.length kg')) w.heap.size (.agg #[.slice (some ⟨g, 0, none⟩) ps.length kg, .slice (some ⟨g', 0, none⟩) ws.length kg']) ps ws) := by
    refine own_mono (own_set (own_set ⟨_, _, rfl, HO1.out, HO2.out, ?_⟩ ?_ _) ?_ _) (by omega)
    · intro q hq
      simp [Value.ownBlock] at hq ⊢
      omega
    · show _ < _; exact hgw.2.2
    · show _ < _; exact hgw.2.2
  by_cases hin : 0 ≤ page ∧ page ≤ (ps.length : Int) - 1
  · have hd : decide (0 ≤ page ∧ page ≤ (ps.length : Int) - 1) = true := by simpa using hin
    rw [hd]
    obtain ⟨P, rfl⟩ : ∃ P : Nat, page = P := ⟨page.toNat, by omega⟩
    have hPl : P < ps.length := by omega
    clear hin hd
    obtain ⟨b1, o1, x, rfl, hck, HX⟩ := rdString_at hpc hPl
    clear hpc
    by_cases hxe : x = ByteArray.empty
    · by_cases hte : text = ByteArray.empty
      · have hnb : Hid (¬ burnOk ps P text) := fun h => h.2.2.2.1 hte
        subst hxe hte
        go_wp2
        exact bodyPost_ret (v := .tuple #[.agg #[.slice (some ⟨g, 0, none⟩) ps.length kg, .slice (some ⟨g', 0, none⟩) ws.length kg'], .bool false]) (by simp [results, Try.results11, go_sem, j3, j4]) rfl ⟨fun h => absurd h hnb.out, fun _ => ⟨_, rfl, finF.out⟩, (hbV.setCell (by show _ ≤ _; simp) _).setCell (by show _ ≤ _; simp) _⟩
      · have hti := isEmpty_str hte
        by_cases ht8 : (800 : Int) < (text.size : Int)
        · have hnb : Hid (¬ burnOk ps P text) := fun h => by have := h.2.2.2.2; omega
          subst hxe
          clear hte
          go_wp2
          exact bodyPost_ret (v := .tuple #[.agg #[.slice (some ⟨g, 0, none⟩) ps.length kg, .slice (some ⟨g', 0, none⟩) ws.length kg'], .bool false]) (by simp [results, Try.results11, go_sem, j3, j4]) rfl ⟨fun h => absurd h hnb.out, fun _ => ⟨_, rfl, finF.out⟩, (hbV.setCell (by show _ ≤ _; simp) _).setCell (by show _ ≤ _; simp) _⟩
        · have hyb : Hid (burnOk ps P text) := ⟨by omega, by omega, by rw [Int.toNat_natCast, HX.out, hxe]; rfl, hte, by omega⟩
          have hcg : V.cell? ⟨g, P, none⟩ = some (.string x) := by
            rw [World.ownsRow.cellAt HO1.out P (by omega), List.getElem?_map, HX.out]; rfl
          have hfg := World.ownsRow.frozenAt HO1.out P
          have finT : Hid (ChipOwn (((V.setCell ⟨g, P, none⟩ (.string text)).setCell ⟨w.heap.size + 1, 0, none⟩ (.slice (some ⟨g, 0, none⟩) ps.length kg)).setCell ⟨w.heap.size + 1, 1, none⟩ (.slice (some ⟨g', 0, none⟩) ws.length kg')) w.heap.size (.agg #[.slice (some ⟨g, 0, none⟩) ps.length kg, .slice (some ⟨g', 0, none⟩) ws.length kg']) (ps.set P text) ws) := by
            refine own_mono (own_set (own_set (own_page HO1.out HO2.out hne P text) ?_ _) ?_ _) (show w.heap.size ≤ w1.heap.size by omega)
            · show _ < _; exact hgw.2.2
            · show _ < _; exact hgw.2.2
          have hbT : Hid (Below w.heap.size w (((V.setCell ⟨g, P, none⟩ (.string text)).setCell ⟨w.heap.size + 1, 0, none⟩ (.slice (some ⟨g, 0, none⟩) ps.length kg)).setCell ⟨w.heap.size + 1, 1, none⟩ (.slice (some ⟨g', 0, none⟩) ws.length kg'))) :=
            ((hbV.setCell (by show _ ≤ _; simp; omega) _).setCell (by show _ ≤ _; simp) _).setCell (by show _ ≤ _; simp) _
          subst hxe
          clear hte finF
          go_wp2
          exact bodyPost_ret (v := .tuple #[.agg #[.slice (some ⟨g, 0, none⟩) ps.length kg, .slice (some ⟨g', 0, none⟩) ws.length kg'], .bool true]) (by simp [results, Try.results11, go_sem, j3, j4]) rfl ⟨fun _ => ⟨_, rfl, by rw [Int.toNat_natCast]; exact finT.out⟩, fun h => absurd hyb.out h, hbT.out⟩
    · have hxi := isEmpty_str hxe
      have hnb : Hid (¬ burnOk ps P text) := fun h => hxe (by have := h.2.2.1; rw [Int.toNat_natCast, HX.out] at this; exact this)
      clear hxe
      go_wp2
      exact bodyPost_ret (v := .tuple #[.agg #[.slice (some ⟨g, 0, none⟩) ps.length kg, .slice (some ⟨g', 0, none⟩) ws.length kg'], .bool false]) (by simp [results, Try.results11, go_sem, j3, j4]) rfl ⟨fun h => absurd h hnb.out, fun _ => ⟨_, rfl, finF.out⟩, (hbV.setCell (by show _ ≤ _; simp) _).setCell (by show _ ≤ _; simp) _⟩
  · have hd : decide (0 ≤ page ∧ page ≤ (ps.length : Int) - 1) = false := by simpa using hin
    have hnb : Hid (¬ burnOk ps page text) := fun h => hin ⟨h.1, by have := h.2.1; omega⟩
    rw [hd]
    clear hin hd hpc
    go_wp2
    exact bodyPost_ret (v := .tuple #[.agg #[.slice (some ⟨g, 0, none⟩) ps.length kg, .slice (some ⟨g', 0, none⟩) ws.length kg'], .bool false]) (by simp [results, Try.results11, go_sem, j3, j4]) rfl ⟨fun h => absurd h hnb.out, fun _ => ⟨_, rfl, finF.out⟩, (hbV.setCell (by show _ ≤ _; simp) _).setCell (by show _ ≤ _; simp) _⟩

end Go.Proofs.Ytelbannfbglgcaa

namespace Go.Proofs.Ytelbannfbglgcaa
open Go.RowKit

/-- The first m pages of a block are clear. -/
def wipeP (ps : List ByteArray) (B : Nat) : Nat → List ByteArray
  | 0 => ps
  | m + 1 => (wipeP ps B m).set (B * 6 + m) ByteArray.empty
theorem wipeP_len (ps : List ByteArray) (B m : Nat) : (wipeP ps B m).length = ps.length := by
  induction m with
  | zero => rfl
  | succ m ih => simp [wipeP, ih]

theorem grown_setB (w : World) (p o : Nat) (v : Value) : w.grownBy (w.setCell ⟨p, o, none⟩ v) (some p) :=
  ⟨rfl, rfl, rfl, by simp [World.setCell], fun k _ hk => Below.heap_setCell _ _ _ _ (fun e => hk (by rw [e]))⟩

theorem OnlyIn.drew {w w' : World} {L : List (Option Nat)} (h : OnlyIn w w' L) : OnlyIn w w'.drew L := ⟨h.os, h.tape, h.output, h.size, h.block⟩

set_option maxHeartbeats 3200000 in
theorem wipe_any (g k g' k' base B M : Nat) (n x : Int) (ps : List ByteArray) (ws : List Int) (w : World) (hl : ps.length = 60) (hm : ws.length = 10)
    (ho1 : w.ownsRow base 9 1 (.slice (some ⟨g, 0, none⟩) ps.length k) ps.length (vsString ps)) (ho2 : w.ownsRow base 3 1 (.slice (some ⟨g', 0, none⟩) ws.length k') ws.length (vsInt ws)) (hne : g ≠ g')
    (hB : B < 10) (hx : ws[B]? = some x) (hx0 : 0 ≤ x) (hx1 : x ≤ 1000000000) (hM : (M : Int) = max (min n 6) 0) (hn1 : n ≤ 9223372036854775807) :
    Calls Try.prog 66 #[.agg #[.slice (some ⟨g, 0, none⟩) ps.length k, .slice (some ⟨g', 0, none⟩) ws.length k'], .int .i64 B, .int .i64 n] w fun e w' =>
      e = .returned (.agg #[.slice (some ⟨g, 0, none⟩) ps.length k, .slice (some ⟨g', 0, none⟩) ws.length k']) ∧ w'.ownsRow base 9 1 (.slice (some ⟨g, 0, none⟩) ps.length k) ps.length (vsString (wipeP ps B M)) ∧
      w'.ownsRow base 3 1 (.slice (some ⟨g', 0, none⟩) ws.length k') ws.length (vsInt (ws.set B (x + 1))) ∧ OnlyIn w w' [some g, some g'] := by
  obtain ⟨W, hW⟩ : ∃ W, W = (w.alloc (Obj.cells #[.slice (some ⟨g, 0, none⟩) ps.length k, .slice (some ⟨g', 0, none⟩) ws.length k'] 27)).alloc (Obj.cells #[.slice none 0 0, .slice none 0 0] 27) := ⟨_, rfl⟩
  have hbW : Below w.heap.size w W := by subst hW; exact ((Below.refl _ _).alloc (Nat.le_refl _) _).alloc (by simp) _
  have cW : W.cell? ⟨w.heap.size, 0, none⟩ = some (.slice (some ⟨g, 0, none⟩) ps.length k) ∧ W.cell? ⟨w.heap.size, 1, none⟩ = some (.slice (some ⟨g', 0, none⟩) ws.length k') ∧ W.cell? ⟨w.heap.size + 1, 0, none⟩ = some (.slice none 0 0) ∧ W.cell? ⟨w.heap.size + 1, 1, none⟩ = some (.slice none 0 0) ∧ W.frozen? ⟨w.heap.size + 1, 0, none⟩ = false ∧ W.frozen? ⟨w.heap.size + 1, 1, none⟩ = false := by
    subst hW; refine ⟨?_, ?_, ?_, ?_, ?_, ?_⟩ <;> simp [go_sem]
  have hsW : w.heap.size + 1 < W.heap.size := by subst hW; simp
  have hg : g < w.heap.size := (owns_lt ho1).2
  have hg' : g' < w.heap.size := (owns_lt ho2).2
  have oW1 := owns_below ho1 hbW
  have oW2 := owns_below ho2 hbW
  have HL : Hid (ps.length = 60 ∧ ws.length = 10) := ⟨hl, hm⟩
  have hl1 : 60 ≤ ps.length ∧ ps.length ≤ 60 := by omega
  have hm1 : 10 ≤ ws.length ∧ ws.length ≤ 10 := by omega
  have HX : Hid (ws[B]? = some x) := hx
  have HM : Hid ((M : Int) = max (min n 6) 0) := hM
  clear hl hm ho1 ho2 hx hM
  go_enter Try.func66, Try.ntmps66
  go_wp2
  rw [← hW]
  clear hW
  go_loopw [7] (fun i wr => ∃ j : Nat, j ≤ M ∧ i = .int .i64 j ∧ wr.ownsRow base 9 1 (.slice (some ⟨g, 0, none⟩) ps.length k) ps.length (vsString (wipeP ps B j)) ∧ W.grownBy wr (some g)) (fun i _ => M - (intOf i).toNat)
  case atStart => exact ⟨0, Nat.zero_le _, rfl, oW1, World.grownBy.refl _ _⟩
  case round =>
    obtain ⟨j, hj, rfl, hown, hgr⟩ := hrel
    have c1 := hgr.cell cW.1 (by simp; omega)
    have c2 := hgr.cell cW.2.1 (by simp; omega)
    have hMn : M ≤ 6 := by have := HM.out; omega
    by_cases hlt : j < M
    · have t1 : (j : Int) < n := by have := HM.out; omega
      have t2 : (j : Int) < 6 := by omega
      have hfz := hown.frozenAt (B * 6 + j)
      have hst := hown.stored (B * 6 + j) (.string ⟨#[]⟩)
      have hcell : ∃ u, wr.cell? ⟨g, B * 6 + j, none⟩ = some u := by
        have h1 := hown.cellAt (B * 6 + j) (by omega)
        have h2 : B * 6 + j < (vsString (wipeP ps B j)).length := by rw [hown.1]; omega
        exact ⟨(vsString (wipeP ps B j))[B * 6 + j], by rw [h1]; exact List.getElem?_eq_getElem h2⟩
      obtain ⟨u, hcell⟩ := hcell
      have HO : Hid ((wr.setCell ⟨g, B * 6 + j, none⟩ (.string ⟨#[]⟩)).ownsRow base 9 1 (.slice (some ⟨g, 0, none⟩) ps.length k) ps.length (vsString (wipeP ps B (j + 1))) ∧ W.grownBy (wr.setCell ⟨g, B * 6 + j, none⟩ (.string ⟨#[]⟩)) (some g)) := by
        refine ⟨?_, grown_trans hgr hst.2⟩
        have e : (vsString (wipeP ps B j)).set (B * 6 + j) (.string ⟨#[]⟩) = vsString (wipeP ps B (j + 1)) := by simp [wipeP, List.map_set]; rfl
        rw [← e]; exact hst.1
      clear hst hown hgr cW oW1 oW2
      go_wp2
      go_roundw
      case rel => exact ⟨j + 1, by omega, by go_num, HO.out.1, HO.out.2⟩
      case measure => simp [intOf]; omega
    · have hjM : j = M := by omega
      subst hjM
      have o2 := oW2.kept hgr (.inr (by simp [Value.ownBlock]; omega))
      have c3 := hgr.cell cW.2.2.1 (by simp; omega)
      have c4 := hgr.cell cW.2.2.2.1 (by simp; omega)
      have f3 : wr.frozen? ⟨w.heap.size + 1, 0, none⟩ = false := (World.frozen?_of_block (w := W) (hgr.block (w.heap.size + 1) (by omega) (by simp; omega))).trans cW.2.2.2.2.1
      have f4 : wr.frozen? ⟨w.heap.size + 1, 1, none⟩ = false := (World.frozen?_of_block (w := W) (hgr.block (w.heap.size + 1) (by omega) (by simp; omega))).trans cW.2.2.2.2.2
      have hwc : wr.cell? ⟨g', B, none⟩ = some (.int .i64 x) := by
        rw [o2.cellAt B (by omega), List.getElem?_map, HX.out]; rfl
      have hwf := o2.frozenAt B
      have hst := o2.stored B (.int .i64 (x + 1))
      have hgn : ¬ g' = w.heap.size := by omega
      have hgn1 : ¬ g' = w.heap.size + 1 := by omega
      have hI1 : (0 : Int) ≤ (B : Int) := by omega
      have hI2 : (B : Int) < (ws.length : Int) := by omega
      have HF : Hid (∀ q r, ((((wr.setCell ⟨g', B, none⟩ (.int .i64 (x + 1))).setCell ⟨w.heap.size + 1, 0, none⟩ q).setCell ⟨w.heap.size + 1, 1, none⟩ r).ownsRow base 9 1 (.slice (some ⟨g, 0, none⟩) ps.length k) ps.length (vsString (wipeP ps B j))) ∧
          ((((wr.setCell ⟨g', B, none⟩ (.int .i64 (x + 1))).setCell ⟨w.heap.size + 1, 0, none⟩ q).setCell ⟨w.heap.size + 1, 1, none⟩ r).ownsRow base 3 1 (.slice (some ⟨g', 0, none⟩) ws.length k') ws.length (vsInt (ws.set B (x + 1)))) ∧
          OnlyIn w (((wr.setCell ⟨g', B, none⟩ (.int .i64 (x + 1))).setCell ⟨w.heap.size + 1, 0, none⟩ q).setCell ⟨w.heap.size + 1, 1, none⟩ r) [some g, some g']) := by
        intro q r
        have e : (vsInt ws).set B (.int .i64 (x + 1)) = vsInt (ws.set B (x + 1)) := by simp [List.map_set]
        have s1 := hst.1
        rw [e] at s1
        have on0 : OnlyIn w wr [some g] := by
          have := (OnlyIn.of_below hbW []).trans (OnlyIn.of_grown hgr)
          simpa using this
        have on1 : OnlyIn w (wr.setCell ⟨g', B, none⟩ (.int .i64 (x + 1))) [some g, some g'] := on0.trans (OnlyIn.of_grown hst.2)
        have s2 : (wr.setCell ⟨g', B, none⟩ (.int .i64 (x + 1))).ownsRow base 9 1 (.slice (some ⟨g, 0, none⟩) ps.length k) ps.length (vsString (wipeP ps B j)) := hown.kept hst.2 (.inr (by simp [Value.ownBlock]; omega))
        have g1 := grown_trans (grown_setB (wr.setCell ⟨g', B, none⟩ (.int .i64 (x + 1))) (w.heap.size + 1) 0 q) (grown_setB _ (w.heap.size + 1) 1 r)
        refine ⟨s2.kept g1 (.inr (by simp [Value.ownBlock]; omega)), s1.kept g1 (.inr (by simp [Value.ownBlock]; omega)), ?_⟩
        refine ⟨on1.os, on1.tape, on1.output, Nat.le_trans on1.size g1.size, fun i hi hn => ?_⟩
        rw [g1.block i (Nat.lt_of_lt_of_le hi on1.size) (by simp; omega)]
        exact on1.block i hi hn
      clear cW oW1 oW2 hown hgr hst o2 hbW
      by_cases t1 : (j : Int) < n
      · have t2 : ¬ (j : Int) < 6 := by have := HM.out; omega
        go_wp2
        go_region
        go_wp2
        exact bodyPost_ret (v := .agg #[.slice (some ⟨g, 0, none⟩) ps.length k, .slice (some ⟨g', 0, none⟩) ws.length k']) (by simp [results, Try.results66, go_sem, c3, c4]) rfl ⟨rfl, (HF.out _ _).1, (HF.out _ _).2.1, (HF.out _ _).2.2.drew⟩
      · go_wp2
        go_region
        go_wp2
        exact bodyPost_ret (v := .agg #[.slice (some ⟨g, 0, none⟩) ps.length k, .slice (some ⟨g', 0, none⟩) ws.length k']) (by simp [results, Try.results66, go_sem, c3, c4]) rfl ⟨rfl, (HF.out _ _).1, (HF.out _ _).2.1, (HF.out _ _).2.2.drew⟩

end Go.Proofs.Ytelbannfbglgcaa

namespace Go.Proofs.Ytelbannfbglgcaa
open Go.RowKit

/-- What is mounted, its three rows the call's own, in three blocks. -/
def FtlOwn (w : World) (base : Nat) (v : Value) (ps : List ByteArray) (ws ms : List Int) (q : Int) : Prop :=
  ∃ v1 v2 v3, v = .agg #[v1, v2, v3, .int .i64 q] ∧ w.ownsRow base 9 1 v1 ps.length (vsString ps) ∧ w.ownsRow base 3 1 v2 ws.length (vsInt ws) ∧ w.ownsRow base 3 1 v3 ms.length (vsInt ms) ∧
    (∀ k, v1.ownBlock = some k → v2.ownBlock ≠ some k) ∧ (∀ k, v1.ownBlock = some k → v3.ownBlock ≠ some k) ∧ (∀ k, v2.ownBlock = some k → v3.ownBlock ≠ some k)
theorem ftlOwn_zero (w : World) (base : Nat) : FtlOwn w base (.agg #[.slice none 0 0, .slice none 0 0, .slice none 0 0, .int .i64 0]) [] [] [] 0 :=
  ⟨_, _, _, rfl, World.ownsRow_nil _ _ _ _, World.ownsRow_nil _ _ _ _, World.ownsRow_nil _ _ _ _, fun k hk => by simp [Value.ownBlock] at hk, fun k hk => by simp [Value.ownBlock] at hk, fun k hk => by simp [Value.ownBlock] at hk⟩

set_option maxHeartbeats 1600000 in
theorem specMount_bad (a b : Option Addr) (ps : List ByteArray) (ws : List Int) (c d : Nat) (w : World) (hp : Rd w a (vsString ps)) (hw : Rd w b (vsInt ws)) (hl : ps.length ≤ 1048576) (hm : ws.length ≤ 1048576) (hs : ∀ s ∈ ps, s.size ≤ 1048576) (hok : ¬ chipOkP ps ws) :
    Calls Try.prog 28 #[.agg #[.slice a ps.length c, .slice b ws.length d]] w fun e w' => ∃ v, e = .returned v ∧ FtlOwn w' w.heap.size v [] [] [] 0 ∧ Below w.heap.size w w' := by
  obtain ⟨W, hW⟩ : ∃ W, W = (w.alloc (Obj.cells #[.slice a ps.length c, .slice b ws.length d] 27)).alloc (Obj.cells #[.slice none 0 0, .slice none 0 0, .slice none 0 0, .int .i64 0] 47) := ⟨_, rfl⟩
  have hbW : Below w.heap.size w W := by subst hW; exact ((Below.refl _ _).alloc (Nat.le_refl _) _).alloc (by simp) _
  have cW : W.cell? ⟨w.heap.size + 1, 0, none⟩ = some (.slice none 0 0) ∧ W.cell? ⟨w.heap.size + 1, 1, none⟩ = some (.slice none 0 0) ∧ W.cell? ⟨w.heap.size + 1, 2, none⟩ = some (.slice none 0 0) ∧ W.cell? ⟨w.heap.size + 1, 3, none⟩ = some (.int .i64 0) ∧ (∀ j, W.frozen? ⟨w.heap.size + 1, j, none⟩ = false) ∧ w.heap.size + 1 < W.heap.size := by
    subst hW; refine ⟨?_, ?_, ?_, ?_, fun j => ?_, ?_⟩ <;> simp [go_sem]
  obtain ⟨x0, x1, x2, x3, xf, hsz⟩ := cW
  have hB := chipOkB_false hok
  go_enter Try.func28, Try.ntmps28
  go_wp2_with fail
  rw [← hW]
  clear hW
  refine (specChipOk_any a b ps ws c d _ (hp.below hbW) (hw.below hbW) hl hm hs).mono ?_
  rw [hB]
  rintro e w1 ⟨rfl, hb1⟩
  have k0 := (hb1.cell (p := ⟨w.heap.size + 1, 0, none⟩) hsz).trans x0
  have k1 := (hb1.cell (p := ⟨w.heap.size + 1, 1, none⟩) hsz).trans x1
  have k2 := (hb1.cell (p := ⟨w.heap.size + 1, 2, none⟩) hsz).trans x2
  have k3 := (hb1.cell (p := ⟨w.heap.size + 1, 3, none⟩) hsz).trans x3
  have f0 := (hb1.frozen (p := ⟨w.heap.size + 1, 0, none⟩) hsz).trans (xf 0)
  have f1 := (hb1.frozen (p := ⟨w.heap.size + 1, 1, none⟩) hsz).trans (xf 1)
  have f2 := (hb1.frozen (p := ⟨w.heap.size + 1, 2, none⟩) hsz).trans (xf 2)
  have f3 := (hb1.frozen (p := ⟨w.heap.size + 1, 3, none⟩) hsz).trans (xf 3)
  have hbw1 := after hbW hb1
  clear hb1 hbW x0 x1 x2 x3 xf hp hw hs hok hB
  go_wp2
  exact bodyPost_ret (v := .agg #[.slice none 0 0, .slice none 0 0, .slice none 0 0, .int .i64 0]) (by simp [results, Try.results28, go_sem, k0, k1, k2, k3]) rfl ⟨_, rfl, ftlOwn_zero _ _, (((hbw1.setCell (by show _ ≤ _; simp) _).setCell (by show _ ≤ _; simp) _).setCell (by show _ ≤ _; simp) _).setCell (by show _ ≤ _; simp) _⟩

end Go.Proofs.Ytelbannfbglgcaa
