/-
  All acts, one behind the other, as mathematics.
  Contract of the specification's ApplyAll.
  Torn of the specification: Burn of the first bytes.
-/
import Derived.Test.YtelbannfbglgcaaJMounted21
import Derived.Test.YtelbannfbglgcaaJMounted12
import Derived.Deep.DeepCutAuto
import Derived.Test.YtelbannfbglgcaaJMounted20
import Derived.Test.YtelbannfbglgcaaJMounted9
import Derived.Deep.RegionWith
namespace Go.Proofs.Ytelbannfbglgcaa
open Go.RowKit

/-- All acts, up to the first that is refused: the chip, and whether none was. -/
noncomputable def allR : List (Int × Int × ByteArray) → List ByteArray → List Int → List ByteArray × List Int × Bool
  | [], ps, ws => (ps, ws, true)
  | x :: xs, ps, ws => if applyF ps ws x.1 x.2.1 x.2.2 = true then allR xs (applyP ps ws x.1 x.2.1 x.2.2) (applyW ps ws x.1 x.2.1) else (ps, ws, false)
theorem allR_yes {x : Int × Int × ByteArray} {xs : List (Int × Int × ByteArray)} {ps : List ByteArray} {ws : List Int} (h : applyF ps ws x.1 x.2.1 x.2.2 = true) : allR (x :: xs) ps ws = allR xs (applyP ps ws x.1 x.2.1 x.2.2) (applyW ps ws x.1 x.2.1) := by simp only [allR]; rw [if_pos h]
theorem allR_no {x : Int × Int × ByteArray} {xs : List (Int × Int × ByteArray)} {ps : List ByteArray} {ws : List Int} (h : applyF ps ws x.1 x.2.1 x.2.2 = false) : allR (x :: xs) ps ws = (ps, ws, false) := by simp only [allR]; rw [if_neg (by rw [h]; decide)]
theorem allR_right : ∀ (xs : List (Int × Int × ByteArray)) {ps : List ByteArray} {ws : List Int}, chipOkP ps ws → chipOkP (allR xs ps ws).1 (allR xs ps ws).2.1 := by
  intro xs
  induction xs with
  | nil => intro ps ws h; exact h
  | cons x xs ih =>
    intro ps ws h
    simp only [allR]
    split
    · exact ih (apply_right h)
    · exact h
theorem apply_same {ps : List ByteArray} {ws : List Int} {kind at_ : Int} {text : ByteArray} (hok : chipOkP ps ws) (h : applyF ps ws kind at_ text = false) : applyP ps ws kind at_ text = ps ∧ applyW ps ws kind at_ = ws := by
  have hB := chipOkB_true hok
  unfold applyF at h
  unfold applyP applyW
  by_cases k1 : kind = 1
  · rw [if_pos k1] at h ⊢
    rw [if_pos k1]
    have h : ¬ (chipOkP ps ws ∧ burnOk ps at_ text) := by simpa only [burnF, decide_eq_false_iff_not] using h
    have hn : ¬ burnOk ps at_ text := fun x => h ⟨hok, x⟩
    unfold burnP burnW
    rw [if_pos hok, if_pos hok, if_neg hn]
    exact ⟨rfl, rfl⟩
  · rw [if_neg k1] at h ⊢
    rw [if_neg k1]
    by_cases k2 : kind = 2
    · rw [if_pos k2] at h ⊢
      rw [if_pos k2]
      have h : ¬ (chipOkP ps ws ∧ clearOk ws at_) := by simpa only [clearF, decide_eq_false_iff_not] using h
      have hn : ¬ clearOk ws at_ := fun x => h ⟨hok, x⟩
      unfold clearP halfQ clearW
      rw [if_pos hok, if_pos hok, if_neg hn, if_neg hn]
      exact ⟨rfl, rfl⟩
    · rw [if_neg k2, if_neg k2, if_pos hB, if_pos hB]
      exact ⟨rfl, rfl⟩
end Go.Proofs.Ytelbannfbglgcaa

namespace Go.Proofs.Ytelbannfbglgcaa
open Go.RowKit

/-- A chip of the call's own in a variable of its own. -/
def CBox (A u : World) (B : Nat) (a : Option Addr) (c : Nat) (b : Option Addr) (d : Nat) (ps : List ByteArray) (ws : List Int) : Prop :=
  (u.cell? ⟨B, 0, none⟩ = some (.slice a ps.length c) ∧ u.cell? ⟨B, 1, none⟩ = some (.slice b ws.length d)) ∧ ChipOwn u A.heap.size (.agg #[.slice a ps.length c, .slice b ws.length d]) ps ws ∧ A.heap.size ≤ B ∧ Below A.heap.size A u
theorem cbox_aux {A w1 : World} (hb : Below (A.alloc (Obj.cells #[.slice none 0 0, .slice none 0 0] 27)).drew.heap.size (A.alloc (Obj.cells #[.slice none 0 0, .slice none 0 0] 27)).drew w1) :
    Hid (Below A.heap.size A.drew w1) ∧ (w1.cell? ⟨A.heap.size, 0, none⟩ = some (.slice none 0 0) ∧ w1.cell? ⟨A.heap.size, 1, none⟩ = some (.slice none 0 0)) ∧ ∀ j, w1.frozen? ⟨A.heap.size, j, none⟩ = false := by
  have hsz : (A.alloc (Obj.cells #[.slice none 0 0, .slice none 0 0] 27)).drew.heap.size = A.heap.size + 1 := by simp
  refine ⟨(show Below A.heap.size A.drew (A.alloc (Obj.cells #[.slice none 0 0, .slice none 0 0] 27)).drew from ?_).trans (hb.mono (by omega)), ⟨?_, ?_⟩, fun j => ?_⟩
  · have : Below A.heap.size A (A.alloc (Obj.cells #[.slice none 0 0, .slice none 0 0] 27)) := (Below.refl _ A).alloc (Nat.le_refl _) _
    exact ⟨this.os, this.tape, this.output, this.size, this.block⟩
  · exact (hb.cell (p := ⟨A.heap.size, 0, none⟩) (by show A.heap.size < _; omega)).trans (by simp)
  · exact (hb.cell (p := ⟨A.heap.size, 1, none⟩) (by show A.heap.size < _; omega)).trans (by simp)
  · exact (hb.frozen (p := ⟨A.heap.size, j, none⟩) (by show A.heap.size < _; omega)).trans (by simp)
theorem cbox_late {A u : World} {lo : Nat} {a : Option Addr} {c : Nat} {b : Option Addr} {d : Nat} {ps : List ByteArray} {ws : List Int} {t : TypeId} (ho : ChipOwn u lo (.agg #[.slice a ps.length c, .slice b ws.length d]) ps ws) (hlo : A.heap.size ≤ lo) (hb : Below A.heap.size A u) :
    CBox A (u.alloc (Obj.cells #[.slice a ps.length c, .slice b ws.length d] t)) u.heap.size a c b d ps ws :=
  ⟨⟨by simp, by simp⟩, own_mono (own_below ho ((Below.refl _ _).alloc (Nat.le_refl _) _)) hlo, hb.size, hb.alloc hb.size _⟩
theorem cbox_early {A u : World} {lo : Nat} {a : Option Addr} {c : Nat} {b : Option Addr} {d : Nat} {ps : List ByteArray} {ws : List Int} {x y : Value} (ho : ChipOwn u lo (.agg #[.slice a ps.length c, .slice b ws.length d]) ps ws) (hlo : A.heap.size + 1 ≤ lo) (hb : Below A.heap.size A u) (h0 : u.cell? ⟨A.heap.size, 0, none⟩ = some x) (h1 : u.cell? ⟨A.heap.size, 1, none⟩ = some y) :
    CBox A ((u.setCell ⟨A.heap.size, 0, none⟩ (.slice a ps.length c)).setCell ⟨A.heap.size, 1, none⟩ (.slice b ws.length d)) A.heap.size a c b d ps ws := by
  refine ⟨⟨?_, ?_⟩, own_mono (own_set (own_set ho (a := ⟨A.heap.size, 0, none⟩) (show A.heap.size < lo by omega) _) (a := ⟨A.heap.size, 1, none⟩) (show A.heap.size < lo by omega) _) (by omega), Nat.le_refl _, (hb.setCell (Nat.le_refl _) _).setCell (Nat.le_refl _) _⟩
  · simp [go_sem, World.cell?_setCell_same _ _ _ h0]
  · have : (u.setCell ⟨A.heap.size, 0, none⟩ (.slice a ps.length c)).cell? ⟨A.heap.size, 1, none⟩ = some y := by simpa [go_sem] using h1
    exact World.cell?_setCell_same _ _ _ this

/-- The chip at work in block O, its rows from base on; the result's block R below them. -/
def AllSt (w : World) (R O base : Nat) (pk : List ByteArray) (wk : List Int) : Prop :=
  ∃ g k g' k', (w.cell? ⟨O, 0, none⟩ = some (.slice g pk.length k) ∧ w.cell? ⟨O, 1, none⟩ = some (.slice g' wk.length k')) ∧ (w.frozen? ⟨O, 0, none⟩ = false ∧ w.frozen? ⟨O, 1, none⟩ = false) ∧
    ((∃ x y, w.cell? ⟨R, 0, none⟩ = some x ∧ w.cell? ⟨R, 1, none⟩ = some y) ∧ w.frozen? ⟨R, 0, none⟩ = false ∧ w.frozen? ⟨R, 1, none⟩ = false) ∧
    ChipOwn w base (.agg #[.slice g pk.length k, .slice g' wk.length k']) pk wk ∧ R < base ∧ base ≤ O
theorem chip_rd {w : World} {base : Nat} {g g' : Option Addr} {k k' n n' : Nat} {pk : List ByteArray} {wk : List Int} (h : ChipOwn w base (.agg #[.slice g n k, .slice g' n' k']) pk wk) : Rd w g (vsString pk) ∧ Rd w g' (vsInt wk) := by
  obtain ⟨g1, k1, g2, k2, he, h1, h2, -⟩ := own_open h
  injection he with he
  simp at he
  obtain ⟨⟨rfl, rfl, rfl⟩, rfl, rfl, rfl⟩ := he
  exact ⟨rd_of_own h1, rd_of_own h2⟩
theorem AllSt.below {w w' : World} {R O base : Nat} {pk : List ByteArray} {wk : List Int} (h : AllSt w R O base pk wk) (hb : Below w.heap.size w w') : AllSt w' R O base pk wk := by
  obtain ⟨g, k, g', k', ⟨c1, c2⟩, ⟨f1, f2⟩, ⟨⟨x, y, r1, r2⟩, q1, q2⟩, HO, hR, hO⟩ := h
  have lO := lt_of_cell c1
  have lR := lt_of_cell r1
  exact ⟨g, k, g', k', ⟨(hb.cell (p := ⟨O, 0, none⟩) lO).trans c1, (hb.cell (p := ⟨O, 1, none⟩) lO).trans c2⟩, ⟨(hb.frozen (p := ⟨O, 0, none⟩) lO).trans f1, (hb.frozen (p := ⟨O, 1, none⟩) lO).trans f2⟩,
    ⟨⟨x, y, (hb.cell (p := ⟨R, 0, none⟩) lR).trans r1, (hb.cell (p := ⟨R, 1, none⟩) lR).trans r2⟩, (hb.frozen (p := ⟨R, 0, none⟩) lR).trans q1, (hb.frozen (p := ⟨R, 1, none⟩) lR).trans q2⟩, own_below HO hb, hR, hO⟩
/-- The next chip is taken over. -/
theorem AllSt.take {A w : World} {R O base B : Nat} {pk : List ByteArray} {wk : List Int} {a : Option Addr} {c : Nat} {b : Option Addr} {d : Nat} {ps : List ByteArray} {ws : List Int} (h : AllSt w R O base pk wk) (hc : CBox A w B a c b d ps ws) (hO : O < A.heap.size) :
    AllSt ((w.setCell ⟨O, 0, none⟩ (.slice a ps.length c)).setCell ⟨O, 1, none⟩ (.slice b ws.length d)) R O base ps ws := by
  obtain ⟨g, k, g', k', ⟨c1, c2⟩, ⟨f1, f2⟩, ⟨⟨x, y, r1, r2⟩, q1, q2⟩, HO, hR, hO'⟩ := h
  obtain ⟨-, ho, hB, hb⟩ := hc
  have hne : O ≠ R := by omega
  refine ⟨a, c, b, d, ⟨?_, ?_⟩, ⟨by simpa using f1, by simpa using f2⟩, ⟨⟨x, y, cell_other (cell_other r1 hne) hne, cell_other (cell_other r2 hne) hne⟩, by simpa using q1, by simpa using q2⟩, ?_, hR, hO'⟩
  · simp [go_sem, World.cell?_setCell_same _ _ _ c1]
  · have : (w.setCell ⟨O, 0, none⟩ (.slice a ps.length c)).cell? ⟨O, 1, none⟩ = some (.slice g' wk.length k') := by simpa [go_sem] using c2
    exact World.cell?_setCell_same _ _ _ this
  · exact own_mono (own_set (own_set ho (a := ⟨O, 0, none⟩) hO _) (a := ⟨O, 1, none⟩) hO _) (by omega)

set_option maxRecDepth 100000 in
set_option maxHeartbeats 6400000 in
theorem specApplyAll_ok (a b al : Option Addr) (ps : List ByteArray) (ws : List Int) (c d cl : Nat) (cs : List (Int × Int × ByteArray)) (w : World) (hp : Rd w a (vsString ps)) (hw : Rd w b (vsInt ws)) (hl : Rd w al (vsAct cs)) (hok : chipOkP ps ws) (hcs : cs.length ≤ 1048576) (hts : ∀ x ∈ cs, x.2.2.size ≤ 1048576) :
    Calls Try.prog 49 #[.agg #[.slice a ps.length c, .slice b ws.length d], .slice al cs.length cl] w fun e w' => ∃ v, e = .returned (.tuple #[v, .bool (allR cs ps ws).2.2]) ∧ ChipOwn w' w.heap.size v (allR cs ps ws).1 (allR cs ps ws).2.1 ∧ Below w.heap.size w w' := by
  obtain ⟨A, hA⟩ : ∃ A, A = (w.alloc (Obj.cells #[.slice a ps.length c, .slice b ws.length d] 27)).alloc (Obj.cells #[.slice none 0 0, .slice none 0 0] 27) := ⟨_, rfl⟩
  have hbA : Below w.heap.size w A := by rw [hA]; exact ((Below.refl _ _).alloc (Nat.le_refl _) _).alloc (by simp) _
  have hsA : A.heap.size = w.heap.size + 1 + 1 := by rw [hA]; simp
  have x0 : A.cell? ⟨w.heap.size, 0, none⟩ = some (.slice a ps.length c) := by rw [hA]; simp [go_sem]
  have x1 : A.cell? ⟨w.heap.size, 1, none⟩ = some (.slice b ws.length d) := by rw [hA]; simp [go_sem]
  have y0 : A.cell? ⟨w.heap.size + 1, 0, none⟩ = some (.slice none 0 0) := by rw [hA]; simp [go_sem]
  have y1 : A.cell? ⟨w.heap.size + 1, 1, none⟩ = some (.slice none 0 0) := by rw [hA]; simp [go_sem]
  have yf : A.frozen? ⟨w.heap.size + 1, 0, none⟩ = false ∧ A.frozen? ⟨w.heap.size + 1, 1, none⟩ = false := by rw [hA]; constructor <;> simp [go_sem]
  have HCO := hide (specChipOk_any a b ps ws c d A (hp.below hbA) (hw.below hbA) (by rw [hok.1]; decide) (by rw [hok.2.1]; decide) (fun s h => by have := hok.2.2.1 s h; omega))
  rw [chipOkB_true hok] at HCO
  have HCP : Hid (∀ u, Below A.heap.size A u → Calls Try.prog 62 #[.agg #[.slice a ps.length c, .slice b ws.length d]] u fun e w' => ∃ a c b d, e = .returned (.agg #[.slice a ps.length c, .slice b ws.length d]) ∧ ChipOwn w' u.heap.size (.agg #[.slice a ps.length c, .slice b ws.length d]) ps ws ∧ Below u.heap.size u w') := by
    intro u hu
    refine (copy_any a b ps ws c d u (hp.below (after hbA hu)) (hw.below (after hbA hu)) hok.1 hok.2.1).mono ?_
    rintro e w' ⟨v, rfl, ho, hb⟩
    obtain ⟨a1, c1, b1, d1, rfl, -⟩ := own_open ho
    exact ⟨_, _, _, _, rfl, ho, hb⟩
  obtain ⟨T, hT⟩ : ∃ T, T = allR cs ps ws := ⟨_, rfl⟩
  have HT := hide hT
  rw [← hT]
  have HL := hide hl
  have HOK := hide hok
  have HBA := hide hbA
  have HSA := hide hsA
  have HTS := hide hts
  have l0 := lt_of_cell x0
  have l1 := lt_of_cell y0
  clear hp hw hl hok hbA hsA hT hts
  go_enter Try.func49, Try.ntmps49
  go_wp2_with fail
  rw [← hA]
  clear hA
  refine HCO.out.mono ?_
  rintro e w1 ⟨rfl, hb1⟩
  have HB1 := hide hb1
  have z0 := (hb1.cell (p := ⟨w.heap.size, 0, none⟩) l0).trans x0
  have z1 := (hb1.cell (p := ⟨w.heap.size, 1, none⟩) l0).trans x1
  have r0 := (hb1.cell (p := ⟨w.heap.size + 1, 0, none⟩) l1).trans y0
  have r1 := (hb1.cell (p := ⟨w.heap.size + 1, 1, none⟩) l1).trans y1
  have f0 := (hb1.frozen (p := ⟨w.heap.size + 1, 0, none⟩) l1).trans yf.1
  have f1 := (hb1.frozen (p := ⟨w.heap.size + 1, 1, none⟩) l1).trans yf.2
  have k1 := Nat.lt_of_lt_of_le l1 hb1.size
  clear HCO hb1 x0 x1 y0 y1 yf
  go_wp2_with fail
  refine (HCP.out w1 HB1.out).mono ?_
  rintro e w2 ⟨a2, c2, b2, d2, rfl, ho2, hb2⟩
  obtain ⟨V, hV⟩ : ∃ V, V = w2.alloc (Obj.cells #[.slice a2 ps.length c2, .slice b2 ws.length d2] 27) := ⟨_, rfl⟩
  have hbV : Below w2.heap.size w2 V := by rw [hV]; exact (Below.refl _ _).alloc (Nat.le_refl _) _
  have hb12 := after hb2 hbV
  have HSV : Hid (w2.heap.size < V.heap.size) := by show _ < _; rw [hV]; simp
  have HST : Hid (AllSt V (w.heap.size + 1) w2.heap.size A.heap.size ps ws) := by
    refine ⟨a2, c2, b2, d2, ⟨by rw [hV]; simp, by rw [hV]; simp⟩, ⟨by rw [hV]; simp, by rw [hV]; simp⟩, ⟨⟨_, _, (hb12.cell (p := ⟨w.heap.size + 1, 0, none⟩) k1).trans r0, (hb12.cell (p := ⟨w.heap.size + 1, 1, none⟩) k1).trans r1⟩, (hb12.frozen (p := ⟨w.heap.size + 1, 0, none⟩) k1).trans f0, (hb12.frozen (p := ⟨w.heap.size + 1, 1, none⟩) k1).trans f1⟩, own_mono (own_below ho2 hbV) HB1.out.size, l1, Nat.le_trans HB1.out.size hb2.size⟩
  have HBV := hide (after HBA.out (after HB1.out hb12))
  clear HCP ho2 hb2 hbV hb12 z0 z1 r0 r1 f0 f1
  go_wp2_with fail
  rw [← hV]
  generalize hO : w2.heap.size = O at HST HSV ⊢
  clear hV hO
  go_loopw [7] (fun i wr => ∃ k : Nat, k ≤ cs.length ∧ i = .int .i64 k ∧ Hid (∃ pk wk, AllSt wr (w.heap.size + 1) O A.heap.size pk wk ∧ chipOkP pk wk ∧ allR (cs.drop k) pk wk = T) ∧ Hid (Below w.heap.size w wr)) (fun i _ => cs.length - (intOf i).toNat)
  case atStart => exact ⟨0, Nat.zero_le _, rfl, ⟨ps, ws, HST.out, HOK.out, HT.out.symm⟩, HBV.out⟩
  case round =>
    obtain ⟨k, hk, rfl, hst, hbr⟩ := hrel
    obtain ⟨pk, wk, hal, hokk, hrk⟩ := hst.out
    have HAL := hide hal
    have HOKk := hide hokk
    have HRK := hide hrk
    obtain ⟨g, q, g', q', ⟨c0, c1⟩, ⟨cf0, cf1⟩, ⟨⟨X, Y, r0, r1⟩, rf0, rf1⟩, ho, hR, hO⟩ := hal
    have HOW := hide ho
    have HRO := hide (And.intro hR hO)
    clear hst hokk hrk ho hR hO HST
    by_cases hlt : k < cs.length
    · obtain ⟨bl, ol, x, rfl, e0, e1, e2, HX⟩ := rdAct_at (HL.out.below hbr.out) hlt
      obtain ⟨kind, at_, text⟩ := x
      have ht := HTS.out _ (List.mem_of_getElem? HX.out)
      obtain ⟨F, hF⟩ : ∃ F, F = applyF pk wk kind at_ text := ⟨_, rfl⟩
      obtain ⟨PS, hPS⟩ : ∃ PS, PS = applyP pk wk kind at_ text := ⟨_, rfl⟩
      obtain ⟨WS, hWS⟩ : ∃ WS, WS = applyW pk wk kind at_ := ⟨_, rfl⟩
      have HFQ := hide (And.intro hF (And.intro hPS hWS))
      have HDR : Hid (cs.drop k = (kind, at_, text) :: cs.drop (k + 1)) := by
        have h := HX.out
        rw [List.getElem?_eq_getElem hlt] at h
        injection h with h
        show _ = _
        rw [List.drop_eq_getElem_cons hlt, h]
      have lo := lt_of_cell c0
      have ll := lt_of_cell e0
      have HCL : Hid (∀ u, Below wr.heap.size wr.drew u → Calls Try.prog 52 #[.agg #[.slice g pk.length q, .slice g' wk.length q'], .agg #[.int .i64 kind, .int .i64 at_, .string text]] u fun e w' => ∃ a' c' b' d', e = .returned (.tuple #[.agg #[.slice a' PS.length c', .slice b' WS.length d'], .bool F]) ∧ ChipOwn w' u.heap.size (.agg #[.slice a' PS.length c', .slice b' WS.length d']) PS WS ∧ Below u.heap.size u w') := by
        intro u hu
        have hu' : Below wr.heap.size wr u := (after_drew (Below.refl _ _) 1).trans hu
        obtain ⟨h1, h2⟩ := chip_rd HOW.out
        refine (specApply_fn g g' pk wk q q' kind at_ text u (h1.below hu') (h2.below hu') (by rw [HOKk.out.1]; decide) (by rw [HOKk.out.2.1]; decide) (fun s h => by have := HOKk.out.2.2.1 s h; omega) ht).mono ?_
        rintro e w' ⟨v, rfl, hown, hb⟩
        rw [← hF]
        rw [← hPS, ← hWS] at hown
        obtain ⟨a', c', b', d', rfl, -⟩ := own_open hown
        exact ⟨a', c', b', d', rfl, hown, hb⟩
      have HK : Hid (∀ u, Below wr.heap.size wr.drew u → u.cell? ⟨O, 0, none⟩ = some (.slice g pk.length q) ∧ u.cell? ⟨O, 1, none⟩ = some (.slice g' wk.length q') ∧ u.cell? ⟨bl, ol + k * 3, none⟩ = some (.int .i64 kind) ∧ u.cell? ⟨bl, ol + k * 3 + 1, none⟩ = some (.int .i64 at_) ∧ u.cell? ⟨bl, ol + k * 3 + 2, none⟩ = some (.string text)) := fun u hu =>
        ⟨(hu.cell (p := ⟨O, 0, none⟩) lo).trans (by simpa using c0), (hu.cell (p := ⟨O, 1, none⟩) lo).trans (by simpa using c1), (hu.cell (p := ⟨bl, ol + k * 3, none⟩) ll).trans (by simpa using e0), (hu.cell (p := ⟨bl, ol + k * 3 + 1, none⟩) ll).trans (by simpa using e1), (hu.cell (p := ⟨bl, ol + k * 3 + 2, none⟩) ll).trans (by simpa using e2)⟩
      have HALC : Hid (Below wr.heap.size wr.drew (wr.alloc (Obj.cells #[.slice none 0 0, .slice none 0 0] 27)).drew) := by
        have : Below wr.heap.size wr (wr.alloc (Obj.cells #[.slice none 0 0, .slice none 0 0] 27)) := (Below.refl _ wr).alloc (Nat.le_refl _) _
        exact ⟨this.os, this.tape, this.output, this.size, this.block⟩
      have m1 : wr.heap.size ≠ O := by omega
      have m2 : wr.heap.size ≠ bl := by omega
      have hkI : (k : Int) < (cs.length : Int) := by omega
      have HLO := hide lo
      clear hF hPS hWS ht lo ll HX
      go_wp2_with fail
      go_cut [8, 9] (fun x y wx => ∃ B a' c' b' d', x = .pointer (some ⟨B, 0, none⟩) ∧ y = .bool F ∧ Hid (CBox wr wx B a' c' b' d' PS WS))
      case first =>
        go_region_held (fun u => u.cell? ⟨O, 0, none⟩ = some (.slice g pk.length q) ∧ u.cell? ⟨O, 1, none⟩ = some (.slice g' wk.length q') ∧ u.cell? ⟨bl, ol + k * 3, none⟩ = some (.int .i64 kind) ∧ u.cell? ⟨bl, ol + k * 3 + 1, none⟩ = some (.int .i64 at_) ∧ u.cell? ⟨bl, ol + k * 3 + 2, none⟩ = some (.string text))
          (first | assumption | go_keep | exact ⟨cell_other (cell_other hK1.1 m1) m1, cell_other (cell_other hK1.2.1 m1) m1, cell_other (cell_other hK1.2.2.1 m2) m2, cell_other (cell_other hK1.2.2.2.1 m2) m2, cell_other (cell_other hK1.2.2.2.2 m2) m2⟩)
          ((first
            | (go_at_call 52; refine (HCL.out (wr.alloc (Obj.cells #[.slice none 0 0, .slice none 0 0] 27)).drew HALC.out).mono ?_; rintro e w2 ⟨a', c', b', d', rfl, hr, hb2⟩; obtain ⟨HBX, ⟨z0, z1⟩, zf⟩ := cbox_aux hb2; have hK1 := HK.out w2 HBX.out; have zf0 := zf 0; have zf1 := zf 1; have HRD := hide hr; clear hr hb2 zf)
            | (go_at_call 52; refine (HCL.out wr.drew (Below.refl _ _)).mono ?_; rintro e w2 ⟨a', c', b', d', rfl, hr, hb2⟩; have hK1 := HK.out w2 hb2; have HBX : Hid (Below wr.heap.size wr.drew w2) := hb2; have HRD := hide hr; clear hr hb2)))
        · have HBX2 := hide (cbox_late (t := 27) HRD.out (show wr.heap.size ≤ wr.drew.heap.size from Nat.le_refl _) (show Below wr.heap.size wr w2 from (after_drew (Below.refl _ _) 1).trans HBX.out))
          clear HBX hK1 HK HCL
          go_wp2_with fail
          go_meet
          exact ⟨_, _, _, _, _, rfl, rfl, HBX2⟩
        · have HBX2 := hide (cbox_early HRD.out (by simp) (show Below wr.heap.size wr w2 from (after_drew (Below.refl _ _) 1).trans HBX.out) z0 z1)
          clear HBX hK1 HK HCL z0 z1
          go_wp2_with fail
          go_meet
          exact ⟨_, _, _, _, _, rfl, rfl, HBX2⟩
      case rest =>
      obtain ⟨B, a', c', b', d', rfl, rfl, HCB⟩ := hcut
      have HA2 := hide (HAL.out.below HCB.out.2.2.2)
      have HBW := hide (after hbr.out HCB.out.2.2.2)
      clear HCL HK c0 c1 cf0 cf1 r0 r1 rf0 rf1 e0 e1 e2 HALC
      cases F with
      | false =>
        have HTE : Hid (T = (pk, wk, false)) := by show _ = _; rw [← HRK.out, HDR.out]; exact allR_no HFQ.out.1.symm
        obtain ⟨g2, q2, g2', q2', ⟨c0, c1⟩, ⟨cf0, cf1⟩, ⟨⟨X2, Y2, r0, r1⟩, rf0, rf1⟩, ho, hR, hO⟩ := HA2.out
        have HOW2 := hide ho
        have i1 : ¬ w.heap.size + 1 = O := by omega
        have i2 : ¬ O = w.heap.size + 1 := by omega
        clear ho hR hO HAL HFQ HDR HRK
        go_wp2
        refine bodyPost_ret (v := .tuple #[.agg #[.slice g2 pk.length q2, .slice g2' wk.length q2'], .bool false]) (by simp [results, Try.results49, go_sem, r0, r1]) rfl ⟨_, by rw [HTE.out], ?_, (HBW.out.setCell (p := ⟨w.heap.size + 1, 0, none⟩) (by show _ ≤ _; simp) _).setCell (p := ⟨w.heap.size + 1, 1, none⟩) (by show _ ≤ _; simp) _⟩
        rw [HTE.out]
        exact own_mono (own_set (own_set HOW2.out (a := ⟨w.heap.size + 1, 0, none⟩) HRO.out.1 _) (a := ⟨w.heap.size + 1, 1, none⟩) HRO.out.1 _) HBA.out.size
      | true =>
        have hRK : allR (cs.drop (k + 1)) PS WS = T := by rw [← HRK.out, HDR.out, allR_yes HFQ.out.1.symm, HFQ.out.2.1, HFQ.out.2.2]
        have hOK : chipOkP PS WS := by rw [HFQ.out.2.1, HFQ.out.2.2]; exact apply_right HOKk.out
        have HST : Hid (∃ pk wk, AllSt ((wc.setCell ⟨O, 0, none⟩ (.slice a' PS.length c')).setCell ⟨O, 1, none⟩ (.slice b' WS.length d')) (w.heap.size + 1) O A.heap.size pk wk ∧ chipOkP pk wk ∧ allR (cs.drop (k + 1)) pk wk = T) := ⟨PS, WS, HA2.out.take HCB.out HLO.out, hOK, hRK⟩
        have hOlo : w.heap.size ≤ O := by have := HRO.out.2; have := HBA.out.size; omega
        have HBS := hide ((HBW.out.setCell (p := ⟨O, 0, none⟩) hOlo (.slice a' PS.length c')).setCell (p := ⟨O, 1, none⟩) hOlo (.slice b' WS.length d'))
        obtain ⟨g2, q2, g2', q2', ⟨c0, c1⟩, ⟨cf0, cf1⟩, -, -, -, -⟩ := HA2.out
        obtain ⟨n0, n1⟩ := HCB.out.1
        clear hRK hOK HAL HFQ HDR HRK HA2 hOlo
        go_wp2
        go_roundw
        case rel => exact ⟨k + 1, by omega, by go_num, HST, HBS⟩
        case measure => simp [intOf]; omega
    · have hkl : k = cs.length := by omega
      subst hkl
      have HTE : Hid (T = (pk, wk, true)) := by show _ = _; rw [← HRK.out, List.drop_length]; rfl
      have i1 : ¬ w.heap.size + 1 = O := by have := HRO.out; omega
      have i2 : ¬ O = w.heap.size + 1 := by have := HRO.out; omega
      clear HAL HRK
      go_wp2
      refine bodyPost_ret (v := .tuple #[.agg #[.slice g pk.length q, .slice g' wk.length q'], .bool true]) (by simp [results, Try.results49, go_sem, r0, r1]) rfl ⟨_, by rw [HTE.out], ?_, (hbr.out.setCell (p := ⟨w.heap.size + 1, 0, none⟩) (by show _ ≤ _; simp) _).setCell (p := ⟨w.heap.size + 1, 1, none⟩) (by show _ ≤ _; simp) _⟩
      rw [HTE.out]
      exact own_mono (own_set (own_set HOW.out (a := ⟨w.heap.size + 1, 0, none⟩) HRO.out.1 _) (a := ⟨w.heap.size + 1, 1, none⟩) HRO.out.1 _) HBA.out.size
end Go.Proofs.Ytelbannfbglgcaa

namespace Go.Proofs.Ytelbannfbglgcaa
open Go.RowKit

/-- The first n bytes of a text. -/
def headT (text : ByteArray) (n : Int) : ByteArray := text.extract 0 (max (min n text.size) 0).toNat
noncomputable def tornP (ps : List ByteArray) (ws : List Int) (page : Int) (text : ByteArray) (n : Int) : List ByteArray := burnP ps ws page (headT text n)

set_option maxHeartbeats 3200000 in
theorem specTorn_fn (a b : Option Addr) (ps : List ByteArray) (ws : List Int) (c d : Nat) (page : Int) (text : ByteArray) (n : Int) (w : World) (hp : Rd w a (vsString ps)) (hw : Rd w b (vsInt ws)) (hl : ps.length ≤ 1048576) (hm : ws.length ≤ 1048576) (hs : ∀ s ∈ ps, s.size ≤ 1048576) (ht : text.size ≤ 1048576) (hn : (Lit.int .i64 n).wf = true) :
    Calls Try.prog 21 #[.agg #[.slice a ps.length c, .slice b ws.length d], .int .i64 page, .string text, .int .i64 n] w fun e w' => ∃ v, e = .returned v ∧ ChipOwn w' w.heap.size v (tornP ps ws page text n) (burnW ps ws) ∧ Below w.heap.size w w' := by
  have hbd := bounds_i64 hn
  obtain ⟨W, hW⟩ : ∃ W, W = (w.alloc (Obj.cells #[.slice a ps.length c, .slice b ws.length d] 27)).alloc (Obj.cells #[.slice none 0 0, .slice none 0 0] 27) := ⟨_, rfl⟩
  have hbW : Below w.heap.size w W := by subst hW; exact ((Below.refl _ _).alloc (Nat.le_refl _) _).alloc (by simp) _
  have cW : W.cell? ⟨w.heap.size, 0, none⟩ = some (.slice a ps.length c) ∧ W.cell? ⟨w.heap.size, 1, none⟩ = some (.slice b ws.length d) ∧ W.cell? ⟨w.heap.size + 1, 0, none⟩ = some (.slice none 0 0) ∧ W.cell? ⟨w.heap.size + 1, 1, none⟩ = some (.slice none 0 0) ∧ W.frozen? ⟨w.heap.size + 1, 0, none⟩ = false ∧ W.frozen? ⟨w.heap.size + 1, 1, none⟩ = false ∧ w.heap.size + 1 < W.heap.size := by
    subst hW; refine ⟨?_, ?_, ?_, ?_, ?_, ?_, ?_⟩ <;> simp [go_sem]
  obtain ⟨M, hM⟩ : ∃ M, M = min n (text.size : Int) := ⟨_, rfl⟩
  obtain ⟨K, hK⟩ : ∃ K : Nat, (K : Int) = max M 0 := ⟨(max M 0).toNat, by omega⟩
  have hKl : (K : Int) ≤ (text.size : Int) := by omega
  have hK0 : (0 : Int) ≤ (K : Int) := by omega
  have HMN : Hid (∀ u, Calls Try.prog 70 #[.int .i64 n, .int .i64 (text.size : Int)] u fun e w' => e = .returned (.int .i64 M) ∧ w' = u) := fun u => by rw [hM]; exact min_any _ _ u
  have HMX : Hid (∀ u, Calls Try.prog 69 #[.int .i64 M, .int .i64 0] u fun e w' => e = .returned (.int .i64 (K : Int)) ∧ w' = u) := fun u => by rw [hK]; exact max_any _ _ u
  have hKT : text.extract 0 K = headT text n := by unfold headT; congr 1; omega
  obtain ⟨F, hF⟩ : ∃ F, F = burnF ps ws page (headT text n) := ⟨_, rfl⟩
  have hdr : Below W.heap.size W W.drew := after_drew (Below.refl _ _) 1
  have HP : Hid (∀ u, Below W.heap.size W u → Rd u a (vsString ps) ∧ Rd u b (vsInt ws) ∧ u.cell? ⟨w.heap.size, 0, none⟩ = some (.slice a ps.length c) ∧ u.cell? ⟨w.heap.size, 1, none⟩ = some (.slice b ws.length d)) := fun u hu =>
    ⟨(hp.below hbW).below hu, (hw.below hbW).below hu, (hu.cell (p := ⟨w.heap.size, 0, none⟩) (by show _ < _; have := cW.2.2.2.2.2.2; simp; omega)).trans cW.1, (hu.cell (p := ⟨w.heap.size, 1, none⟩) (by show _ < _; have := cW.2.2.2.2.2.2; simp; omega)).trans cW.2.1⟩
  have HBU : Hid (∀ u, Below W.heap.size W u → Calls Try.prog 11 #[.agg #[.slice a ps.length c, .slice b ws.length d], .int .i64 page, .string (text.extract 0 K)] u fun e w' => ∃ v, e = .returned (.tuple #[v, .bool F]) ∧ ChipOwn w' u.heap.size v (tornP ps ws page text n) (burnW ps ws) ∧ Below u.heap.size u w' ∧ Below W.heap.size W w') := fun u hu => by
    refine (specBurn_fn a b ps ws c d page (text.extract 0 K) u ((hp.below hbW).below hu) ((hw.below hbW).below hu) hl hm hs (by simp; omega)).mono ?_
    rintro e w' ⟨v, rfl, ho, hb⟩
    rw [hKT] at ho ⊢
    exact ⟨v, by rw [hF], ho, hb, after hu hb⟩
  have HAL : Hid (Below W.heap.size W (W.alloc (Obj.cells #[.slice none 0 0, .slice none 0 0] 27)).drew) := after_drew ((Below.refl _ _).alloc (Nat.le_refl _) _) 1
  have HY : Hid (∀ u, Below (W.alloc (Obj.cells #[.slice none 0 0, .slice none 0 0] 27)).drew.heap.size (W.alloc (Obj.cells #[.slice none 0 0, .slice none 0 0] 27)).drew u → u.cell? ⟨W.heap.size, 0, none⟩ = some (.slice none 0 0) ∧ u.cell? ⟨W.heap.size, 1, none⟩ = some (.slice none 0 0) ∧ u.frozen? ⟨W.heap.size, 0, none⟩ = false ∧ u.frozen? ⟨W.heap.size, 1, none⟩ = false) := by
    intro u hu
    have hlt : W.heap.size < (W.alloc (Obj.cells #[.slice none 0 0, .slice none 0 0] 27)).drew.heap.size := by show _ < (W.alloc _).heap.size; simp
    refine ⟨(hu.cell (p := ⟨W.heap.size, 0, none⟩) hlt).trans ?_, (hu.cell (p := ⟨W.heap.size, 1, none⟩) hlt).trans ?_, (hu.frozen (p := ⟨W.heap.size, 0, none⟩) hlt).trans ?_, (hu.frozen (p := ⟨W.heap.size, 1, none⟩) hlt).trans ?_⟩ <;> simp
  obtain ⟨z0, z1, -, -, -, -, hsz⟩ := id cW
  have hne1 : ¬ w.heap.size = W.heap.size := by omega
  have hne2 : ¬ W.heap.size = w.heap.size := by omega
  have HS := hide hs
  have HCW := hide cW
  have HBW := hide hbW
  clear hp hw hM hK cW hs hbW hF hKT
  go_enter Try.func21, Try.ntmps21
  go_wp2_with fail
  rw [← hW]
  clear hW
  go_region_held (fun w' => w'.cell? ⟨w.heap.size, 0, none⟩ = some (.slice a ps.length c) ∧ w'.cell? ⟨w.heap.size, 1, none⟩ = some (.slice b ws.length d)) (first | assumption | go_keep)
    ((first
      | (go_at_call 70; refine (HMN.out _).mono ?_; rintro e u ⟨rfl, hu⟩; have hu' := hu.symm; subst hu')
      | (go_at_call 69; refine (HMX.out _).mono ?_; rintro e u ⟨rfl, hu⟩; have hu' := hu.symm; subst hu')
      | (go_at_call 11; refine (HBU.out W.drew hdr).mono ?_; rintro e w1 ⟨v, rfl, hown, hb1, hb1'⟩; obtain ⟨a1, k1, b1, l1, hv1, -⟩ := own_open hown; subst hv1; have hS := HP.out w1 hb1'; have HOWN := hide hown; have HB1 := hide hb1; have HB1' := hide hb1'; clear hown hb1 hb1')
      | (go_at_call 11; refine (HBU.out (W.alloc (Obj.cells #[.slice none 0 0, .slice none 0 0] 27)).drew HAL.out).mono ?_; rintro e w1 ⟨v, rfl, hown, hb1, hb1'⟩; obtain ⟨a1, k1, b1, l1, hv1, -⟩ := own_open hown; subst hv1; have hS := HP.out w1 hb1'; have HOWN := hide hown; have HB1 := hide hb1; have HB1' := hide hb1'; obtain ⟨y0, y1, y2, y3⟩ := HY.out w1 hb1; clear hown hb1 hb1')))
  · have e0 := (HB1'.out.cell (p := ⟨w.heap.size + 1, 0, none⟩) (by show _ < _; exact hsz)).trans HCW.out.2.2.1
    have e1 := (HB1'.out.cell (p := ⟨w.heap.size + 1, 1, none⟩) (by show _ < _; exact hsz)).trans HCW.out.2.2.2.1
    have g0 := (HB1'.out.frozen (p := ⟨w.heap.size + 1, 0, none⟩) (by show _ < _; exact hsz)).trans HCW.out.2.2.2.2.1
    have g1 := (HB1'.out.frozen (p := ⟨w.heap.size + 1, 1, none⟩) (by show _ < _; exact hsz)).trans HCW.out.2.2.2.2.2.1
    have hlt : w.heap.size + 1 < w1.heap.size := Nat.lt_of_lt_of_le hsz HB1'.out.size
    have hne3 : ¬ w.heap.size + 1 = W.heap.size := by omega
    have hne4 : ¬ W.heap.size = w.heap.size + 1 := by omega
    go_wp2
    refine bodyPost_ret (v := .agg #[.slice a1 (tornP ps ws page text n).length k1, .slice b1 (burnW ps ws).length l1]) (by simp [results, Try.results21, go_sem, e0, e1, hlt]) rfl ⟨_, rfl, ?_, ?_⟩
    · exact own_mono (own_below (own_set (own_set HOWN.out (show w.heap.size + 1 < W.heap.size by omega) _) (show w.heap.size + 1 < W.heap.size by omega) _) ((Below.refl _ _).alloc (Nat.le_refl _) _)) (show w.heap.size ≤ W.heap.size by omega)
    · exact (((after HBW.out HB1'.out).setCell (by show _ ≤ _; simp) _).setCell (by show _ ≤ _; simp) _).alloc (by simp [World.setCell]; omega) _
  all_goals
    have e0 := (HB1'.out.cell (p := ⟨w.heap.size + 1, 0, none⟩) (by show _ < _; exact hsz)).trans HCW.out.2.2.1
    have e1 := (HB1'.out.cell (p := ⟨w.heap.size + 1, 1, none⟩) (by show _ < _; exact hsz)).trans HCW.out.2.2.2.1
    have g0 := (HB1'.out.frozen (p := ⟨w.heap.size + 1, 0, none⟩) (by show _ < _; exact hsz)).trans HCW.out.2.2.2.2.1
    have g1 := (HB1'.out.frozen (p := ⟨w.heap.size + 1, 1, none⟩) (by show _ < _; exact hsz)).trans HCW.out.2.2.2.2.2.1
    have hlt : w.heap.size + 1 < w1.heap.size := Nat.lt_of_lt_of_le hsz HB1'.out.size
    have hne3 : ¬ w.heap.size + 1 = W.heap.size := by omega
    have hne4 : ¬ W.heap.size = w.heap.size + 1 := by omega
    have hlA : W.heap.size + 1 ≤ (W.alloc (Obj.cells #[.slice none 0 0, .slice none 0 0] 27)).drew.heap.size := by show _ ≤ (W.alloc _).heap.size; simp
    go_wp2
    refine bodyPost_ret (v := .agg #[.slice a1 (tornP ps ws page text n).length k1, .slice b1 (burnW ps ws).length l1]) (by simp [results, Try.results21, go_sem, e0, e1]) rfl ⟨_, rfl, ?_, ?_⟩
    · exact own_mono (own_set (own_set (own_set (own_set HOWN.out (show W.heap.size < _ by omega) _) (show W.heap.size < _ by omega) _) (show w.heap.size + 1 < _ by omega) _) (show w.heap.size + 1 < _ by omega) _) (show w.heap.size ≤ _ by omega)
    · exact ((((after HBW.out HB1'.out).setCell (show w.heap.size ≤ W.heap.size by omega) _).setCell (show w.heap.size ≤ W.heap.size by omega) _).setCell (by show _ ≤ _; simp) _).setCell (by show _ ≤ _; simp) _

end Go.Proofs.Ytelbannfbglgcaa
