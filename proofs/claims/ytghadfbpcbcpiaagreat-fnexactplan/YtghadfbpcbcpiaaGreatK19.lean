/-
  The laws' helpers over one act: toAct, szAct; an act that came in as an argument; the cells of the two arguments of Apply's law.
  What Apply answers, of both: in the form that its law's walk takes.
  Contracts of the specification's l5Open and Worst.
  Contracts of what the program's Worst calls: inBlock, cmp.Or at int, the closure that holds two blocks against each other, slices.MinFunc with it.
-/
import Derived.Test.YtghadfbpcbcpiaaGreatK8
import Derived.Test.YtghadfbpcbcpiaaGreatK18
import Derived.Test.YtghadfbpcbcpiaaGreatK13
import Derived.Test.YtghadfbpcbcpiaaGreatK12
import Derived.Test.YtghadfbpcbcpiaaGreatK15
import Derived.Deep.RegionHeld
namespace Go.Proofs.YtghadfbpcbcpiaaGreat
open Go.RowKit Go.ChangeShapes Go.WideShapes Go.ChangeAt Go.Joins
set_option maxRecDepth 100000

/-- A variable of two slices that was made behind the world U, still empty. -/
def Z3 (U u : World) (p : Nat) : Prop := (u.cell? ⟨p, 0, none⟩ = some (.slice none 0 0) ∧ u.cell? ⟨p, 1, none⟩ = some (.slice none 0 0) ∧ u.frozen? ⟨p, 0, none⟩ = false ∧ u.frozen? ⟨p, 1, none⟩ = false) ∧ p < u.heap.size ∧ U.heap.size ≤ p
theorem Z3.below {U u u' : World} {p : Nat} (h : Z3 U u p) (hb : Below u.heap.size u u') : Z3 U u' p :=
  ⟨⟨(hb.cell (p := ⟨p, 0, none⟩) h.2.1).trans h.1.1, (hb.cell (p := ⟨p, 1, none⟩) h.2.1).trans h.1.2.1, (hb.frozen (p := ⟨p, 0, none⟩) h.2.1).trans h.1.2.2.1, (hb.frozen (p := ⟨p, 1, none⟩) h.2.1).trans h.1.2.2.2⟩, Nat.lt_of_lt_of_le h.2.1 hb.size, h.2.2⟩
theorem Z3.ne {U u : World} {p q : Nat} (h : Z3 U u p) (hq : q < U.heap.size) : p ≠ q := by have := h.2.2; omega
theorem z3_new {U u : World} (hb : Below U.heap.size U u) (t : TypeId) : Z3 U (u.alloc (Obj.cells #[.slice none 0 0, .slice none 0 0] t)) u.heap.size := ⟨⟨by simp, by simp, by simp, by simp⟩, by simp, hb.size⟩
theorem z3_drew (u : World) (t : TypeId) : Z3 u (u.alloc (Obj.cells #[.slice none 0 0, .slice none 0 0] t)).drew u.heap.size := ⟨⟨by simp, by simp, by simp, by simp⟩, by show _ < (u.alloc _).heap.size; simp, Nat.le_refl _⟩
theorem chipRd_al {u u' : World} {o : Obj} {v : Value} {ps : List ByteArray} {ws : List Int} (h : ChipRd u v ps ws) (hb : Below (u.alloc o).heap.size (u.alloc o) u') : ChipRd u' v ps ws :=
  (h.below ((Below.refl _ _).alloc (Nat.le_refl _) _)).below hb
/-- What such a statement leaves: 'x, ok := f(..)', x a chip of the call's own in a variable of its own. -/
def ChipBox (U : World) (Gps : List ByteArray) (Gws : List Int) (F : Bool) (s t : Value) (u : World) : Prop :=
  ∃ p base a c b d, s = .pointer (some ⟨p, 0, none⟩) ∧ t = .bool F ∧ U.heap.size ≤ p ∧ U.heap.size ≤ base ∧ At u p [.slice a Gps.length c, .slice b Gws.length d] ∧ ChipOwn u base (.agg #[.slice a Gps.length c, .slice b Gws.length d]) Gps Gws ∧ (∀ k, some k ∈ bk (.agg #[.slice a Gps.length c, .slice b Gws.length d]) → k ≠ p) ∧ Below U.heap.size U u
theorem boxed_late {U u : World} {Gps : List ByteArray} {Gws : List Int} {F : Bool} {base c d : Nat} {a b : Option Addr} {t : TypeId} (hb : Below U.heap.size U u) (h : ChipOwn u base (.agg #[.slice a Gps.length c, .slice b Gws.length d]) Gps Gws) (hn : U.heap.size ≤ base) :
    ChipBox U Gps Gws F (.pointer (some ⟨u.heap.size, 0, none⟩)) (.bool F) (u.alloc (Obj.cells #[.slice a Gps.length c, .slice b Gws.length d] t)) :=
  ⟨_, _, _, _, _, _, rfl, rfl, hb.size, hn, at_new u [.slice a Gps.length c, .slice b Gws.length d] t, h.below ((Below.refl _ _).alloc (Nat.le_refl _) _), fun k hk => by have := h.blk hk; omega, hb.alloc hb.size _⟩
theorem boxed_early {U u : World} {Gps : List ByteArray} {Gws : List Int} {F : Bool} {base c d p : Nat} {a b : Option Addr} (hb : Below U.heap.size U u) (h : ChipOwn u base (.agg #[.slice a Gps.length c, .slice b Gws.length d]) Gps Gws) (hn : U.heap.size ≤ base) (hz : Z3 U u p) (hp : p < base) :
    ChipBox U Gps Gws F (.pointer (some ⟨p, 0, none⟩)) (.bool F) ((u.setCell ⟨p, 0, none⟩ (.slice a Gps.length c)).setCell ⟨p, 1, none⟩ (.slice b Gws.length d)) := by
  obtain ⟨⟨y0, y1, -, -⟩, hl, hU⟩ := hz
  refine ⟨_, _, _, _, _, _, rfl, rfl, hU, hn, ⟨by simpa using hl, ?_⟩, own_set (own_set h hp _) hp _, fun k hk => by have := h.blk hk; omega, (hb.setCell hU _).setCell hU _⟩
  intro i hi
  match i, hi with
  | 0, _ => exact (World.cell?_setCell_other _ _ _ _ (by simp)).trans (World.cell?_setCell_same _ _ _ y0)
  | 1, _ => exact World.cell?_setCell_same _ _ _ ((World.cell?_setCell_other _ _ _ _ (by simp)).trans y1)

end Go.Proofs.YtghadfbpcbcpiaaGreat

namespace Go.Proofs.YtghadfbpcbcpiaaGreat
open Go.RowKit

theorem applyP_len (ps : List ByteArray) (ws : List Int) (kind at_ : Int) (text : ByteArray) : (applyP ps ws kind at_ text).length ≤ 1000 := by
  unfold applyP
  split
  · have := burnP_len ps ws at_ text; omega
  · split
    · have := clearP_len ps ws at_; omega
    · split
      · next h => have := (chipOkB_iff.1 h).1; omega
      · simp
theorem applyW_len (ps : List ByteArray) (ws : List Int) (kind at_ : Int) : (applyW ps ws kind at_).length ≤ 1000 := by
  unfold applyW
  split
  · have := burnW_len ps ws; omega
  · split
    · have := clearW_len ps ws at_; omega
    · split
      · next h => have := (chipOkB_iff.1 h).2.1; omega
      · simp

end Go.Proofs.YtghadfbpcbcpiaaGreat

namespace Go.Proofs.YtghadfbpcbcpiaaGreat
open Go.RowKit

theorem nxt_bd {ps : List ByteArray} {ws : List Int} : ∀ (f b : Nat) (best : Int), b + f = 10 → -1 ≤ best → best < 10 → -1 ≤ nxt ps ws f b best ∧ nxt ps ws f b best ≤ 59 := by
  intro f
  induction f with
  | zero =>
    intro b best _ h1 h2
    unfold nxt
    split <;> omega
  | succ f ih =>
    intro b best hb h1 h2
    by_cases hh : 0 < (clr ps b 6).1 ∧ (clr ps b 6).1 < 6 ∧ (clr ps b 6).2 = (clr ps b 6).1
    · rw [nxt_here rfl rfl hh]; omega
    · by_cases h3 : (clr ps b 6).1 = 6 ∧ (best < 0 ∨ ws[b]?.getD 0 < ws[best.toNat]?.getD 0)
      · rw [nxt_take rfl rfl hh h3]; exact ih (b + 1) _ (by omega) (by omega) (by omega)
      · rw [nxt_pass rfl rfl hh h3]; exact ih (b + 1) _ (by omega) h1 h2
theorem nextP_bd (ps : List ByteArray) (ws : List Int) : -1 ≤ nextP ps ws ∧ nextP ps ws ≤ 59 := nxt_bd 10 0 (-1) (by omega) (by omega) (by omega)

/-- The block that is begun, if there is one. -/
noncomputable def openB (ps : List ByteArray) (ws : List Int) : Int := if nextP ps ws < 0 ∨ nextP ps ws % 6 = 0 then -1 else nextP ps ws / 6

set_option maxHeartbeats 1600000 in
theorem open_any (a b : Option Addr) (ps : List ByteArray) (ws : List Int) (c d : Nat) (w : World) (hp : Rd w a (vsString ps)) (hw : Rd w b (vsInt ws)) (hl : ps.length = 60) (hm : ws.length = 10) :
    Calls Tryz.prog 42 #[.agg #[.slice a ps.length c, .slice b ws.length d]] w fun e w' => e = .returned (.int .i64 (openB ps ws)) ∧ Below w.heap.size w w' := by
  obtain ⟨W, hW⟩ : ∃ W, W = w.alloc (Obj.cells #[.slice a ps.length c, .slice b ws.length d] 30) := ⟨_, rfl⟩
  have hbW : Below w.heap.size w W := by rw [hW]; exact (Below.refl _ _).alloc (Nat.le_refl _) _
  have HN := hide (next_any a b ps ws c d W (hp.below hbW) (hw.below hbW) hl hm)
  obtain ⟨R, hR⟩ : ∃ R, R = openB ps ws := ⟨_, rfl⟩
  rw [← hR]
  have hbd := nextP_bd ps ws
  unfold openB at hR
  obtain ⟨p, hpp⟩ : ∃ p, p = nextP ps ws := ⟨_, rfl⟩
  rw [← hpp] at HN hbd hR
  have HR := hide hR
  clear hp hw hl hm hR hpp
  go_enter Tryz.func42, Tryz.ntmps42
  go_wp2_with fail
  rw [← hW]
  clear hW
  refine HN.out.mono ?_
  rintro e w1 ⟨rfl, hb1⟩
  have hbw1 := after hbW hb1
  clear HN hb1
  by_cases h0 : p < 0
  · have HV : Hid (R = -1) := by show _ = _; rw [HR.out, if_pos (.inl h0)]
    go_wp2
    go_ret
    exact ⟨by rw [HV.out]; rfl, hbw1⟩
  · obtain ⟨k, rfl⟩ : ∃ k : Nat, p = k := ⟨p.toNat, by omega⟩
    by_cases h6 : (k : Int) % 6 = 0
    · have HV : Hid (R = -1) := by show _ = _; rw [HR.out, if_pos (.inr h6)]
      have ht : Int.tmod (k : Int) 6 = 0 := by rw [Int.tmod_eq_emod_of_nonneg (by omega)]; exact h6
      go_wp2
      go_ret
      exact ⟨by rw [HV.out]; rfl, hbw1⟩
    · have HV : Hid (R = (k : Int) / 6) := by show _ = _; rw [HR.out, if_neg (by omega)]
      have ht : ¬ Int.tmod (k : Int) 6 = 0 := by rw [Int.tmod_eq_emod_of_nonneg (by omega)]; exact h6
      have ht2 : ((k : Int) % 6 == 0) = false := by simpa using h6
      have hq : Int.tdiv (k : Int) 6 = (k : Int) / 6 := by rw [Int.tdiv_eq_ediv_of_nonneg (by omega)]
      go_wp2
      go_ret
      exact ⟨by rw [HV.out]; first | rfl | (rw [← hq]; rfl), hbw1⟩

/-- One more block: the best, and how few Lives it has. -/
noncomputable def worstS (ps : List ByteArray) (ws ms : List Int) (o : Int) (st : Int × Int) (b : Nat) : Int × Int :=
  if (clr ps b 6).1 = 6 ∨ (b : Int) = o then st
  else if st.1 < 0 ∨ ((livesU ms b 6).length : Int) < st.2 ∨ (((livesU ms b 6).length : Int) = st.2 ∧ ws[b]?.getD 0 < ws[st.1.toNat]?.getD 0) then ((b : Int), ((livesU ms b 6).length : Int)) else st
noncomputable def worstU (ps : List ByteArray) (ws ms : List Int) (o : Int) : Nat → Int × Int
  | 0 => (-1, 0)
  | k + 1 => worstS ps ws ms o (worstU ps ws ms o k) k
noncomputable def worstB (ps : List ByteArray) (ws ms : List Int) : Int := if (worstU ps ws ms (openB ps ws) 10).2 = 6 then -1 else (worstU ps ws ms (openB ps ws) 10).1
noncomputable def worstOf (ps : List ByteArray) (ws ms : List Int) (q : Int) : Int := if ftlOkB ps ws ms q = true then worstB ps ws ms else -1
theorem worstU_bd (ps : List ByteArray) (ws ms : List Int) (o : Int) (hm : ms.length = 26) (k : Nat) : -1 ≤ (worstU ps ws ms o k).1 ∧ (worstU ps ws ms o k).1 < k ∧ 0 ≤ (worstU ps ws ms o k).2 ∧ (worstU ps ws ms o k).2 ≤ 156 := by
  induction k with
  | zero => simp [worstU]
  | succ k ih =>
    have hl := livesU_len ms k 6
    rw [hm] at hl
    unfold worstU worstS
    split
    · omega
    · split
      · simp only []; omega
      · omega

set_option maxRecDepth 100000 in
set_option maxHeartbeats 6400000 in
theorem specWorst_ok (a b e0 : Option Addr) (ps : List ByteArray) (ws ms : List Int) (c d f : Nat) (q : Int) (w : World) (hp : Rd w a (vsString ps)) (hw : Rd w b (vsInt ws)) (hms : Rd w e0 (vsInt ms)) (hok : ftlOkB ps ws ms q = true) :
    Calls Tryz.prog 43 #[.agg #[.slice a ps.length c, .slice b ws.length d, .slice e0 ms.length f, .int .i64 q]] w fun e w' => e = .returned (.int .i64 (worstB ps ws ms)) ∧ Below w.heap.size w w' := by
  obtain ⟨hch, hmm, -⟩ := ftlOk_parts hok
  have hm26 : ms.length = 26 := by rw [← hmm]; exact mMap_len ps
  obtain ⟨R, hR⟩ : ∃ R, R = worstB ps ws ms := ⟨_, rfl⟩
  rw [← hR]
  unfold worstB at hR
  obtain ⟨o, hoo⟩ : ∃ o, o = openB ps ws := ⟨_, rfl⟩
  rw [← hoo] at hR
  have HR := hide hR
  obtain ⟨A, hA⟩ : ∃ A, A = w.alloc (Obj.cells #[.slice a ps.length c, .slice b ws.length d, .slice e0 ms.length f, .int .i64 q] 32) := ⟨_, rfl⟩
  have hbA : Below w.heap.size w A := by rw [hA]; exact (Below.refl _ _).alloc (Nat.le_refl _) _
  have xA : At A w.heap.size [.slice a ps.length c, .slice b ws.length d, .slice e0 ms.length f, .int .i64 q] := by rw [hA]; exact at_new w [.slice a ps.length c, .slice b ws.length d, .slice e0 ms.length f, .int .i64 q] _
  have x0 : A.cell? ⟨w.heap.size, 0, none⟩ = some (.slice a ps.length c) := xA.2 0 (by simp)
  have x1 : A.cell? ⟨w.heap.size, 1, none⟩ = some (.slice b ws.length d) := xA.2 1 (by simp)
  have x2 : A.cell? ⟨w.heap.size, 2, none⟩ = some (.slice e0 ms.length f) := xA.2 2 (by simp)
  have x3 : A.cell? ⟨w.heap.size, 3, none⟩ = some (.int .i64 q) := xA.2 3 (by simp)
  have HF := hide (specFtlOk_any a b e0 ps ws ms c d f q A (hp.below hbA) (hw.below hbA) (hms.below hbA) (by rw [hch.1]; decide) (by rw [hch.2.1]; decide) (by omega) (fun s h => by have := hch.2.2.1 s h; omega))
  rw [hok] at HF
  have HX : Hid (∀ u, Below A.heap.size A u → u.cell? ⟨w.heap.size, 0, none⟩ = some (.slice a ps.length c) ∧ u.cell? ⟨w.heap.size, 1, none⟩ = some (.slice b ws.length d) ∧ u.cell? ⟨w.heap.size, 2, none⟩ = some (.slice e0 ms.length f) ∧ u.cell? ⟨w.heap.size, 3, none⟩ = some (.int .i64 q)) := fun u hu =>
    ⟨(xA.below hu).2 0 (by simp), (xA.below hu).2 1 (by simp), (xA.below hu).2 2 (by simp), (xA.below hu).2 3 (by simp)⟩
  have HRD := hide (And.intro (hp.below hbA) (And.intro (hw.below hbA) (hms.below hbA)))
  have HCH := hide hch
  have HM := hide hm26
  have hml : ms.length ≤ 26 := by omega
  have hol := nextP_bd ps ws
  have hob : -1 ≤ o ∧ o ≤ 9 := by rw [hoo, openB]; split <;> omega
  have HO := hide hoo
  clear hp hw hms hok hch hmm hm26 hR hoo hol xA
  go_enter Tryz.func43, Tryz.ntmps43
  go_wp2_with fail
  rw [← hA]
  clear hA
  refine HF.out.mono ?_
  rintro e w1 ⟨rfl, hb1⟩
  obtain ⟨y0, y1, y2, y3⟩ := HX.out w1 hb1
  have HOP := hide (open_any a b ps ws c d w1 (HRD.out.1.below hb1) (HRD.out.2.1.below hb1) HCH.out.1 HCH.out.2.1)
  rw [← HO.out] at HOP
  clear HF x0 x1 x2 x3
  go_wp2_with fail
  refine HOP.out.mono ?_
  rintro e w2 ⟨rfl, hb2⟩
  have hb02 := after hb1 hb2
  clear HOP hb1 hb2 y0 y1 y2 y3
  go_wp2_with fail
  go_loopw [3, 4, 6] (fun x y i wr => ∃ k : Nat, k ≤ 10 ∧ i = .int .i64 k ∧ x = .int .i64 (worstU ps ws ms o k).1 ∧ y = .int .i64 (worstU ps ws ms o k).2 ∧ Below A.heap.size A wr) (fun _ _ i _ => 10 - (intOf i).toNat)
  case atStart => exact ⟨0, by omega, rfl, rfl, rfl, hb02⟩
  case round =>
    obtain ⟨k, hk, rfl, rfl, rfl, hbr⟩ := hrel
    obtain ⟨q1, q2, q3, q4⟩ := worstU_bd ps ws ms o HM.out k
    by_cases hlt : k < 10
    · obtain ⟨x0, x1, x2, x3⟩ := HX.out wr hbr
      have HCL := hide (clear_any a b ps ws c d k wr (HRD.out.1.below hbr) HCH.out.1 hlt)
      have HLV : Hid (∀ u, Below A.heap.size A u → Calls Tryz.prog 62 #[.agg #[.slice a ps.length c, .slice b ws.length d, .slice e0 ms.length f, .int .i64 q], .int .i64 k] u fun e w' => ∃ v, e = .returned v ∧ w'.ownsRow u.heap.size 3 1 v (livesU ms k 6).length (vsInt (livesU ms k 6)) ∧ Below u.heap.size u w') := fun u hu =>
        lives_any _ _ e0 ms f k q u (HRD.out.2.2.below hu) (by have := HM.out; omega) hlt
      have hll := livesU_len ms k 6
      have hl156 : (livesU ms k 6).length ≤ 156 := by have := HM.out; omega
      have hcb := clr_bd ps k 6
      have HE : Hid (worstU ps ws ms o (k + 1) = worstS ps ws ms o (worstU ps ws ms o k) k) := rfl
      obtain ⟨st, hst⟩ : ∃ st, st = worstU ps ws ms o k := ⟨_, rfl⟩
      rw [← hst] at q1 q2 q3 q4 HE ⊢
      obtain ⟨N, hN⟩ : ∃ N, N = (clr ps k 6).1 := ⟨_, rfl⟩
      obtain ⟨L, hL⟩ : ∃ L, L = (livesU ms k 6).length := ⟨_, rfl⟩
      have HNL := hide (And.intro hN hL)
      rw [← hN] at HCL hcb
      rw [← hL] at HLV hl156
      unfold worstS at HE
      rw [← hN, ← hL] at HE
      obtain ⟨T, hT⟩ : ∃ T, T = (clr ps k 6).2 := ⟨_, rfl⟩
      rw [← hT] at HCL hcb
      obtain ⟨B, F⟩ := st
      simp only [] at q1 q2 q3 q4 HE ⊢
      clear hst hN hL hT hll
      by_cases hc1 : N = 6
      · rw [if_pos (.inl hc1)] at HE
        subst hc1
        go_wp2_with (first
          | (go_at_call 61; refine HCL.out.mono ?_; rintro e u1 ⟨rfl, hb1⟩; have HU1 := hide hb1; obtain ⟨y0, y1, y2, y3⟩ := HX.out u1 (after hbr hb1); clear HCL hb1)
          | (go_at_call 62; refine (HLV.out u1 (after hbr HU1.out)).mono ?_; rintro e u2 ⟨v2, rfl, ho2, hb2⟩; obtain ⟨a2, c2, rfl⟩ := owns_shape ho2; have HU2 := hide (after HU1.out hb2); obtain ⟨z0, z1, z2, z3⟩ := HX.out u2 (after hbr HU2.out); clear HLV hb2 ho2))
        exact ⟨⟨k + 1, by omega, by go_num, by rw [HE.out], by rw [HE.out], after hbr HU2.out⟩, by simp [intOf]; omega⟩
      · have t1 : (N == 6) = false := by simpa using hc1
        by_cases hc2 : (k : Int) = o
        · rw [if_pos (.inr hc2)] at HE
          have t2 : ((k : Int) == o) = true := by simpa using hc2
          clear hc1 hc2
          go_wp2_with (first
            | (go_at_call 61; refine HCL.out.mono ?_; rintro e u1 ⟨rfl, hb1⟩; have HU1 := hide hb1; obtain ⟨y0, y1, y2, y3⟩ := HX.out u1 (after hbr hb1); clear HCL hb1)
            | (go_at_call 62; refine (HLV.out u1 (after hbr HU1.out)).mono ?_; rintro e u2 ⟨v2, rfl, ho2, hb2⟩; obtain ⟨a2, c2, rfl⟩ := owns_shape ho2; have HU2 := hide (after HU1.out hb2); obtain ⟨z0, z1, z2, z3⟩ := HX.out u2 (after hbr HU2.out); clear HLV hb2 ho2))
          exact ⟨⟨k + 1, by omega, by go_num, by rw [HE.out], by rw [HE.out], after hbr HU2.out⟩, by simp [intOf]; omega⟩
        · have t2 : ((k : Int) == o) = false := by simpa using hc2
          rw [if_neg (by rintro (h | h); exact hc1 h; exact hc2 h)] at HE
          clear hc1 hc2
          go_wp2_with (first
            | (go_at_call 61; refine HCL.out.mono ?_; rintro e u1 ⟨rfl, hb1⟩; have HU1 := hide hb1; obtain ⟨y0, y1, y2, y3⟩ := HX.out u1 (after hbr hb1); clear HCL hb1)
            | (go_at_call 62; refine (HLV.out u1 (after hbr HU1.out)).mono ?_; rintro e u2 ⟨v2, rfl, ho2, hb2⟩; obtain ⟨a2, c2, rfl⟩ := owns_shape ho2; have HU2 := hide (after HU1.out hb2); obtain ⟨z0, z1, z2, z3⟩ := HX.out u2 (after hbr HU2.out); clear HLV hb2 ho2))
          by_cases h3 : B < 0
          · rw [if_pos (.inl h3)] at HE
            have t3 : decide (B < 0) = true := by simpa using h3
            go_quiet (fail)
            go_wp2
            exact ⟨⟨k + 1, by omega, by go_num, by rw [HE.out], by rw [HE.out], after_drew (after hbr HU2.out) nq⟩, by simp [intOf]; omega⟩
          obtain ⟨Bn, rfl⟩ : ∃ Bn : Nat, B = Bn := ⟨B.toNat, by omega⟩
          have t3 : decide (((Bn : Nat) : Int) < 0) = false := by simp
          by_cases h4 : (L : Int) < F
          · rw [if_pos (.inr (.inl h4))] at HE
            have t4 : decide ((L : Int) < F) = true := by simpa using h4
            go_quiet (fail)
            go_wp2
            exact ⟨⟨k + 1, by omega, by go_num, by rw [HE.out], by rw [HE.out], after_drew (after hbr HU2.out) nq⟩, by simp [intOf]; omega⟩
          have t4 : decide ((L : Int) < F) = false := by simpa using h4
          by_cases h5 : (L : Int) = F
          · have hlen : ws.length = 10 := HCH.out.2.1
            have hw2 := HRD.out.2.1.below (after hbr HU2.out)
            obtain ⟨bb, ob, x, rfl, hcx, HXx⟩ := rdInt_at hw2 (show k < ws.length by omega)
            obtain ⟨bb', ob', y, hb', hcy, HXy⟩ := rdInt_at hw2 (show Bn < ws.length by omega)
            simp at hb'
            obtain ⟨rfl, rfl⟩ := hb'
            have t5 : ((L : Int) == F) = true := by simpa using h5
            have i1 : (k : Int) < (ws.length : Int) := by omega
            have i2 : ((Bn : Nat) : Int) < (ws.length : Int) := by omega
            have hex : ws[k]?.getD 0 = x := by rw [HXx.out]; rfl
            have hey : ws[((Bn : Nat) : Int).toNat]?.getD 0 = y := by rw [Int.toNat_natCast, HXy.out]; rfl
            clear hw2 hlen
            by_cases h6 : x < y
            · rw [if_pos (.inr (.inr ⟨h5, by rw [hex, hey]; exact h6⟩))] at HE
              have t6 : decide (x < y) = true := by simpa using h6
              clear hex hey
              go_quiet (fail)
              go_wp2
              exact ⟨⟨k + 1, by omega, by go_num, by rw [HE.out], by rw [HE.out], after_drew (after hbr HU2.out) nq⟩, by simp [intOf]; omega⟩
            · rw [if_neg (by rintro (h | h | ⟨_, h⟩); omega; omega; rw [hex, hey] at h; exact h6 h)] at HE
              have t6 : decide (x < y) = false := by simpa using h6
              clear hex hey
              go_quiet (fail)
              go_wp2
              exact ⟨⟨k + 1, by omega, by go_num, by rw [HE.out], by rw [HE.out], after_drew (after hbr HU2.out) nq⟩, by simp [intOf]; omega⟩
          · have t5 : ((L : Int) == F) = false := by simpa using h5
            rw [if_neg (by rintro (h | h | ⟨h, _⟩); omega; exact h4 h; exact h5 h)] at HE
            go_quiet (fail)
            go_wp2
            exact ⟨⟨k + 1, by omega, by go_num, by rw [HE.out], by rw [HE.out], after_drew (after hbr HU2.out) nq⟩, by simp [intOf]; omega⟩
    · obtain rfl : k = 10 := by omega
      obtain ⟨st, hst⟩ : ∃ st, st = worstU ps ws ms o 10 := ⟨_, rfl⟩
      rw [← hst] at q1 q2 q3 q4 HR ⊢
      obtain ⟨B, F⟩ := st
      simp only [] at q1 q2 q3 q4 HR ⊢
      clear hst
      have hbw := after hbA hbr
      by_cases h6 : F = 6
      · have HV : Hid (R = -1) := by show _ = _; rw [HR.out, if_pos h6]
        subst h6
        go_wp2
        go_ret
        exact ⟨by rw [HV.out]; rfl, hbw⟩
      · have HV : Hid (R = B) := by show _ = _; rw [HR.out, if_neg h6]
        have t1 : (F == 6) = false := by simpa using h6
        clear h6
        go_wp2
        go_ret
        exact ⟨by rw [HV.out]; rfl, hbw⟩

set_option maxHeartbeats 1600000 in
theorem specWorst_any (a b e0 : Option Addr) (ps : List ByteArray) (ws ms : List Int) (c d f : Nat) (q : Int) (w : World) (hp : Rd w a (vsString ps)) (hw : Rd w b (vsInt ws)) (hms : Rd w e0 (vsInt ms)) (hl : ps.length ≤ 1048576) (hm : ws.length ≤ 1048576) (hn : ms.length ≤ 1048576) (hs : ∀ s ∈ ps, s.size ≤ 1048576) :
    Calls Tryz.prog 43 #[.agg #[.slice a ps.length c, .slice b ws.length d, .slice e0 ms.length f, .int .i64 q]] w fun e w' => e = .returned (.int .i64 (worstOf ps ws ms q)) ∧ Below w.heap.size w w' := by
  cases hok : ftlOkB ps ws ms q with
  | true =>
    rw [worstOf, if_pos hok]
    exact specWorst_ok a b e0 ps ws ms c d f q w hp hw hms hok
  | false =>
    rw [worstOf, if_neg (by simp [hok])]
    obtain ⟨A, hA⟩ : ∃ A, A = w.alloc (Obj.cells #[.slice a ps.length c, .slice b ws.length d, .slice e0 ms.length f, .int .i64 q] 32) := ⟨_, rfl⟩
    have hbA : Below w.heap.size w A := by rw [hA]; exact (Below.refl _ _).alloc (Nat.le_refl _) _
    have HF := hide (specFtlOk_any a b e0 ps ws ms c d f q A (hp.below hbA) (hw.below hbA) (hms.below hbA) hl hm hn hs)
    rw [hok] at HF
    clear hp hw hms hs hok
    go_enter Tryz.func43, Tryz.ntmps43
    go_wp2_with fail
    rw [← hA]
    clear hA
    refine HF.out.mono ?_
    rintro e w1 ⟨rfl, hb1⟩
    have hbw1 := after hbA hb1
    clear HF hb1
    go_wp2
    go_ret
    exact ⟨rfl, hbw1⟩

end Go.Proofs.YtghadfbpcbcpiaaGreat

namespace Go.Proofs.YtghadfbpcbcpiaaGreat
open Go.RowKit

def inB (n b : Int) : Bool := decide (b * 6 ≤ n ∧ n < (b + 1) * 6)

set_option maxHeartbeats 800000 in
theorem inBlock_any (n b : Int) (w : World) (_hn0 : -1 ≤ n) (_hn1 : n ≤ 59) (hb0 : 0 ≤ b) (hb1 : b < 10) :
    Calls Tryz.prog 77 #[.int .i64 n, .int .i64 b] w fun e w' => e = .returned (.bool (inB n b)) ∧ w' = w := by
  obtain ⟨R, hR⟩ : ∃ R, R = inB n b := ⟨_, rfl⟩
  rw [← hR]
  by_cases h1 : b * 6 ≤ n
  · by_cases h2 : n < (b + 1) * 6
    · have HR : Hid (R = true) := by show _ = _; rw [hR]; simp [inB, h1, h2]
      clear hR
      go_enter Tryz.func77, Tryz.ntmps77
      go_wp2
      go_ret
      exact ⟨by rw [HR.out]; rfl, rfl⟩
    · have HR : Hid (R = false) := by show _ = _; rw [hR]; simp [inB, h2]
      clear hR
      go_enter Tryz.func77, Tryz.ntmps77
      go_wp2
      go_ret
      exact ⟨by rw [HR.out]; rfl, rfl⟩
  · have HR : Hid (R = false) := by show _ = _; rw [hR]; simp [inB, h1]
    clear hR
    go_enter Tryz.func77, Tryz.ntmps77
    go_wp2
    go_ret
    exact ⟨by rw [HR.out]; rfl, rfl⟩

def orI (x y : Int) : Int := if x = 0 then y else x

set_option maxRecDepth 100000 in
set_option maxHeartbeats 1600000 in
theorem or_any (g : Nat) (x y : Int) (w : World) (h0 : w.cell? ⟨g, 0, none⟩ = some (.int .i64 x)) (h1 : w.cell? ⟨g, 1, none⟩ = some (.int .i64 y)) :
    Calls Tryz.prog 84 #[.slice (some ⟨g, 0, none⟩) 2 2] w fun e w' => e = .returned (.int .i64 (orI x y)) ∧ w' = w := by
  obtain ⟨R, hR⟩ : ∃ R, R = orI x y := ⟨_, rfl⟩
  rw [← hR]
  unfold orI at hR
  have HR := hide hR
  clear hR
  go_enter Tryz.func84, Tryz.ntmps84
  go_wp2
  go_loopw [5, 8] (fun _ i wr => (i = .int .i64 0 ∨ (i = .int .i64 1 ∧ x = 0) ∨ (i = .int .i64 2 ∧ x = 0 ∧ y = 0)) ∧ wr = w) (fun _ i _ => 2 - (intOf i).toNat)
  case atStart => exact ⟨.inl rfl, rfl⟩
  case round =>
    obtain ⟨h, rfl⟩ := hrel
    rcases h with rfl | ⟨rfl, rfl⟩ | ⟨rfl, rfl, rfl⟩
    · by_cases hx : x = 0
      · subst hx
        go_wp2
        exact ⟨⟨.inr (.inl ⟨rfl, by simp⟩), by simp⟩, by simp [intOf]⟩
      · have HV := hide (HR.out.trans (if_neg hx))
        have hxb : (x != 0) = true := by simpa using hx
        go_wp2
        go_ret
        exact ⟨by rw [HV.out]; rfl, rfl⟩
    · by_cases hx : y = 0
      · subst hx
        go_wp2
        exact ⟨⟨.inr (.inr ⟨rfl, by simp, by simp⟩), by simp⟩, by simp [intOf]⟩
      · have HV := hide (HR.out.trans (if_pos rfl))
        have hxb : (y != 0) = true := by simpa using hx
        go_wp2
        go_ret
        exact ⟨by rw [HV.out]; rfl, rfl⟩
    · have HV := hide (HR.out.trans (if_pos rfl))
      go_wp2
      go_ret
      exact ⟨by rw [HV.out]; rfl, rfl⟩

/-- What the closure answers: of two blocks, by their Lives, then by their wear. -/
def wcmp (lv : Nat → Int) (ws : List Int) (A B : Nat) : Int := orI (cmpI (lv A) (lv B)) (cmpI (ws[A]?.getD 0) (ws[B]?.getD 0))

set_option maxRecDepth 100000 in
set_option maxHeartbeats 3200000 in
theorem worstCmp_any (pl pf : Nat) (lv : Nat → Int) (b : Option Addr) (ws : List Int) (d A B : Nat) (w : World) (hlv : ∀ i, i < 10 → w.cell? ⟨pl, i, none⟩ = some (.int .i64 (lv i))) (hc : w.cell? ⟨pf, 1, none⟩ = some (.slice b ws.length d)) (hw : Rd w b (vsInt ws)) (hm : ws.length = 10) (hA : A < 10) (hB : B < 10) :
    Calls Tryz.prog 83 #[.int .i64 A, .int .i64 B, .pointer (some ⟨pl, 0, none⟩), .pointer (some ⟨pf, 0, none⟩)] w fun e w' => e = .returned (.int .i64 (wcmp lv ws A B)) ∧ Below w.heap.size w w' := by
  obtain ⟨bb, ob, x, rfl, hcx, HX⟩ := rdInt_at hw (show A < ws.length by omega)
  obtain ⟨bb', ob', y, hb', hcy, HY⟩ := rdInt_at hw (show B < ws.length by omega)
  simp at hb'
  obtain ⟨rfl, rfl⟩ := hb'
  obtain ⟨R, hR⟩ : ∃ R, R = wcmp lv ws A B := ⟨_, rfl⟩
  rw [← hR]
  unfold wcmp at hR
  rw [HX.out, HY.out] at hR
  simp only [Option.getD_some] at hR
  have hla := hlv A hA
  have hlb := hlv B hB
  obtain ⟨X, hX⟩ : ∃ X, X = lv A := ⟨_, rfl⟩
  obtain ⟨Y, hY⟩ : ∃ Y, Y = lv B := ⟨_, rfl⟩
  rw [← hX] at hla hR
  rw [← hY] at hlb hR
  have HR := hide hR
  have HXY := hide (And.intro hX hY)
  clear hR hX hY hlv hw
  go_enter Tryz.func83, Tryz.ntmps83
  go_wp2
  go_region_held (fun w' => w'.cell? ⟨pl, A, none⟩ = some (.int .i64 X) ∧ w'.cell? ⟨pl, B, none⟩ = some (.int .i64 Y) ∧ w'.cell? ⟨pf, 1, none⟩ = some (.slice (some ⟨bb, ob, none⟩) ws.length d) ∧ w'.cell? ⟨bb, ob + A, none⟩ = some (.int .i64 x) ∧ w'.cell? ⟨bb, ob + B, none⟩ = some (.int .i64 y)) (first | assumption | go_keep)
    ((first
      | (go_at_call 85; refine (compare_any _ _ _).mono ?_; rintro e u ⟨rfl, hu⟩; have hu' := hu.symm; subst hu')
      | (go_at_call 84; refine (or_any _ (cmpI X Y) (cmpI x y) _ ?_ ?_).mono ?_; (simp [go_sem]); (simp [go_sem]); rintro e u ⟨rfl, hu⟩; have hu' := hu.symm; subst hu')))
  all_goals (go_wp2_with fail; go_ret; exact ⟨by rw [HR.out]; rfl, after_drew ((Below.refl _ _).alloc (Nat.le_refl _) _) 1⟩)

end Go.Proofs.YtghadfbpcbcpiaaGreat
