/-
  What is mounted, as it came in as an argument; chips too, as values that can be read.
  The laws' helpers over one act: toAct, szAct; an act that came in as an argument; the cells of the two arguments of Apply's law.
  Contract of the specification's Plan.
-/
import Derived.Test.YtelbannfbglgcaaJMounted12
import Derived.Test.YtelbannfbglgcaaJMounted23
import Derived.Test.YtelbannfbglgcaaJMounted10
namespace Go.Proofs.Ytelbannfbglgcaa
open Go.RowKit Go.ChangeShapes Go.WideShapes Go.ChangeAt Go.Joins Go.Deep
set_option maxRecDepth 100000

end Go.Proofs.Ytelbannfbglgcaa

namespace Go.Proofs.Ytelbannfbglgcaa
open Go.RowKit Go.ChangeShapes Go.WideShapes Go.ChangeAt Go.Joins
set_option maxRecDepth 100000

/-- A variable of two slices that was made behind the world U, still empty. -/
def Z3 (U u : World) (p : Nat) : Prop := (u.cell? ⟨p, 0, none⟩ = some (.slice none 0 0) ∧ u.cell? ⟨p, 1, none⟩ = some (.slice none 0 0) ∧ u.frozen? ⟨p, 0, none⟩ = false ∧ u.frozen? ⟨p, 1, none⟩ = false) ∧ p < u.heap.size ∧ U.heap.size ≤ p
theorem Z3.below {U u u' : World} {p : Nat} (h : Z3 U u p) (hb : Below u.heap.size u u') : Z3 U u' p :=
  ⟨⟨(hb.cell (p := ⟨p, 0, none⟩) h.2.1).trans h.1.1, (hb.cell (p := ⟨p, 1, none⟩) h.2.1).trans h.1.2.1, (hb.frozen (p := ⟨p, 0, none⟩) h.2.1).trans h.1.2.2.1, (hb.frozen (p := ⟨p, 1, none⟩) h.2.1).trans h.1.2.2.2⟩, Nat.lt_of_lt_of_le h.2.1 hb.size, h.2.2⟩
theorem Z3.ne {U u : World} {p q : Nat} (h : Z3 U u p) (hq : q < U.heap.size) : p ≠ q := by have := h.2.2; omega
theorem z3_new {U u : World} (hb : Below U.heap.size U u) (t : TypeId) : Z3 U (u.alloc (Obj.cells #[.slice none 0 0, .slice none 0 0] t)) u.heap.size := ⟨⟨by simp, by simp, by simp, by simp⟩, by simp, hb.size⟩
theorem z3_drew (u : World) (t : TypeId) : Z3 u (u.alloc (Obj.cells #[.slice none 0 0, .slice none 0 0] t)).drew u.heap.size := ⟨⟨by simp, by simp, by simp, by simp⟩, by show _ < (u.alloc _).heap.size; simp, Nat.le_refl _⟩
theorem chipRd_al {u u' : World} {o : Obj} {v : Value} {ps : List ByteArray} {ws : List Int} (h : ChipRd u v ps ws) (hb : Below (u.alloc o).heap.size (u.alloc o) u') : ChipRd u' v ps ws :=
  (h.below ((Below.refl _ _).alloc (Nat.le_refl _) _)).below hb
/-- What such a statement leaves: 'x, ok := f(..)', x a chip of the call's own in a variable of its own. -/
def ChipBox (U : World) (Gps : List ByteArray) (Gws : List Int) (F : Bool) (s t : Value) (u : World) : Prop :=
  ∃ p base a c b d, s = .pointer (some ⟨p, 0, none⟩) ∧ t = .bool F ∧ U.heap.size ≤ p ∧ U.heap.size ≤ base ∧ At u p [.slice a Gps.length c, .slice b Gws.length d] ∧ ChipOwn u base (.agg #[.slice a Gps.length c, .slice b Gws.length d]) Gps Gws ∧ (∀ k, some k ∈ bk (.agg #[.slice a Gps.length c, .slice b Gws.length d]) → k ≠ p) ∧ Below U.heap.size U u
theorem boxed_late {U u : World} {Gps : List ByteArray} {Gws : List Int} {F : Bool} {base c d : Nat} {a b : Option Addr} {t : TypeId} (hb : Below U.heap.size U u) (h : ChipOwn u base (.agg #[.slice a Gps.length c, .slice b Gws.length d]) Gps Gws) (hn : U.heap.size ≤ base) :
    ChipBox U Gps Gws F (.pointer (some ⟨u.heap.size, 0, none⟩)) (.bool F) (u.alloc (Obj.cells #[.slice a Gps.length c, .slice b Gws.length d] t)) :=
  ⟨_, _, _, _, _, _, rfl, rfl, hb.size, hn, at_new u [.slice a Gps.length c, .slice b Gws.length d] t, h.below ((Below.refl _ _).alloc (Nat.le_refl _) _), fun k hk => by have := h.blk hk; omega, hb.alloc hb.size _⟩
theorem boxed_early {U u : World} {Gps : List ByteArray} {Gws : List Int} {F : Bool} {base c d p : Nat} {a b : Option Addr} (hb : Below U.heap.size U u) (h : ChipOwn u base (.agg #[.slice a Gps.length c, .slice b Gws.length d]) Gps Gws) (hn : U.heap.size ≤ base) (hz : Z3 U u p) (hp : p < base) :
    ChipBox U Gps Gws F (.pointer (some ⟨p, 0, none⟩)) (.bool F) ((u.setCell ⟨p, 0, none⟩ (.slice a Gps.length c)).setCell ⟨p, 1, none⟩ (.slice b Gws.length d)) := by
  obtain ⟨⟨y0, y1, -, -⟩, hl, hU⟩ := hz
  refine ⟨_, _, _, _, _, _, rfl, rfl, hU, hn, ⟨by simpa using hl, ?_⟩, own_set (own_set h hp _) hp _, fun k hk => by have := h.blk hk; omega, (hb.setCell hU _).setCell hU _⟩
  intro i hi
  match i, hi with
  | 0, _ => exact (World.cell?_setCell_other _ _ _ _ (by simp)).trans (World.cell?_setCell_same _ _ _ y0)
  | 1, _ => exact World.cell?_setCell_same _ _ _ ((World.cell?_setCell_other _ _ _ _ (by simp)).trans y1)

end Go.Proofs.Ytelbannfbglgcaa

namespace Go.Proofs.Ytelbannfbglgcaa
open Go.RowKit

/-- What is planned, told as the chapter says: the acts; pages, wear, map and number behind them; whether it could be. -/
noncomputable def planR (ps : List ByteArray) (ws ms : List Int) (q s : Int) (d : ByteArray) : List (Int × Int × ByteArray) × (List ByteArray × List Int × List Int × Int) × Bool :=
  if ftlOkB ps ws ms q = true then
    match pPlan ps ws s d with
    | none => ([], (ps, ws, ms, q), false)
    | some r => (r.2.2, (r.1, r.2.1, mMap r.1, mSeq r.1), true)
  else ([], ([], [], [], 0), false)

/-- Work that begins. -/
theorem work_new {w : World} {base c d f : Nat} {a b e : Option Addr} {ps : List ByteArray} {ws ms : List Int} {q : Int} (ok : Bool) (hf : FtlOwn w base (.agg #[.slice a ps.length c, .slice b ws.length d, .slice e ms.length f, .int .i64 q]) ps ws ms q) (hb : base ≤ w.heap.size) (hl : ps.length = 60) (hm : ws.length = 10) (hk : ms.length = 26) :
    Work (w.alloc (Obj.cells #[.slice a ps.length c, .slice b ws.length d, .slice e ms.length f, .int .i64 q, .slice none 0 0, .bool ok] 162)) w.heap.size base ps ws ms q [] ok := by
  obtain ⟨v1, v2, v3, hv, o1, o2, o3, -, -, hne⟩ := hf
  injection hv with hv
  simp at hv
  obtain ⟨rfl, rfl, rfl⟩ := hv
  obtain ⟨g1, c', e1, -⟩ := owns_form o1 (by omega)
  obtain ⟨g2, d', e2, -⟩ := owns_form o2 (by omega)
  obtain ⟨g3, f', e3, -⟩ := owns_form o3 (by omega)
  injection e1 with e1 _ _
  injection e2 with e2 _ _
  injection e3 with e3 _ _
  subst e1 e2 e3
  exact ⟨g1, c, g2, d, g3, f, none, 0, heap_alloc_new _ _, hb, o1.alloc _, o2.alloc _, o3.alloc _, World.ownsRow_nil _ _ _ _, fun e => hne g2 rfl (by rw [e]; rfl)⟩

/-- What is left behind the last statement: the rows are kept. -/
theorem plan_fin {A2 w w5 : World} {base : Nat} {va vf : Value} {cs : List (Int × Int × ByteArray)} {ps : List ByteArray} {ws ms : List Int} {q : Int} (hb2 : Below w.heap.size w A2) (hb5 : Below A2.heap.size A2 w5) (hbase : A2.heap.size ≤ base ∧ base ≤ w5.heap.size) (hk : C4 A2 (w.heap.size + 1) (.slice none 0 0) (.slice none 0 0) (.slice none 0 0) (.int .i64 0)) (ha : ActsOwn w5 base va cs) (hf : FtlOwn w5 base vf ps ws ms q) :
    ∀ (V : World) (n : Nat) (y0 y1 y2 y3 : Value), Below w5.heap.size w5 V → ActsOwn (((((V.setCell ⟨w.heap.size + 1, 0, none⟩ y0).setCell ⟨w.heap.size + 1, 1, none⟩ y1).setCell ⟨w.heap.size + 1, 2, none⟩ y2).setCell ⟨w.heap.size + 1, 3, none⟩ y3).drewN n) w.heap.size va cs ∧
      FtlOwn (((((V.setCell ⟨w.heap.size + 1, 0, none⟩ y0).setCell ⟨w.heap.size + 1, 1, none⟩ y1).setCell ⟨w.heap.size + 1, 2, none⟩ y2).setCell ⟨w.heap.size + 1, 3, none⟩ y3).drewN n) w.heap.size vf ps ws ms q ∧
      Below w.heap.size w (((((V.setCell ⟨w.heap.size + 1, 0, none⟩ y0).setCell ⟨w.heap.size + 1, 1, none⟩ y1).setCell ⟨w.heap.size + 1, 2, none⟩ y2).setCell ⟨w.heap.size + 1, 3, none⟩ y3).drewN n) := by
  intro V n y0 y1 y2 y3 hbV
  have hlt := hk.lt
  have hne : ∀ {e : TypeId} {size n' : Nat} {v : Value} {xs : List Value}, w5.ownsRow base e size v n' xs → (((((V.setCell ⟨w.heap.size + 1, 0, none⟩ y0).setCell ⟨w.heap.size + 1, 1, none⟩ y1).setCell ⟨w.heap.size + 1, 2, none⟩ y2).setCell ⟨w.heap.size + 1, 3, none⟩ y3).drewN n).ownsRow w.heap.size e size v n' xs := fun {e} {size} {n'} {v} {xs} ho => by
    have hk : v.ownBlock ≠ some (w.heap.size + 1) := fun h => by have := (ho.lt _ h).1; omega
    have h1 : V.ownsRow w.heap.size e size v n' xs := owns_mono (owns_below ho hbV) (by have := hb2.size; omega)
    exact ownsRow_setCell_other (ownsRow_setCell_other (ownsRow_setCell_other (ownsRow_setCell_other h1 hk _) hk _) hk _) hk _
  obtain ⟨v1, v2, v3, hv, o1, o2, o3, hh⟩ := hf
  have hb : Below w.heap.size w V := after (after hb2 hb5) hbV
  exact ⟨hne ha, ⟨v1, v2, v3, hv, hne o1, hne o2, hne o3, hh⟩, after_drew ((((hb.setCell (by show _ ≤ _; simp) _).setCell (by show _ ≤ _; simp) _).setCell (by show _ ≤ _; simp) _).setCell (by show _ ≤ _; simp) _) n⟩

set_option maxRecDepth 100000 in
set_option maxHeartbeats 12800000 in
theorem specPlan_ok (a b e0 : Option Addr) (ps : List ByteArray) (ws ms : List Int) (c d f : Nat) (q s : Int) (t : ByteArray) (w : World) (hp : Rd w a (vsString ps)) (hw : Rd w b (vsInt ws)) (hms : Rd w e0 (vsInt ms)) (hok : ftlOkB ps ws ms q = true) (ht : t.size ≤ 1048576) (hs0 : -9223372036854775808 ≤ s) (hs1 : s ≤ 9223372036854775807) :
    Calls Try.prog 120 #[.agg #[.slice a ps.length c, .slice b ws.length d, .slice e0 ms.length f, .int .i64 q], .int .i64 s, .string t] w fun e w' => ∃ va vf, e = .returned (.tuple #[va, vf, .bool (pPlan ps ws s t).isSome]) ∧ (∀ r, pPlan ps ws s t = some r → ActsOwn w' w.heap.size va r.2.2 ∧ FtlOwn w' w.heap.size vf r.1 r.2.1 (mMap r.1) (mSeq r.1)) ∧ (pPlan ps ws s t = none → ActsOwn w' w.heap.size va [] ∧ FtlOwn w' w.heap.size vf ps ws ms q) ∧ Below w.heap.size w w' := by
  obtain ⟨hch, hmm, hqq⟩ := ftlOk_parts hok
  obtain ⟨A, hA⟩ : ∃ A, A = w.alloc (Obj.cells #[.slice a ps.length c, .slice b ws.length d, .slice e0 ms.length f, .int .i64 q] 47) := ⟨_, rfl⟩
  obtain ⟨A2, hA2⟩ : ∃ A2, A2 = A.alloc (Obj.cells #[.slice none 0 0, .slice none 0 0, .slice none 0 0, .int .i64 0] 47) := ⟨_, rfl⟩
  have hsA : A.heap.size = w.heap.size + 1 := by rw [hA]; simp
  have hb0 : Below w.heap.size w A := by rw [hA]; exact (Below.refl _ _).alloc (Nat.le_refl _) _
  have hb1 : Below A.heap.size A A2 := by rw [hA2]; exact (Below.refl _ _).alloc (Nat.le_refl _) _
  have hb2 := after hb0 hb1
  have k1 : C4 A2 (w.heap.size + 1) (.slice none 0 0) (.slice none 0 0) (.slice none 0 0) (.int .i64 0) := by
    have : C4 A2 A.heap.size (.slice none 0 0) (.slice none 0 0) (.slice none 0 0) (.int .i64 0) := by rw [hA2]; exact c4_new _ _ _ _ _ _
    rw [hsA] at this
    exact this
  have k0 : C4 A2 w.heap.size (.slice a ps.length c) (.slice b ws.length d) (.slice e0 ms.length f) (.int .i64 q) := by
    have : C4 A w.heap.size (.slice a ps.length c) (.slice b ws.length d) (.slice e0 ms.length f) (.int .i64 q) := by rw [hA]; exact c4_new _ _ _ _ _ _
    exact this.below hb1
  have HRD := hide (And.intro (hp.below hb2) (And.intro (hw.below hb2) (hms.below hb2)))
  have HFO := hide (specFtlOk_any a b e0 ps ws ms c d f q A2 (hp.below hb2) (hw.below hb2) (hms.below hb2) (by rw [hch.1]; decide) (by rw [hch.2.1]; decide) (by rw [← hmm, mMap_len]; decide) (fun s h => by have := hch.2.2.1 s h; omega))
  rw [hok] at HFO
  have HCH := hide hch
  have HMM := hide (And.intro hmm hqq)
  have HB2 := hide hb2
  have HK0 := hide k0
  have HK1 := hide k1
  obtain ⟨⟨x0, x1, x2, x3⟩, -⟩ := id k0
  clear hp hw hms hok hch hmm hqq hb0 hb1 hb2 hsA k0 k1
  go_enter Try.func120, Try.ntmps120
  go_upto_region 1 with fail
  rw [← hA]
  rw [← hA2]
  clear hA hA2
  go_wp2_with fail
  refine HFO.out.mono ?_
  rintro e w1 ⟨rfl, hb1⟩
  have HB1 := hide hb1
  clear HFO hb1 x0 x1 x2 x3
  have HCP : Hid (∀ u, Below w1.heap.size w1 u → Calls Try.prog 121 #[.agg #[.slice a ps.length c, .slice b ws.length d, .slice e0 ms.length f, .int .i64 q]] u fun e w' => ∃ a b e0 c d f, e = .returned (.agg #[.slice a ps.length c, .slice b ws.length d, .slice e0 ms.length f, .int .i64 q]) ∧ FtlOwn w' w1.heap.size (.agg #[.slice a ps.length c, .slice b ws.length d, .slice e0 ms.length f, .int .i64 q]) ps ws ms q ∧ Below w1.heap.size w1 w') := by
    intro u hu
    have hu2 := after HB1.out hu
    refine (copy4_any a b e0 ps ws ms c d f q u (HRD.out.1.below hu2) (HRD.out.2.1.below hu2) (HRD.out.2.2.below hu2) HCH.out.1 HCH.out.2.1 (by rw [← HMM.out.1]; exact mMap_len ps)).mono ?_
    rintro e w' ⟨v, rfl, hf, hb⟩
    obtain ⟨a1, c1, b1, d1, e1, f1, rfl⟩ := hf.shape
    obtain ⟨v1, v2, v3, hv, o1, o2, o3, hh⟩ := hf
    exact ⟨_, _, _, _, _, _, rfl, ⟨v1, v2, v3, hv, owns_mono o1 hu.size, owns_mono o2 hu.size, owns_mono o3 hu.size, hh⟩, after hu hb⟩
  have HRK : Hid (∀ u, Below w1.heap.size w1 u → Calls Try.prog 128 #[.agg #[.int .i64 s, .int .i64 q, .string t]] u fun e w' => e = .returned (.bool (recOkB s q t)) ∧ Below u.heap.size u w' ∧ Below w1.heap.size w1 w') := by
    intro u hu
    refine (specRecOk_any s q t u (by unfold maxLen; omega)).mono ?_
    rintro e w' ⟨rfl, hb⟩
    exact ⟨rfl, hb, after hu hb⟩
  have HT : Hid (∀ u, Below w1.heap.size w1 u → u.cell? ⟨w.heap.size, 0, none⟩ = some (.slice a ps.length c) ∧ u.cell? ⟨w.heap.size, 1, none⟩ = some (.slice b ws.length d) ∧ u.cell? ⟨w.heap.size, 2, none⟩ = some (.slice e0 ms.length f) ∧ u.cell? ⟨w.heap.size, 3, none⟩ = some (.int .i64 q)) := fun u hu => ((HK0.out.below HB1.out).below hu).1
  obtain ⟨x0, x1, x2, x3⟩ := HT.out w1 (Below.refl _ _)
  obtain ⟨OK, hOK⟩ : ∃ OK, OK = recOkB s q t := ⟨_, rfl⟩
  rw [← hOK] at HRK
  have HOE := hide hOK
  clear hOK
  go_upto_region 3 with fail
  go_cut [9] (fun x wx => ∃ P, x = .pointer (some ⟨P, 0, none⟩) ∧ Hid (Work wx P w1.heap.size ps ws ms q [] OK) ∧ Hid (Below w1.heap.size w1 wx))
  case first =>
    go_region_held (fun w' => w'.cell? ⟨w.heap.size, 0, none⟩ = some (.slice a ps.length c) ∧ w'.cell? ⟨w.heap.size, 1, none⟩ = some (.slice b ws.length d) ∧ w'.cell? ⟨w.heap.size, 2, none⟩ = some (.slice e0 ms.length f) ∧ w'.cell? ⟨w.heap.size, 3, none⟩ = some (.int .i64 q)) (first | assumption | go_keep)
      ((first
        | (go_at_call 121; refine (HCP.out w1.drew (after_drew (Below.refl _ _) 1)).mono ?_; rintro e w2 ⟨a2, b2, e2, c2, d2, f2, rfl, hf, hb⟩; have HF2 := hide hf; have HB := hide hb; have hS := HT.out _ hb; clear hf hb)
        | (go_at_call 128; refine (HRK.out w2 HB.out).mono ?_; rintro e w3 ⟨rfl, hb, hb'⟩; have HF3 := hide (HF2.out.below hb); have HB3 := hide hb'; have hS := HT.out _ hb'; clear hb hb')))
    all_goals (go_wp2_with fail; go_meet; exact ⟨_, rfl, work_new OK HF3.out HB3.out.size HCH.out.1 HCH.out.2.1 (by rw [← HMM.out.1]; exact mMap_len ps), HB3.out.alloc HB3.out.size _⟩)
  case rest =>
  obtain ⟨P, rfl, HWK, HBC⟩ := hcut
  clear HCP HRK HT x0 x1 x2 x3
  cases OK with
  | false =>
    have HPP : Hid (pPlan ps ws s t = none) := by show _ = _; unfold pPlan; rw [if_pos (by rw [HMM.out.2]; exact HOE.out.symm)]
    have HFA : Hid (Failed wc P w1.heap.size) := by obtain ⟨g1, k1, g2, k2, g3, k3, v4, k4, h⟩ := HWK.out; exact ⟨_, _, _, h.acts⟩
    have c5 : wc.cell? ⟨P, 5, none⟩ = some (.bool false) := by obtain ⟨v4, k4, cs, h⟩ := HFA.out; exact h.cells.2.2.1
    have HNO := hide (room5_no P w1.heap.size wc HFA.out)
    go_wp2_with fail
    refine HNO.out.mono ?_
    rintro e u ⟨rfl, hu⟩
    have hu' := hu.symm
    subst hu'
    have HK0u := (HK0.out.below (after HB1.out HBC.out))
    obtain ⟨⟨x0, x1, x2, x3⟩, -⟩ := id HK0u
    have HDN := hide (done5_no a b e0 ps ws ms c d f q P w1.heap.size wc (HRD.out.1.below (after HB1.out HBC.out)) (HRD.out.2.1.below (after HB1.out HBC.out)) (HRD.out.2.2.below (after HB1.out HBC.out)) HCH.out.1 HCH.out.2.1 (by rw [← HMM.out.1]; exact mMap_len ps) HFA.out)
    clear HK0u
    go_wp2_with fail
    refine HDN.out.mono ?_
    rintro e w5 ⟨va, vf, rfl, hact, hftl, hb5⟩
    have hB5 := after HBC.out hb5
    have HPA := hide (plan_fin (base := wc.heap.size) (A2 := A2) (w := w) HB2.out (after HB1.out hB5) (by have := HB1.out.size; have := hB5.size; have := hb5.size; have := HBC.out.size; omega) HK1.out hact hftl)
    obtain ⟨a5, k5, rfl⟩ := owns3_shape hact
    obtain ⟨a6, c6, b6, d6, e6, f6, rfl⟩ := hftl.shape
    have hk5 := HK1.out.below (after HB1.out hB5)
    obtain ⟨V, hV⟩ : ∃ V, V = w5.alloc (Obj.cells #[.slice a6 ps.length c6, .slice b6 ws.length d6, .slice e6 ms.length f6, .int .i64 q] 47) := ⟨_, rfl⟩
    have hbV : Below w5.heap.size w5 V := by rw [hV]; exact (Below.refl _ _).alloc (Nat.le_refl _) _
    have hv5 : C4 V w5.heap.size (.slice a6 ps.length c6) (.slice b6 ws.length d6) (.slice e6 ms.length f6) (.int .i64 q) := by rw [hV]; exact c4_new _ _ _ _ _ _
    obtain ⟨⟨z0, z1, z2, z3⟩, -⟩ := id hv5
    have hkV := hk5.below hbV
    obtain ⟨⟨y0, y1, y2, y3⟩, yf⟩ := id hkV
    have yf0 := yf 0
    have yf1 := yf 1
    have yf2 := yf 2
    have yf3 := yf 3
    have hne5 : ¬ w5.heap.size = w.heap.size + 1 := by have := hk5.lt; omega
    have hne6 : ¬ w.heap.size + 1 = w5.heap.size := by have := hk5.lt; omega
    have HPB := hide (fun n y0 y1 y2 y3 => HPA.out V n y0 y1 y2 y3 hbV)
    clear hv5 hkV hbV HPA hact hftl hb5 hB5 hk5 yf HDN x0 x1 x2 x3 c5 HNO HWK
    go_wp2_with fail
    rw [← hV]
    clear hV
    generalize w5.heap.size = G at hne5 hne6 z0 z1 z2 z3 ⊢
    go_region
    all_goals (go_wp2; exact bodyPost_ret (v := .tuple #[.slice a5 0 k5, .agg #[.slice a6 ps.length c6, .slice b6 ws.length d6, .slice e6 ms.length f6, .int .i64 q], .bool false]) (by simp [results, Try.results120, go_sem, y0, y1, y2, y3]) rfl ⟨_, _, by rw [HPP.out]; rfl, no_some HPP.out, fun _ => ⟨(HPB.out 1 _ _ _ _).1, (HPB.out 1 _ _ _ _).2.1⟩, (HPB.out 1 _ _ _ _).2.2⟩)
  | true =>
    have hrk : Hid (recOkB s (mSeq ps) t = true) := by show _ = _; rw [HMM.out.2]; exact HOE.out.symm
    have HRM := room5_any P w1.heap.size ps ws wc (by rw [HMM.out.1, HMM.out.2]; exact HWK.out) HCH.out
    obtain ⟨RR, hRR⟩ : ∃ RR, RR = pRoom 10 ps ws [] := ⟨_, rfl⟩
    rw [← hRR] at HRM
    have HRM := hide HRM
    have HRR := hide hRR
    clear hRR
    go_wp2_with fail
    refine HRM.out.mono ?_
    rintro e w2 ⟨rfl, hb2, hy, hn⟩
    have HBD : Hid (Below w1.heap.size w1 w2) := HBC.out.trans hb2
    have HYN := hide (And.intro hy hn)
    clear hy hn HRM hb2
    cases RR with
    | none =>
      have hr := HRR.out.symm
      have hn := HYN.out.2
      have HPP : Hid (pPlan ps ws s t = none) := by show _ = _; unfold pPlan; rw [if_neg (by rw [hrk.out]; decide), hr]
      have HFA := hide (hn rfl)
      have c5 : w2.cell? ⟨P, 5, none⟩ = some (.bool false) := by obtain ⟨v4, k4, cs, h⟩ := HFA.out; exact h.cells.2.2.1
      clear hn hr HWK HYN HRR
      have HK0u := (HK0.out.below (after HB1.out HBD.out))
      obtain ⟨⟨x0, x1, x2, x3⟩, -⟩ := id HK0u
      have HDN := hide (done5_no a b e0 ps ws ms c d f q P w1.heap.size w2 (HRD.out.1.below (after HB1.out HBD.out)) (HRD.out.2.1.below (after HB1.out HBD.out)) (HRD.out.2.2.below (after HB1.out HBD.out)) HCH.out.1 HCH.out.2.1 (by rw [← HMM.out.1]; exact mMap_len ps) HFA.out)
      clear HK0u
      go_wp2_with fail
      refine HDN.out.mono ?_
      rintro e w5 ⟨va, vf, rfl, hact, hftl, hb5⟩
      have hB5 := after HBD.out hb5
      have HPA := hide (plan_fin (base := w2.heap.size) (A2 := A2) (w := w) HB2.out (after HB1.out hB5) (by have := HB1.out.size; have := hB5.size; have := hb5.size; have := HBD.out.size; omega) HK1.out hact hftl)
      obtain ⟨a5, k5, rfl⟩ := owns3_shape hact
      obtain ⟨a6, c6, b6, d6, e6, f6, rfl⟩ := hftl.shape
      have hk5 := HK1.out.below (after HB1.out hB5)
      obtain ⟨V, hV⟩ : ∃ V, V = w5.alloc (Obj.cells #[.slice a6 ps.length c6, .slice b6 ws.length d6, .slice e6 ms.length f6, .int .i64 q] 47) := ⟨_, rfl⟩
      have hbV : Below w5.heap.size w5 V := by rw [hV]; exact (Below.refl _ _).alloc (Nat.le_refl _) _
      have hv5 : C4 V w5.heap.size (.slice a6 ps.length c6) (.slice b6 ws.length d6) (.slice e6 ms.length f6) (.int .i64 q) := by rw [hV]; exact c4_new _ _ _ _ _ _
      obtain ⟨⟨z0, z1, z2, z3⟩, -⟩ := id hv5
      have hkV := hk5.below hbV
      obtain ⟨⟨y0, y1, y2, y3⟩, yf⟩ := id hkV
      have yf0 := yf 0
      have yf1 := yf 1
      have yf2 := yf 2
      have yf3 := yf 3
      have hne5 : ¬ w5.heap.size = w.heap.size + 1 := by have := hk5.lt; omega
      have hne6 : ¬ w.heap.size + 1 = w5.heap.size := by have := hk5.lt; omega
      have HPB := hide (fun n y0 y1 y2 y3 => HPA.out V n y0 y1 y2 y3 hbV)
      clear hv5 hkV hbV HPA hact hftl hb5 hB5 hk5 yf HDN x0 x1 x2 x3 c5
      go_wp2_with fail
      rw [← hV]
      clear hV
      generalize w5.heap.size = G at hne5 hne6 z0 z1 z2 z3 ⊢
      go_region
      all_goals (go_wp2; exact bodyPost_ret (v := .tuple #[.slice a5 0 k5, .agg #[.slice a6 ps.length c6, .slice b6 ws.length d6, .slice e6 ms.length f6, .int .i64 q], .bool false]) (by simp [results, Try.results120, go_sem, y0, y1, y2, y3]) rfl ⟨_, _, by rw [HPP.out]; rfl, no_some HPP.out, fun _ => ⟨(HPB.out 1 _ _ _ _).1, (HPB.out 1 _ _ _ _).2.1⟩, (HPB.out 1 _ _ _ _).2.2⟩)
    | some r =>
      have hr := HRR.out.symm
      have HW2 := hide (HYN.out.1 r rfl)
      have hri := pRoom_right _ _ _ _ _ HCH.out hr
      obtain ⟨pr, wr, cr⟩ := r
      have HRI := hide hri
      have HR := hide hr
      obtain ⟨g1, k1, g2, k2, g3, k3, v4, k4, hW2⟩ := HW2.out
      obtain ⟨⟨-, -, -, -, -, c5⟩, -⟩ := hW2.cells
      have HBN := hide (burn5_any P w1.heap.size g1 k1 g2 k2 g3 k3 v4 k4 pr wr cr s t w2 hW2 hri.1 (by unfold maxLen; omega) hs0 hs1 (by have := hri.2; simp only [List.length_nil] at this; omega))
      clear hr HWK hri hW2 HW2 HYN HRR
      go_wp2_with fail
      refine HBN.out.mono ?_
      rintro e w3 ⟨rfl, hb3, -, hy, hn⟩
      have HBE : Hid (Below w1.heap.size w1 w3) := HBD.out.trans hb3
      cases hb : pBurn pr wr s t with
      | none =>
        have HPP : Hid (pPlan ps ws s t = none) := by show _ = _; unfold pPlan; rw [if_neg (by rw [hrk.out]; decide), HR.out]; simp only []; rw [hb]
        have HFA : Hid (Failed w3 P w1.heap.size) := ⟨_, _, _, (hn hb).acts⟩
        clear hb3 hy hn hb HBN c5
        have HK0u := (HK0.out.below (after HB1.out HBE.out))
        obtain ⟨⟨x0, x1, x2, x3⟩, -⟩ := id HK0u
        have HDN := hide (done5_no a b e0 ps ws ms c d f q P w1.heap.size w3 (HRD.out.1.below (after HB1.out HBE.out)) (HRD.out.2.1.below (after HB1.out HBE.out)) (HRD.out.2.2.below (after HB1.out HBE.out)) HCH.out.1 HCH.out.2.1 (by rw [← HMM.out.1]; exact mMap_len ps) HFA.out)
        clear HK0u
        go_wp2_with fail
        refine HDN.out.mono ?_
        rintro e w5 ⟨va, vf, rfl, hact, hftl, hb5⟩
        have hB5 := after HBE.out hb5
        have HPA := hide (plan_fin (base := w3.heap.size) (A2 := A2) (w := w) HB2.out (after HB1.out hB5) (by have := HB1.out.size; have := hB5.size; have := hb5.size; have := HBE.out.size; omega) HK1.out hact hftl)
        obtain ⟨a5, k5, rfl⟩ := owns3_shape hact
        obtain ⟨a6, c6, b6, d6, e6, f6, rfl⟩ := hftl.shape
        have hk5 := HK1.out.below (after HB1.out hB5)
        obtain ⟨V, hV⟩ : ∃ V, V = w5.alloc (Obj.cells #[.slice a6 ps.length c6, .slice b6 ws.length d6, .slice e6 ms.length f6, .int .i64 q] 47) := ⟨_, rfl⟩
        have hbV : Below w5.heap.size w5 V := by rw [hV]; exact (Below.refl _ _).alloc (Nat.le_refl _) _
        have hv5 : C4 V w5.heap.size (.slice a6 ps.length c6) (.slice b6 ws.length d6) (.slice e6 ms.length f6) (.int .i64 q) := by rw [hV]; exact c4_new _ _ _ _ _ _
        obtain ⟨⟨z0, z1, z2, z3⟩, -⟩ := id hv5
        have hkV := hk5.below hbV
        obtain ⟨⟨y0, y1, y2, y3⟩, yf⟩ := id hkV
        have yf0 := yf 0
        have yf1 := yf 1
        have yf2 := yf 2
        have yf3 := yf 3
        have hne5 : ¬ w5.heap.size = w.heap.size + 1 := by have := hk5.lt; omega
        have hne6 : ¬ w.heap.size + 1 = w5.heap.size := by have := hk5.lt; omega
        have HPB := hide (fun n y0 y1 y2 y3 => HPA.out V n y0 y1 y2 y3 hbV)
        clear hv5 hkV hbV HPA hact hftl hb5 hB5 hk5 yf HDN x0 x1 x2 x3 
        go_wp2_with fail
        rw [← hV]
        clear hV
        generalize w5.heap.size = G at hne5 hne6 z0 z1 z2 z3 ⊢
        go_region
        all_goals (go_wp2; exact bodyPost_ret (v := .tuple #[.slice a5 0 k5, .agg #[.slice a6 ps.length c6, .slice b6 ws.length d6, .slice e6 ms.length f6, .int .i64 q], .bool false]) (by simp [results, Try.results120, go_sem, y0, y1, y2, y3]) rfl ⟨_, _, by rw [HPP.out]; rfl, no_some HPP.out, fun _ => ⟨(HPB.out 1 _ _ _ _).1, (HPB.out 1 _ _ _ _).2.1⟩, (HPB.out 1 _ _ _ _).2.2⟩)
      | some bb =>
        have HPP : Hid (pPlan ps ws s t = some (bb.1, wr, cr ++ [bb.2])) := by show _ = _; unfold pPlan; rw [if_neg (by rw [hrk.out]; decide), HR.out]; simp only []; rw [hb]
        have HWF : Hid (Work w3 P w1.heap.size bb.1 wr (mMap bb.1) (mSeq bb.1) (cr ++ [bb.2]) true) := by obtain ⟨v5, k5, h⟩ := hy bb hb; exact ⟨_, _, _, _, _, _, _, _, h⟩
        have HOKF := hide (pBurn_right HRI.out.1 hb)
        clear hb3 hy hn hb HBN c5
        have HK0u := (HK0.out.below (after HB1.out HBE.out))
        obtain ⟨⟨x0, x1, x2, x3⟩, -⟩ := id HK0u
        have HDN := hide (done5_ok (.slice a ps.length c) (.slice b ws.length d) (.slice e0 ms.length f) (.int .i64 q) P w1.heap.size _ _ _ _ _ w3 HWF.out HOKF.out)
        clear HK0u
        go_wp2_with fail
        refine HDN.out.mono ?_
        rintro e w5 ⟨va, vf, rfl, hact, hftl, hb5⟩
        obtain ⟨MM, hMM⟩ : ∃ MM, MM = mMap bb.1 := ⟨_, rfl⟩
        obtain ⟨QQ, hQQ⟩ : ∃ QQ, QQ = mSeq bb.1 := ⟨_, rfl⟩
        have HMQ := hide (And.intro hMM hQQ)
        rw [← hMM, ← hQQ] at hftl
        clear hMM hQQ
        have hB5 := after HBE.out hb5
        have HPA := hide (plan_fin (base := w1.heap.size) (A2 := A2) (w := w) HB2.out (after HB1.out hB5) (by have := HB1.out.size; have := hB5.size; have := hb5.size; have := HBE.out.size; omega) HK1.out hact hftl)
        obtain ⟨a5, k5, rfl⟩ := owns3_shape hact
        obtain ⟨a6, c6, b6, d6, e6, f6, rfl⟩ := hftl.shape
        have hk5 := HK1.out.below (after HB1.out hB5)
        obtain ⟨V, hV⟩ : ∃ V, V = w5.alloc (Obj.cells #[.slice a6 bb.1.length c6, .slice b6 wr.length d6, .slice e6 MM.length f6, .int .i64 QQ] 47) := ⟨_, rfl⟩
        have hbV : Below w5.heap.size w5 V := by rw [hV]; exact (Below.refl _ _).alloc (Nat.le_refl _) _
        have hv5 : C4 V w5.heap.size (.slice a6 bb.1.length c6) (.slice b6 wr.length d6) (.slice e6 MM.length f6) (.int .i64 QQ) := by rw [hV]; exact c4_new _ _ _ _ _ _
        obtain ⟨⟨z0, z1, z2, z3⟩, -⟩ := id hv5
        have hkV := hk5.below hbV
        obtain ⟨⟨y0, y1, y2, y3⟩, yf⟩ := id hkV
        have yf0 := yf 0
        have yf1 := yf 1
        have yf2 := yf 2
        have yf3 := yf 3
        have hne5 : ¬ w5.heap.size = w.heap.size + 1 := by have := hk5.lt; omega
        have hne6 : ¬ w.heap.size + 1 = w5.heap.size := by have := hk5.lt; omega
        have HPB := hide (fun n y0 y1 y2 y3 => HPA.out V n y0 y1 y2 y3 hbV)
        clear hv5 hkV hbV HPA hact hftl hb5 hB5 hk5 yf HDN x0 x1 x2 x3 
        generalize (cr ++ [bb.2]).length = N5 at HPB ⊢
        go_wp2_with fail
        rw [← hV]
        clear hV
        generalize w5.heap.size = G at hne5 hne6 z0 z1 z2 z3 ⊢
        go_region
        all_goals (go_wp2; exact bodyPost_ret (v := .tuple #[.slice a5 N5 k5, .agg #[.slice a6 bb.1.length c6, .slice b6 wr.length d6, .slice e6 MM.length f6, .int .i64 QQ], .bool true]) (by simp [results, Try.results120, go_sem, y0, y1, y2, y3]) rfl ⟨_, _, by rw [HPP.out]; rfl, yes_some HPP.out ⟨(HPB.out 1 _ _ _ _).1, by rw [← HMQ.out.1, ← HMQ.out.2]; exact (HPB.out 1 _ _ _ _).2.1⟩, not_none HPP.out, (HPB.out 1 _ _ _ _).2.2⟩)
end Go.Proofs.Ytelbannfbglgcaa
