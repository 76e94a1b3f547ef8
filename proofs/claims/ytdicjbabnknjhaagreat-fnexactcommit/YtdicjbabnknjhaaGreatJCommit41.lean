/-
  Contracts of both Views; the laws' helpers over rows of texts.
  Contract of the specification's Commit, of whatever came in.
  What Commit answers, of both: in the form that its law's walk takes.
-/
import Derived.Test.YtdicjbabnknjhaaGreatJCommit29
import Derived.Test.YtdicjbabnknjhaaGreatJCommit39
import Derived.Test.YtdicjbabnknjhaaGreatJCommit40
import Derived.Test.YtdicjbabnknjhaaGreatJCommit37
namespace Go.Proofs.YtdicjbabnknjhaaGreat
open Go.RowKit

/-- What each sector of a chip that is right has. -/
def viewU (ps : List ByteArray) : List ByteArray := (List.range 26).map fun (s : Nat) => secD ps ((s : Nat) : Int)
theorem viewU_len (ps : List ByteArray) : (viewU ps).length = 26 := by simp [viewU]
theorem viewU_at (ps : List ByteArray) {k : Nat} (h : k < 26) : (viewU ps)[k]? = some (secD ps (k : Int)) := by simp [viewU, h]
/-- View of whatever came in. -/
def viewOf (ps : List ByteArray) (ws ms : List Int) (q : Int) : List ByteArray := if ftlOkB ps ws ms q = true then viewU ps else []
theorem viewOf_len (ps : List ByteArray) (ws ms : List Int) (q : Int) : (viewOf ps ws ms q).length ≤ 1000 := by
  unfold viewOf
  split
  · rw [viewU_len]; decide
  · simp

/-! Rows of texts. -/
def StrsRd (w : World) (v : Value) (xs : List ByteArray) : Prop := ∃ a c, v = .slice a xs.length c ∧ Rd w a (vsString xs)
def StrsOwn (w : World) (base : Nat) (v : Value) (xs : List ByteArray) : Prop := w.ownsRow base 9 1 v xs.length (vsString xs)
def StrsMk (w : World) (base : Nat) (v : Value) (n q : Nat) : Prop := w.ownsRow base 9 1 v n (marksT q n)
theorem StrsOwn.shape {u : World} {base : Nat} {v : Value} {xs : List ByteArray} (h : StrsOwn u base v xs) : ∃ a c, v = .slice a xs.length c := owns_shape h
theorem StrsOwn.rd {u : World} {base : Nat} {v : Value} {xs : List ByteArray} (h : StrsOwn u base v xs) : StrsRd u v xs := by
  obtain ⟨a, c, rfl⟩ := h.shape
  exact ⟨a, c, rfl, rd_of_own h⟩
theorem StrsRd.below {u u' : World} {v : Value} {xs : List ByteArray} (h : StrsRd u v xs) (hb : Below u.heap.size u u') : StrsRd u' v xs := by
  obtain ⟨a, c, rfl, h1⟩ := h
  exact ⟨a, c, rfl, h1.below hb⟩
theorem StrsOwn.below {u u' : World} {base : Nat} {v : Value} {xs : List ByteArray} (h : StrsOwn u base v xs) (hb : Below u.heap.size u u') : StrsOwn u' base v xs := owns_below h hb
theorem StrsMk.below {u u' : World} {base : Nat} {v : Value} {n q : Nat} (h : StrsMk u base v n q) (hb : Below u.heap.size u u') : StrsMk u' base v n q := owns_below h hb
theorem StrsOwn.only {u u' : World} {base : Nat} {v : Value} {xs : List ByteArray} {L : List (Option Nat)} (h : StrsOwn u base v xs) (hO : OnlyIn u u' L) (hn : ∀ k, some k ∈ bk v → some k ∉ L) : StrsOwn u' base v xs := by
  obtain ⟨a, c, rfl⟩ := h.shape
  exact hO.owns h (fun k hk => hn k (by rw [bk_slice, hk]; simp))
theorem StrsMk.only {u u' : World} {base : Nat} {v : Value} {n q : Nat} {L : List (Option Nat)} (h : StrsMk u base v n q) (hO : OnlyIn u u' L) (hn : ∀ k, some k ∈ bk v → some k ∉ L) : StrsMk u' base v n q := by
  obtain ⟨a, c, rfl⟩ := owns_shape h
  exact hO.owns h (fun k hk => hn k (by rw [bk_slice, hk]; simp))
theorem StrsOwn.blk {u : World} {base : Nat} {v : Value} {xs : List ByteArray} (h : StrsOwn u base v xs) {k : Nat} (hk : some k ∈ bk v) : base ≤ k ∧ k < u.heap.size := by
  obtain ⟨a, c, rfl⟩ := h.shape
  rw [bk_slice] at hk
  simp only [List.mem_cons, List.not_mem_nil, or_false] at hk
  exact World.ownsRow.lt h k hk.symm
theorem strs_eq {u : World} {v v' : Value} {xs : List ByteArray} (h : StrsRd u v xs) (h' : StrsRd u v' xs) (hl : xs.length ≤ 1048576) :
    Calls Tryz.prog 72 #[v, v'] u fun e w' => e = .returned (.bool true) ∧ Below u.heap.size u w' := by
  obtain ⟨a, c, rfl, h1⟩ := h
  obtain ⟨a', c', rfl, h1'⟩ := h'
  refine (eqStringS_any a a' xs xs c c' u h1 h1' (by omega) (by omega)).mono ?_
  rintro e w' ⟨rfl, n, rfl⟩
  exact ⟨ret_bool (by simp), after_drew (Below.refl _ _) n⟩
theorem strs_mark {u : World} {base : Nat} {v : Value} {xs : List ByteArray} {q : Nat} (h : StrsOwn u base v xs) (hl : xs.length ≤ 1048576) (hq0 : 0 < q) (hq : q ≤ 1000000) :
    Calls Tryz.prog 73 #[v, .int .i64 q] u fun e w' => e = .returned (.int .i64 ((q + xs.length : Nat) : Int)) ∧ StrsMk w' base v xs.length q ∧ OnlyIn u w' (bk v) := by
  obtain ⟨a, c, rfl⟩ := h.shape
  refine (markStringS_any (.slice a xs.length c) xs.length _ base q u h hl (by omega) hq0).mono ?_
  rintro e w' ⟨rfl, k1, hg⟩
  exact ⟨rfl, k1, OnlyIn.of_grown hg⟩
theorem strs_held {u : World} {base : Nat} {v : Value} {n q : Nat} (h : StrsMk u base v n q) (hl : n ≤ 1048576) (hq0 : 0 < q) (hq : q ≤ 1000000) :
    Calls Tryz.prog 74 #[v, .int .i64 q] u fun e w' => e = .returned (.int .i64 ((q + n : Nat) : Int)) ∧ Below u.heap.size u w' :=
  heldStringS_any v n base q u h hl (by omega) hq0

/-- What l4Sector answers of a chip that is right. -/
theorem specSec_any (a e0 : Option Addr) (p1 : Value) (ps : List ByteArray) (c f S : Nat) (q : Int) (w : World) (hp : Rd w a (vsString ps)) (hms : Rd w e0 (vsInt (mMap ps))) (hch : ps.length = 60) (hS : S < 26) (hs : ∀ s ∈ ps, s.size ≤ 1048576) :
    Calls Tryz.prog 26 #[.agg #[.slice a ps.length c, p1, .slice e0 (mMap ps).length f, .int .i64 q], .int .i64 S] w fun e w' => e = .returned (.string (secD ps S)) ∧ Below w.heap.size w w' := by
  obtain ⟨o, ho, ho1, ho2⟩ := map_old (ps := ps) (k := 60) (s := S) hS
  have ho' : (mMap ps)[S]? = some o := ho
  have e : secD ps S = dataAt ps o := by rw [secD, if_pos (by omega), Int.toNat_natCast, ho']; rfl
  rw [e]
  by_cases hneg : o < 0
  · rw [dataAt, if_pos hneg]
    exact specSec_none _ _ e0 (mMap ps) f S _ o w hms ho' hS hneg
  · obtain ⟨p, rfl⟩ : ∃ p : Nat, o = p := ⟨o.toNat, by omega⟩
    rw [dataAt, if_neg hneg, Int.toNat_natCast]
    exact specSec_some a _ e0 ps (mMap ps) c f S p _ w hp hms ho' hS (by omega) (by omega) hs

end Go.Proofs.YtdicjbabnknjhaaGreat

namespace Go.Proofs.YtdicjbabnknjhaaGreat
open Go.RowKit

set_option maxRecDepth 100000 in
set_option maxHeartbeats 12800000 in
theorem specCommit_fn (a b e0 : Option Addr) (ps : List ByteArray) (ws ms : List Int) (c d f lc : Nat) (la : Option Addr) (q : Int) (L : List (Int × ByteArray)) (w : World) (hp : Rd w a (vsString ps)) (hw : Rd w b (vsInt ws)) (hms : Rd w e0 (vsInt ms)) (hl : ps.length ≤ 1048576) (hm : ws.length ≤ 1048576) (hn : ms.length ≤ 1048576) (hs : ∀ s ∈ ps, s.size ≤ 1048576) (hLn : L.length ≤ 1048576) (hLb : ∀ x ∈ L, x.2.size ≤ 1048576 ∧ -9223372036854775808 ≤ x.1 ∧ x.1 ≤ 9223372036854775807) (hd : Rd w la (vsPut L)) :
    Calls Tryz.prog 7 #[.agg #[.slice a ps.length c, .slice b ws.length d, .slice e0 ms.length f, .int .i64 q], .slice la L.length lc] w fun e w' => PlanIs w w' e (commitR ps ws ms q L) := by
  obtain ⟨R, hR⟩ : ∃ R, R = commitR ps ws ms q L := ⟨_, rfl⟩
  rw [← hR]
  obtain ⟨A, hA⟩ : ∃ A, A = w.alloc (Obj.cells #[.slice a ps.length c, .slice b ws.length d, .slice e0 ms.length f, .int .i64 q] 34) := ⟨_, rfl⟩
  obtain ⟨A2, hA2⟩ : ∃ A2, A2 = A.alloc (Obj.cells #[.slice none 0 0, .slice none 0 0, .slice none 0 0, .int .i64 0] 34) := ⟨_, rfl⟩
  obtain ⟨A3, hA3⟩ : ∃ A3, A3 = A2.alloc (Obj.cells #[] 71) := ⟨_, rfl⟩
  have hsA : A.heap.size = w.heap.size + 1 := by rw [hA]; simp
  have hsA2 : A2.heap.size = w.heap.size + 1 + 1 := by rw [hA2]; simp [hsA]
  have hb0 : Below w.heap.size w A := by rw [hA]; exact (Below.refl _ _).alloc (Nat.le_refl _) _
  have hb1 : Below A.heap.size A A2 := by rw [hA2]; exact (Below.refl _ _).alloc (Nat.le_refl _) _
  have hb3 : Below A2.heap.size A2 A3 := by rw [hA3]; exact (Below.refl _ _).alloc (Nat.le_refl _) _
  have hb2 := after hb0 hb1
  have hb23 := after hb2 hb3
  have k1 : C4 A2 (w.heap.size + 1) (.slice none 0 0) (.slice none 0 0) (.slice none 0 0) (.int .i64 0) := by
    have : C4 A2 A.heap.size (.slice none 0 0) (.slice none 0 0) (.slice none 0 0) (.int .i64 0) := by rw [hA2]; exact c4_new _ _ _ _ _ _
    rw [hsA] at this
    exact this
  have k0 : C4 A3 w.heap.size (.slice a ps.length c) (.slice b ws.length d) (.slice e0 ms.length f) (.int .i64 q) := by
    have : C4 A w.heap.size (.slice a ps.length c) (.slice b ws.length d) (.slice e0 ms.length f) (.int .i64 q) := by rw [hA]; exact c4_new _ _ _ _ _ _
    exact (this.below hb1).below hb3
  have hnone : ActsOwn A3 A2.heap.size (.slice (some ⟨A2.heap.size, 0, none⟩) 0 0) [] := by
    rw [hA3]; exact World.ownsRow_made A2 #[] 0 (Nat.le_refl _) (Nat.zero_le _) rfl
  have HFO := hide (specFtlOk_any a b e0 ps ws ms c d f q A3 (hp.below hb23) (hw.below hb23) (hms.below hb23) hl hm hn hs)
  have HRD := hide (And.intro (hp.below hb23) (And.intro (hw.below hb23) (And.intro (hms.below hb23) (hd.below hb23))))
  have HB2 := hide (And.intro hb2 hb3)
  have HK1 := hide k1
  have HK0 := hide k0
  have HNONE := hide hnone
  have HSA2 := hide hsA2
  have HLB := hide hLb
  have hR0 := hide hR
  obtain ⟨⟨x0, x1, x2, x3⟩, -⟩ := id k0
  clear hp hw hms hs hd hb0 hb1 hb2 hb3 hb23 k1 k0 hnone hLb hR
  clear hsA hsA2
  have hRF : Hid (∀ (V w5 : World) (vf : Value) (y0 y1 y2 y3 : Value) (va : Value) (cs : List (Int × Int × ByteArray)) (PS : List ByteArray) (WS MS : List Int) (Q : Int), Below A2.heap.size A2 w5 → ActsOwn w5 A2.heap.size va cs → FtlOwn w5 A2.heap.size vf PS WS MS Q → V = w5 → ∀ F : Bool, R = (cs, (PS, WS, MS, Q), F) → PlanIs w ((((V.setCell ⟨w.heap.size + 1, 0, none⟩ y0).setCell ⟨w.heap.size + 1, 1, none⟩ y1).setCell ⟨w.heap.size + 1, 2, none⟩ y2).setCell ⟨w.heap.size + 1, 3, none⟩ y3) (.returned (.tuple #[va, vf, .bool F])) R) := by
    intro V w5 vf y0 y1 y2 y3 va cs PS WS MS Q hb5 ha hf hV F hRe
    subst hV
    have h := plan_fin HB2.out.1 hb5 ⟨Nat.le_refl _, hb5.size⟩ HK1.out ha hf V 0 y0 y1 y2 y3 (Below.refl _ _)
    subst hRe
    exact ⟨va, vf, rfl, h.1, h.2.1, h.2.2⟩
  go_enter Tryz.func7, Tryz.ntmps7
  go_wp2_with fail
  rw [← hA]
  rw [← hA2]
  rw [← hA3]
  rw [← HSA2.out]
  clear hA hA2 hA3
  refine HFO.out.mono ?_
  rintro e w1 ⟨rfl, hbx⟩
  have HB1 := hide hbx
  clear HFO x0 x1 x2 x3
  cases hok : ftlOkB ps ws ms q with
  | false =>
    have hk := HK1.out.below (after HB2.out.2 hbx)
    obtain ⟨⟨y0, y1, y2, y3⟩, yf⟩ := id hk
    have yf0 := yf 0
    have yf1 := yf 1
    have yf2 := yf 2
    have yf3 := yf 3
    have hRe : R = ([], ([], [], [], 0), false) := by rw [hR0.out, commitR, if_neg (by rw [hok]; decide)]
    have HFI := hide (hRF.out w1 w1 (.agg #[.slice none 0 0, .slice none 0 0, .slice none 0 0, .int .i64 0]) (.slice none 0 0) (.slice none 0 0) (.slice none 0 0) (.int .i64 0) _ [] [] [] [] 0 (after HB2.out.2 hbx) (HNONE.out.below hbx) (ftlOwn_zero _ _) rfl false hRe)
    clear hbx yf hk hok
    go_wp2
    exact bodyPost_ret (v := .tuple #[.slice (some ⟨A2.heap.size, 0, none⟩) 0 0, .agg #[.slice none 0 0, .slice none 0 0, .slice none 0 0, .int .i64 0], .bool false]) (by simp [results, Tryz.results7, go_sem, y0, y1, y2, y3]) rfl HFI.out
  | true =>
    obtain ⟨hch, hmm, hqq⟩ := ftlOk_parts hok
    have HCP : Hid (∀ u, Below A3.heap.size A3 u → Calls Tryz.prog 27 #[.agg #[.slice a ps.length c, .slice b ws.length d, .slice e0 ms.length f, .int .i64 q]] u fun e w' => ∃ a b e0 c d f, e = .returned (.agg #[.slice a ps.length c, .slice b ws.length d, .slice e0 ms.length f, .int .i64 q]) ∧ FtlOwn w' u.heap.size (.agg #[.slice a ps.length c, .slice b ws.length d, .slice e0 ms.length f, .int .i64 q]) ps ws ms q ∧ Below u.heap.size u w') := by
      intro u hu2
      refine (copy4_any a b e0 ps ws ms c d f q u (HRD.out.1.below hu2) (HRD.out.2.1.below hu2) (HRD.out.2.2.1.below hu2) hch.1 hch.2.1 (by rw [← hmm]; exact mMap_len ps)).mono ?_
      rintro e w' ⟨v, rfl, hf, hb⟩
      obtain ⟨a1, c1, b1, d1, e1, f1, rfl⟩ := hf.shape
      exact ⟨_, _, _, _, _, _, rfl, hf, hb⟩
    -- 'return none, l4Copy(f), false', wherever
    have HBK : Hid (∀ u, Below A3.heap.size A3 u → ftlOkB ps ws ms q = true → commitX ps ws L = none → R = ([], (ps, ws, ms, q), false)) := by
      intro u _ h1 h2
      rw [hR0.out, commitR, if_pos h1, h2]
    have HOK := hide hok
    have HXC : Hid (∀ u, Below A3.heap.size A3 u → u.cell? ⟨w.heap.size, 0, none⟩ = some (.slice a ps.length c) ∧ u.cell? ⟨w.heap.size, 1, none⟩ = some (.slice b ws.length d) ∧ u.cell? ⟨w.heap.size, 2, none⟩ = some (.slice e0 ms.length f) ∧ u.cell? ⟨w.heap.size, 3, none⟩ = some (.int .i64 q)) := fun u hu => (HK0.out.below hu).1
    have HY : Hid (∀ u, Below A3.heap.size A3 u → C4 u (w.heap.size + 1) (.slice none 0 0) (.slice none 0 0) (.slice none 0 0) (.int .i64 0)) := fun u hu => HK1.out.below (after HB2.out.2 hu)
    obtain ⟨x0, x1, x2, x3⟩ := HXC.out w1 hbx
    obtain ⟨T, hT⟩ : ∃ T, T = logT L := ⟨_, rfl⟩
    have HLT := hide (specLogText_any la L lc w1 (HRD.out.2.2.2.below hbx) hLn (fun x hx => ⟨by have := (HLB.out x hx).1; unfold maxLen; omega, (HLB.out x hx).2⟩))
    rw [← hT] at HLT
    have HL4 : Hid (∀ u, Below A3.heap.size A3 u → Calls Tryz.prog 26 #[.agg #[.slice a ps.length c, .slice b ws.length d, .slice e0 ms.length f, .int .i64 q], .int .i64 24] u fun e w' => e = .returned (.string (secD ps 24)) ∧ Below u.heap.size u w') := by
      intro u hu
      have h3 := HRD.out.2.2.1.below hu
      rw [← hmm] at h3 ⊢
      exact specSec_any a e0 (.slice b ws.length d) ps c f 24 q u (HRD.out.1.below hu) h3 hch.1 (by decide) (fun s h => by have := hch.2.2.1 s h; omega)
    obtain ⟨D, hD⟩ : ∃ D, D = secD ps 24 := ⟨_, rfl⟩
    rw [← hD] at HL4
    have HNO : Hid (commitX ps ws L = none → R = ([], (ps, ws, ms, q), false)) := fun h => HBK.out w1 hbx hok h
    have HXN : Hid (T = ByteArray.empty ∨ D ≠ ByteArray.empty → commitX ps ws L = none) := fun h => by rw [commitX, if_pos (by rw [← hT, ← hD]; exact h)]
    have HXY : Hid (T ≠ ByteArray.empty → D = ByteArray.empty → commitX ps ws L = pWritesL ((24, T) :: (L ++ [(24, ByteArray.empty)])) ps ws) := fun h1 h2 => by rw [commitX, if_neg (by rw [← hT, ← hD]; rintro (h | h); exact h1 h; exact h h2), hT]
    have HL3 : Hid (T ≠ ByteArray.empty → L.length ≤ 3 ∧ T.size ≤ 400) := fun h => ⟨(logT_some (L := L) (by rw [← hT]; exact h)).1.1, by rw [hT]; exact logT_size L⟩
    clear hT hD hok hch hmm hqq HBK x0 x1 x2 x3
    go_wp2_with fail
    refine HLT.out.mono ?_
    rintro e w2 ⟨rfl, hb2⟩
    have HB2' := hide (after HB1.out hb2)
    obtain ⟨x0, x1, x2, x3⟩ := HXC.out w2 HB2'.out
    clear HLT hb2 hbx
    by_cases h0 : T = ByteArray.empty
    · have hem : T.toList.isEmpty = true := by rw [h0, ByteArray.toList_eq]; rfl
      have HRE := hide (HNO.out (HXN.out (.inl h0)))
      clear h0 HXN HXY HL3 HL4
      go_wp2_with fail
      refine (HCP.out w2 HB2'.out).mono ?_
      rintro e w3 ⟨a2, b2, e2, c2, d2, f2, rfl, hf2, hb3⟩
      have hB := after HB2'.out hb3
      obtain ⟨⟨y0, y1, y2, y3⟩, yf⟩ := HY.out w3 hB
      have yf0 := yf 0
      have yf1 := yf 1
      have yf2 := yf 2
      have yf3 := yf 3
      have HFI := hide (hRF.out w3 w3 (.agg #[.slice a2 ps.length c2, .slice b2 ws.length d2, .slice e2 ms.length f2, .int .i64 q]) (.slice a2 ps.length c2) (.slice b2 ws.length d2) (.slice e2 ms.length f2) (.int .i64 q) _ [] ps ws ms q (after HB2.out.2 hB) (HNONE.out.below hB) (ftlOwn_mono hf2 (Nat.le_trans HB2.out.2.size HB2'.out.size)) rfl false HRE.out)
      clear hf2 hb3 hB yf x0 x1 x2 x3 HXC HY HCP
      go_wp2
      exact bodyPost_ret (v := .tuple #[.slice (some ⟨A2.heap.size, 0, none⟩) 0 0, .agg #[.slice a2 ps.length c2, .slice b2 ws.length d2, .slice e2 ms.length f2, .int .i64 q], .bool false]) (by simp [results, Tryz.results7, go_sem, y0, y1, y2, y3]) rfl HFI.out
    · have hem := isEmpty_str h0
      have HT0 := hide h0
      clear h0
      go_wp2_with fail
      refine (HL4.out w2 HB2'.out).mono ?_
      rintro e w4 ⟨rfl, hb4⟩
      have HB4 := hide (after HB2'.out hb4)
      clear x0 x1 x2 x3 hb4 HL4
      obtain ⟨x0, x1, x2, x3⟩ := HXC.out w4 HB4.out
      by_cases h1 : D = ByteArray.empty
      · have hem1 : D.toList.isEmpty = true := by rw [h1, ByteArray.toList_eq]; rfl
        have HX := hide (HXY.out HT0.out h1)
        obtain ⟨hl3, hts⟩ := HL3.out HT0.out
        clear h1 HXN HXY HL3 HCP HNO
        obtain ⟨i2, hi2, hz0, hz1, hz2⟩ := info_parts infoPut
        obtain ⟨M, hM⟩ : ∃ M, M = (24, T) :: (L ++ [(24, ByteArray.empty)]) := ⟨_, rfl⟩
        rw [← hM] at HX
        have HME : Hid (M = [(24, T)] ++ L ++ [(24, ByteArray.empty)]) := by show _ = _; rw [hM]; rfl
        have HML : Hid (M.length ≤ 1048576) := by show M.length ≤ _; rw [hM]; simp; omega
        have HMB : Hid (∀ x ∈ M, x.2.size ≤ 1048576 ∧ -9223372036854775808 ≤ x.1 ∧ x.1 ≤ 9223372036854775807) := fun x hx => by
          rw [hM] at hx
          simp only [List.mem_cons, List.mem_append, List.not_mem_nil, or_false] at hx
          rcases hx with rfl | hx | rfl
          · exact ⟨by show T.size ≤ _; omega, by show (-9223372036854775808 : Int) ≤ 24; decide, by show (24 : Int) ≤ _; decide⟩
          · exact HLB.out x hx
          · exact ⟨by decide, by decide, by decide⟩
        have HRL := hide (HRD.out.2.2.2.below HB4.out)
        obtain ⟨N, hN⟩ : ∃ N, N = w4.heap.size := ⟨_, rfl⟩
        have HN := hide hN
        obtain ⟨U, hU⟩ : ∃ U, U = w4.alloc (Obj.cells #[.int .i64 24, .string T] 58) := ⟨_, rfl⟩
        have HUE := hide hU
        have hbU : Below w4.heap.size w4 U := by rw [hU]; exact (Below.refl _ _).alloc (Nat.le_refl _) _
        have hUo : U.ownsRow w4.heap.size 58 2 (.slice (some ⟨w4.heap.size, 0, none⟩) 1 1) 1 (vsPut [(24, T)]) := by
          rw [hU]; exact World.ownsRow_lit w4 #[.int .i64 24, .string T] 1 (Nat.le_refl _) (by unfold maxLen; omega) rfl
        have hsU : w4.heap.size ≤ U.heap.size := hbU.size
        have HBU := hide (after HB4.out hbU)
        have HRU := hide (HRL.out.below hbU)
        have HVL : Hid ((vsPut L).length = L.length * 2) := vsPut_len L
        clear hM hN hbU HRL
        have hl1 : 1 + L.length ≤ 4 := by omega
        go_wp2_with (first
          | (rw [← hU]; clear hU)
          | (at_builtin; refine wpList_append_rd rfl (.tmp 34) (.tmp 35) 38 rfl w4.heap.size 58 i2 (.agg #[.int .i64 0, .string ⟨#[]⟩]) 2 24 Tryz.underlying38 hi2 hz0 hz1 hz2 rfl (by decide) _ _ _ rfl hUo la L.length lc (vsPut L) rfl HRU.out HVL.out (vsPut_one L) (by unfold maxLen; omega) (by omega) hsU ?_; intro v5 w5 ho5 hg5; have hs5 : w4.heap.size ≤ w5.heap.size := Nat.le_trans hsU hg5.size)
          | (at_builtin; refine wpList_append_row (w0 := w5) rfl (.tmp 37) (.tmp 39) 38 rfl w4.heap.size 58 i2 (.agg #[.int .i64 0, .string ⟨#[]⟩]) 2 24 Tryz.underlying38 hi2 hz0 hz1 hz2 rfl (by decide) _ _ _ [.int .i64 24, .string ⟨#[]⟩] rfl ho5 rfl (put_one _ _) rfl (by omega) (by omega) hs5 rfl ?_; intro v6 w6 ho6 hg6; have hb6 : Below w4.heap.size w4 w6 := (((Below.refl _ _).alloc (Nat.le_refl _) (Obj.cells #[.int .i64 24, .string T] 58)).trans (by rw [← HUE.out]; exact (grown_below hUo hg5 hsU).trans (grown_below ho5 hg6 hs5))); obtain ⟨x0, x1, x2, x3⟩ := HXC.out w6 (after HB4.out hb6)))
        have HB6 := hide (after HB4.out hb6)
        have ho6' : PutsOwn w6 w4.heap.size v6 M := by
          show World.ownsRow _ _ _ _ _ _ _
          rw [HME.out, List.length_append, List.length_append, vsPut_app, vsPut_app]
          exact ho6
        obtain ⟨a6, c6, rfl⟩ := ho6'.shape
        have hrM : Rd w6 a6 (vsPut M) := rd_of_ownN ho6'
        obtain ⟨RR, hRR⟩ : ∃ RR, RR = writesR ps ws ms q M := ⟨_, rfl⟩
        have HRR : Hid (R = RR) := by
          show _ = _
          rw [hR0.out, hRR, commitR, writesR, if_pos HOK.out, if_pos HOK.out, HX.out]
          cases pWritesL M ps ws <;> rfl
        have HSZ : Hid (∀ s ∈ ps, s.size ≤ 1048576) := fun s h => by have := (ftlOk_parts HOK.out).1.2.2.1 s h; omega
        have HWR := hide (specWrites_fn a b e0 ps ws ms c d f c6 a6 q M w6 (HRD.out.1.below HB6.out) (HRD.out.2.1.below HB6.out) (HRD.out.2.2.1.below HB6.out) hl hm hn HSZ.out HML.out HMB.out hrM)
        rw [← hRR] at HWR
        clear hRR ho5 hg5 ho6 hg6 ho6' hrM hb6 hUo HRU HBU hs5 hsU
        refine HWR.out.mono ?_
        rintro e w7 ⟨va, vf, rfl, hva, hvf, hb7⟩
        obtain ⟨a7, k7, rfl⟩ := owns3_shape hva
        obtain ⟨a8, c8, b8, d8, e8, f8, rfl⟩ := hvf.shape
        obtain ⟨V, hV⟩ : ∃ V, V = w7.alloc (Obj.cells #[.slice a8 RR.2.1.1.length c8, .slice b8 RR.2.1.2.1.length d8, .slice e8 RR.2.1.2.2.1.length f8, .int .i64 RR.2.1.2.2.2] 34) := ⟨_, rfl⟩
        have hbV : Below w7.heap.size w7 V := by rw [hV]; exact (Below.refl _ _).alloc (Nat.le_refl _) _
        have hG : C4 V w7.heap.size (.slice a8 RR.2.1.1.length c8) (.slice b8 RR.2.1.2.1.length d8) (.slice e8 RR.2.1.2.2.1.length f8) (.int .i64 RR.2.1.2.2.2) := by rw [hV]; exact c4_new _ _ _ _ _ _
        have hB := after HB6.out (after hb7 hbV)
        obtain ⟨⟨y0, y1, y2, y3⟩, yf⟩ := HY.out V hB
        have yf0 := yf 0
        have yf1 := yf 1
        have yf2 := yf 2
        have yf3 := yf 3
        have hlo : A2.heap.size ≤ w6.heap.size := Nat.le_trans HB2.out.2.size HB6.out.size
        have HFI := hide (fun n : Nat => hRF.out (V.drewN n) (V.drewN n) (.agg #[.slice a8 RR.2.1.1.length c8, .slice b8 RR.2.1.2.1.length d8, .slice e8 RR.2.1.2.2.1.length f8, .int .i64 RR.2.1.2.2.2]) (.slice a8 RR.2.1.1.length c8) (.slice b8 RR.2.1.2.1.length d8) (.slice e8 RR.2.1.2.2.1.length f8) (.int .i64 RR.2.1.2.2.2) (.slice a7 RR.1.length k7) RR.1 RR.2.1.1 RR.2.1.2.1 RR.2.1.2.2.1 RR.2.1.2.2.2 (after_drew (after HB2.out.2 hB) n) (show ActsOwn (V.drewN n) A2.heap.size _ RR.1 from owns_mono (owns_below hva (after_drew hbV n)) hlo) (show FtlOwn (V.drewN n) A2.heap.size _ RR.2.1.1 RR.2.1.2.1 RR.2.1.2.2.1 RR.2.1.2.2.2 from ftlOwn_mono (hvf.below (after_drew hbV n)) hlo) rfl RR.2.2 HRR.out)
        have m3 : w.heap.size + 1 ≠ w7.heap.size := by have := HSA2.out; have := hb7.size; omega
        have hS4 := hG.1
        obtain ⟨g0, g1, g2, g3⟩ := id hS4
        clear hva hvf hb7 hbV hG hB yf hlo HWR x0 x1 x2 x3 HXC
        generalize hg : w7.heap.size = G at g0 g1 g2 g3 m3 hS4 ⊢
        go_wp2_with fail
        rw [← hV]
        clear hV
        go_region_held (fun u => u.cell? ⟨G, 0, none⟩ = some (.slice a8 RR.2.1.1.length c8) ∧ u.cell? ⟨G, 1, none⟩ = some (.slice b8 RR.2.1.2.1.length d8) ∧ u.cell? ⟨G, 2, none⟩ = some (.slice e8 RR.2.1.2.2.1.length f8) ∧ u.cell? ⟨G, 3, none⟩ = some (.int .i64 RR.2.1.2.2.2))
          (first | assumption | go_keep | exact ⟨cell_other (cell_other (cell_other (cell_other hS4.1 m3) m3) m3) m3, cell_other (cell_other (cell_other (cell_other hS4.2.1 m3) m3) m3) m3, cell_other (cell_other (cell_other (cell_other hS4.2.2.1 m3) m3) m3) m3, cell_other (cell_other (cell_other (cell_other hS4.2.2.2 m3) m3) m3) m3⟩)
          (fail)
        go_wp2
        exact bodyPost_ret (v := .tuple #[.slice a7 RR.1.length k7, .agg #[.slice a8 RR.2.1.1.length c8, .slice b8 RR.2.1.2.1.length d8, .slice e8 RR.2.1.2.2.1.length f8, .int .i64 RR.2.1.2.2.2], .bool RR.2.2]) (by simp [results, Tryz.results7, go_sem, y0, y1, y2, y3]) rfl (HFI.out _)
      · have hem1 := isEmpty_str h1
        have HRE := hide (HNO.out (HXN.out (.inr h1)))
        clear h1 HXN HXY HL3
        go_wp2_with fail
        refine (HCP.out w4 HB4.out).mono ?_
        rintro e w3 ⟨a2, b2, e2, c2, d2, f2, rfl, hf2, hb3⟩
        have hB := after HB4.out hb3
        obtain ⟨⟨y0, y1, y2, y3⟩, yf⟩ := HY.out w3 hB
        have yf0 := yf 0
        have yf1 := yf 1
        have yf2 := yf 2
        have yf3 := yf 3
        have HFI := hide (hRF.out w3 w3 (.agg #[.slice a2 ps.length c2, .slice b2 ws.length d2, .slice e2 ms.length f2, .int .i64 q]) (.slice a2 ps.length c2) (.slice b2 ws.length d2) (.slice e2 ms.length f2) (.int .i64 q) _ [] ps ws ms q (after HB2.out.2 hB) (HNONE.out.below hB) (ftlOwn_mono hf2 (Nat.le_trans HB2.out.2.size HB4.out.size)) rfl false HRE.out)
        clear hf2 hb3 hB yf x0 x1 x2 x3 HXC HY HCP
        go_wp2
        exact bodyPost_ret (v := .tuple #[.slice (some ⟨A2.heap.size, 0, none⟩) 0 0, .agg #[.slice a2 ps.length c2, .slice b2 ws.length d2, .slice e2 ms.length f2, .int .i64 q], .bool false]) (by simp [results, Tryz.results7, go_sem, y0, y1, y2, y3]) rfl HFI.out
end Go.Proofs.YtdicjbabnknjhaaGreat

namespace Go.Proofs.YtdicjbabnknjhaaGreat
open Go.RowKit

theorem writesL_bd {M : List (Int × ByteArray)} {ps : List ByteArray} {ws : List Int} {r : List ByteArray × List Int × List (Int × Int × ByteArray)} (hch : chipOkP ps ws) (hr : pWritesL M ps ws = some r) : chipOkP r.1 r.2.1 ∧ r.2.2.length ≤ 12568 := by
  have h8 : ¬ 8 < M.length := by intro h; rw [pWritesL, if_pos h] at hr; cases hr
  rw [pWritesL, if_neg h8] at hr
  obtain ⟨h1, h2⟩ := pWrites_right M ps ws [] r hch hr
  rw [List.length_nil] at h2
  exact ⟨h1, by omega⟩
theorem commitR_len (ps : List ByteArray) (ws ms : List Int) (q : Int) (L : List (Int × ByteArray)) : (commitR ps ws ms q L).1.length ≤ 20000 ∧ (commitR ps ws ms q L).2.1.1.length ≤ 20000 ∧ (commitR ps ws ms q L).2.1.2.1.length ≤ 20000 ∧ (commitR ps ws ms q L).2.1.2.2.1.length ≤ 20000 := by
  unfold commitR
  split
  · next hok =>
    obtain ⟨hch, hmm, -⟩ := ftlOk_parts hok
    split
    · exact ⟨Nat.zero_le _, by show ps.length ≤ _; rw [hch.1]; decide, by show ws.length ≤ _; rw [hch.2.1]; decide, by show ms.length ≤ _; rw [← hmm, mMap_len]; decide⟩
    · next r hr =>
      have hb : chipOkP r.1 r.2.1 ∧ r.2.2.length ≤ 12568 := by
        unfold commitX at hr
        split at hr
        · cases hr
        · exact writesL_bd hch hr
      exact ⟨by show r.2.2.length ≤ _; omega, by show r.1.length ≤ _; rw [hb.1.1]; decide, by show r.2.1.length ≤ _; rw [hb.1.2.1]; decide, by show (mMap r.1).length ≤ _; rw [mMap_len]; decide⟩
  · exact ⟨by decide, by decide, by decide, by decide⟩

theorem fnExactCommit_both (ps : List ByteArray) (ws ms : List Int) (q : Int) (L : List (Int × ByteArray)) (hk0 : ps.length ≤ 1048576) (hk1 : ws.length ≤ 1048576) (hk2 : ms.length ≤ 1048576) (hkL : L.length ≤ 1048576) (hsL : ∀ x ∈ L, x.2.size ≤ 1048576) (hwL : ∀ x ∈ L, (Lit.int .i64 x.1).wf = true) (hs : ∀ s ∈ ps, s.size ≤ 1048576) (_hq : (Lit.int .i64 q).wf = true) :
    ∃ (G0cs : List (Int × Int × ByteArray)) (G1ps : List ByteArray) (G1ws : List Int) (G1ms : List Int) (G1q : Int) (S2 : Bool), (G0cs.length ≤ 20000 ∧ G1ps.length ≤ 20000 ∧ G1ws.length ≤ 20000 ∧ G1ms.length ≤ 20000) ∧ Hid (∀ (u : World) (v v2 : Value), FtlRd u v ps ws ms q → PutsRd u v2 L → Calls Tryz.prog 7 #[v, v2] u fun e w' => ∃ v0 v1, e = .returned (.tuple #[v0, v1, .bool S2]) ∧ (ActsOwn w' u.heap.size v0 G0cs ∧ FtlOwn w' u.heap.size v1 G1ps G1ws G1ms G1q) ∧ Below u.heap.size u w') ∧ Hid (∀ (u : World) (v v2 : Value), FtlRd u v ps ws ms q → PutsRd u v2 L → Calls Tryz.prog 10 #[v, v2] u fun e w' => ∃ v0 v1, e = .returned (.tuple #[v0, v1, .bool S2]) ∧ (ActsOwn w' u.heap.size v0 G0cs ∧ FtlOwn w' u.heap.size v1 G1ps G1ws G1ms G1q) ∧ Below u.heap.size u w') := by
  have hb : ∀ x ∈ L, x.2.size ≤ 1048576 ∧ -9223372036854775808 ≤ x.1 ∧ x.1 ≤ 9223372036854775807 := fun x hx => ⟨hsL x hx, (bounds_i64 (hwL x hx)).1, (bounds_i64 (hwL x hx)).2⟩
  refine ⟨(commitR ps ws ms q L).1, (commitR ps ws ms q L).2.1.1, (commitR ps ws ms q L).2.1.2.1, (commitR ps ws ms q L).2.1.2.2.1, (commitR ps ws ms q L).2.1.2.2.2, (commitR ps ws ms q L).2.2, commitR_len _ _ _ _ _, ?_, ?_⟩
  · rintro u v v2 ⟨a, c, b, d, e, f, rfl, h1, h2, h3⟩ ⟨la, lc, rfl, h4⟩
    refine (specCommit_fn a b e ps ws ms c d f lc la q L u h1 h2 h3 hk0 hk1 hk2 hs hkL hb h4).mono ?_
    rintro e w' ⟨va, vf, rfl, ha, hf, hb⟩
    exact ⟨va, vf, rfl, ⟨ha, hf⟩, hb⟩
  · rintro u v v2 ⟨a, c, b, d, e, f, rfl, h1, h2, h3⟩ ⟨la, lc, rfl, h4⟩
    refine (implCommit_fn a b e ps ws ms c d f lc la q L u h1 h2 h3 hk0 hk1 hk2 hs hkL (fun x hx => ⟨by have := (hb x hx).1; unfold maxLen; omega, (hb x hx).2⟩) h4).mono ?_
    rintro e w' ⟨va, vf, rfl, ha, hf, hb⟩
    exact ⟨va, vf, rfl, ⟨ha, hf⟩, hb⟩
end Go.Proofs.YtdicjbabnknjhaaGreat
