/-
  Contracts of both Views; the laws' helpers over rows of texts.
-/
import Derived.Test.YtghlnagainodaaaImplSector
namespace Go.Proofs.Ytghlnagainodaaa
open Go.RowKit

/-- What each sector of a chip that is right has. -/
def viewU (ps : List ByteArray) : List ByteArray := (List.range 26).map fun (s : Nat) => secD ps ((s : Nat) : Int)
theorem viewU_len (ps : List ByteArray) : (viewU ps).length = 26 := by simp [viewU]
theorem viewU_at (ps : List ByteArray) {k : Nat} (h : k < 26) : (viewU ps)[k]? = some (secD ps (k : Int)) := by simp [viewU, h]
/-- View of whatever came in. -/
def viewOf (ps : List ByteArray) (ws ms : List Int) (q : Int) : List ByteArray := if ftlOkB ps ws ms q = true then viewU ps else []
theorem viewOf_len (ps : List ByteArray) (ws ms : List Int) (q : Int) : (viewOf ps ws ms q).length ≤ 1000 := by
  unfold viewOf
  split
  · rw [viewU_len]; decide
  · simp

/-! Rows of texts. -/
def StrsRd (w : World) (v : Value) (xs : List ByteArray) : Prop := ∃ a c, v = .slice a xs.length c ∧ Rd w a (vsString xs)
def StrsOwn (w : World) (base : Nat) (v : Value) (xs : List ByteArray) : Prop := w.ownsRow base 9 1 v xs.length (vsString xs)
def StrsMk (w : World) (base : Nat) (v : Value) (n q : Nat) : Prop := w.ownsRow base 9 1 v n (marksT q n)
theorem StrsOwn.shape {u : World} {base : Nat} {v : Value} {xs : List ByteArray} (h : StrsOwn u base v xs) : ∃ a c, v = .slice a xs.length c := owns_shape h
theorem StrsOwn.rd {u : World} {base : Nat} {v : Value} {xs : List ByteArray} (h : StrsOwn u base v xs) : StrsRd u v xs := by
  obtain ⟨a, c, rfl⟩ := h.shape
  exact ⟨a, c, rfl, rd_of_own h⟩
theorem StrsRd.below {u u' : World} {v : Value} {xs : List ByteArray} (h : StrsRd u v xs) (hb : Below u.heap.size u u') : StrsRd u' v xs := by
  obtain ⟨a, c, rfl, h1⟩ := h
  exact ⟨a, c, rfl, h1.below hb⟩
theorem StrsOwn.below {u u' : World} {base : Nat} {v : Value} {xs : List ByteArray} (h : StrsOwn u base v xs) (hb : Below u.heap.size u u') : StrsOwn u' base v xs := owns_below h hb
theorem StrsMk.below {u u' : World} {base : Nat} {v : Value} {n q : Nat} (h : StrsMk u base v n q) (hb : Below u.heap.size u u') : StrsMk u' base v n q := owns_below h hb
theorem StrsOwn.only {u u' : World} {base : Nat} {v : Value} {xs : List ByteArray} {L : List (Option Nat)} (h : StrsOwn u base v xs) (hO : OnlyIn u u' L) (hn : ∀ k, some k ∈ bk v → some k ∉ L) : StrsOwn u' base v xs := by
  obtain ⟨a, c, rfl⟩ := h.shape
  exact hO.owns h (fun k hk => hn k (by rw [bk_slice, hk]; simp))
theorem StrsMk.only {u u' : World} {base : Nat} {v : Value} {n q : Nat} {L : List (Option Nat)} (h : StrsMk u base v n q) (hO : OnlyIn u u' L) (hn : ∀ k, some k ∈ bk v → some k ∉ L) : StrsMk u' base v n q := by
  obtain ⟨a, c, rfl⟩ := owns_shape h
  exact hO.owns h (fun k hk => hn k (by rw [bk_slice, hk]; simp))
theorem StrsOwn.blk {u : World} {base : Nat} {v : Value} {xs : List ByteArray} (h : StrsOwn u base v xs) {k : Nat} (hk : some k ∈ bk v) : base ≤ k ∧ k < u.heap.size := by
  obtain ⟨a, c, rfl⟩ := h.shape
  rw [bk_slice] at hk
  simp only [List.mem_cons, List.not_mem_nil, or_false] at hk
  exact World.ownsRow.lt h k hk.symm
theorem strs_eq {u : World} {v v' : Value} {xs : List ByteArray} (h : StrsRd u v xs) (h' : StrsRd u v' xs) (hl : xs.length ≤ 1048576) :
    Calls Try.prog 10 #[v, v'] u fun e w' => e = .returned (.bool true) ∧ Below u.heap.size u w' := by
  obtain ⟨a, c, rfl, h1⟩ := h
  obtain ⟨a', c', rfl, h1'⟩ := h'
  refine (eqStringS_any a a' xs xs c c' u h1 h1' (by omega) (by omega)).mono ?_
  rintro e w' ⟨rfl, n, rfl⟩
  exact ⟨ret_bool (by simp), after_drew (Below.refl _ _) n⟩
theorem strs_mark {u : World} {base : Nat} {v : Value} {xs : List ByteArray} {q : Nat} (h : StrsOwn u base v xs) (hl : xs.length ≤ 1048576) (hq0 : 0 < q) (hq : q ≤ 1000000) :
    Calls Try.prog 13 #[v, .int .i64 q] u fun e w' => e = .returned (.int .i64 ((q + xs.length : Nat) : Int)) ∧ StrsMk w' base v xs.length q ∧ OnlyIn u w' (bk v) := by
  obtain ⟨a, c, rfl⟩ := h.shape
  refine (markStringS_any (.slice a xs.length c) xs.length _ base q u h hl (by omega) hq0).mono ?_
  rintro e w' ⟨rfl, k1, hg⟩
  exact ⟨rfl, k1, OnlyIn.of_grown hg⟩
theorem strs_held {u : World} {base : Nat} {v : Value} {n q : Nat} (h : StrsMk u base v n q) (hl : n ≤ 1048576) (hq0 : 0 < q) (hq : q ≤ 1000000) :
    Calls Try.prog 14 #[v, .int .i64 q] u fun e w' => e = .returned (.int .i64 ((q + n : Nat) : Int)) ∧ Below u.heap.size u w' :=
  heldStringS_any v n base q u h hl (by omega) hq0

/-- What l4Sector answers of a chip that is right. -/
theorem specSec_any (a e0 : Option Addr) (p1 : Value) (ps : List ByteArray) (c f S : Nat) (q : Int) (w : World) (hp : Rd w a (vsString ps)) (hms : Rd w e0 (vsInt (mMap ps))) (hch : ps.length = 60) (hS : S < 26) (hs : ∀ s ∈ ps, s.size ≤ 1048576) :
    Calls Try.prog 22 #[.agg #[.slice a ps.length c, p1, .slice e0 (mMap ps).length f, .int .i64 q], .int .i64 S] w fun e w' => e = .returned (.string (secD ps S)) ∧ Below w.heap.size w w' := by
  obtain ⟨o, ho, ho1, ho2⟩ := map_old (ps := ps) (k := 60) (s := S) hS
  have ho' : (mMap ps)[S]? = some o := ho
  have e : secD ps S = dataAt ps o := by rw [secD, if_pos (by omega), Int.toNat_natCast, ho']; rfl
  rw [e]
  by_cases hneg : o < 0
  · rw [dataAt, if_pos hneg]
    exact specSec_none _ _ e0 (mMap ps) f S _ o w hms ho' hS hneg
  · obtain ⟨p, rfl⟩ : ∃ p : Nat, o = p := ⟨o.toNat, by omega⟩
    rw [dataAt, if_neg hneg, Int.toNat_natCast]
    exact specSec_some a _ e0 ps (mMap ps) c f S p _ w hp hms ho' hS (by omega) (by omega) hs

set_option maxRecDepth 100000 in
set_option maxHeartbeats 3200000 in
theorem implView_any (a b e0 : Option Addr) (ps : List ByteArray) (ws ms : List Int) (c d f : Nat) (q : Int) (w : World) (hp : Rd w a (vsString ps)) (hw : Rd w b (vsInt ws)) (hms : Rd w e0 (vsInt ms)) (hl : ps.length ≤ 1048576) (hm : ws.length ≤ 1048576) (hn : ms.length ≤ 1048576) (hs : ∀ s ∈ ps, s.size ≤ 1048576) :
    Calls Try.prog 9 #[.agg #[.slice a ps.length c, .slice b ws.length d, .slice e0 ms.length f, .int .i64 q]] w fun e w' => ∃ v, e = .returned v ∧ StrsOwn w' w.heap.size v (viewOf ps ws ms q) ∧ Below w.heap.size w w' := by
  obtain ⟨R, hR⟩ : ∃ R, R = viewOf ps ws ms q := ⟨_, rfl⟩
  rw [← hR]
  obtain ⟨i0, hi, hz0, hz1, hz2⟩ := info_parts infoString
  obtain ⟨A, hA⟩ : ∃ A, A = w.alloc (Obj.cells #[.slice a ps.length c, .slice b ws.length d, .slice e0 ms.length f, .int .i64 q] 32) := ⟨_, rfl⟩
  have hbA : Below w.heap.size w A := by rw [hA]; exact (Below.refl _ _).alloc (Nat.le_refl _) _
  have xA : At A w.heap.size [.slice a ps.length c, .slice b ws.length d, .slice e0 ms.length f, .int .i64 q] := by rw [hA]; exact at_new w [.slice a ps.length c, .slice b ws.length d, .slice e0 ms.length f, .int .i64 q] _
  have x0 : A.cell? ⟨w.heap.size, 0, none⟩ = some (.slice a ps.length c) := xA.2 0 (by simp)
  have x1 : A.cell? ⟨w.heap.size, 1, none⟩ = some (.slice b ws.length d) := xA.2 1 (by simp)
  have x2 : A.cell? ⟨w.heap.size, 2, none⟩ = some (.slice e0 ms.length f) := xA.2 2 (by simp)
  have x3 : A.cell? ⟨w.heap.size, 3, none⟩ = some (.int .i64 q) := xA.2 3 (by simp)
  have HF := hide (implFtlOk_any a b e0 ps ws ms c d f q A (hp.below hbA) (hw.below hbA) (hms.below hbA) hl hm hn hs)
  cases hok : ftlOkB ps ws ms q with
  | false =>
    have HR : Hid (R = []) := by show _ = _; rw [hR, viewOf, if_neg (by simp [hok])]
    rw [hok] at HF
    clear hR hp hw hms hs hok
    go_enter Try.func9, Try.ntmps9
    go_wp2_with (first | (rw [← hA]; clear hA) | (go_at_call 25; refine HF.out.mono ?_; rintro e w1 ⟨rfl, hb1⟩; have HB1 := hide hb1; clear hb1))
    go_ret
    exact ⟨_, rfl, by rw [HR.out]; exact World.ownsRow_nil _ _ _ _, after hbA HB1.out⟩
  | true =>
    have HR : Hid (R = viewU ps) := by show _ = _; rw [hR, viewOf, if_pos hok]
    obtain ⟨hch, rfl, rfl⟩ := ftlOk_parts hok
    rw [hok] at HF
    have HSC : Hid (∀ (u : World) (k : Nat), Below A.heap.size A u → k < 26 → Calls Try.prog 26 #[.agg #[.slice a ps.length c, .slice b ws.length d, .slice e0 (mMap ps).length f, .int .i64 (mSeq ps)], .int .i64 k] u fun e w' => ∃ z, e = .returned (.string z) ∧ Hid ((viewU ps)[k]? = some z) ∧ Below u.heap.size u w') := by
      intro u k hu hk
      have hbu := after hbA hu
      exact (implSectorOf_any a e0 _ ps c f _ k u (hp.below hbu) (hms.below hbu) hch.1 hs).mono fun e w' h => ⟨_, h.1, viewU_at ps hk, h.2⟩
    have HVL : Hid ((viewU ps).length = 26) := viewU_len ps
    obtain ⟨V, hV⟩ : ∃ V, V = viewU ps := ⟨_, rfl⟩
    rw [← hV] at HR HSC HVL
    obtain ⟨M, hM⟩ : ∃ M, M = mMap ps := ⟨_, rfl⟩
    rw [← hM] at HF HSC xA x2 hA hn
    obtain ⟨Q, hQ⟩ : ∃ Q, Q = mSeq ps := ⟨_, rfl⟩
    rw [← hQ] at HF HSC xA x3 hA
    rw [← hM, ← hQ]
    have hv1 : 26 ≤ V.length ∧ V.length ≤ 26 := by have := HVL.out; omega
    clear hR hp hw hms hs hok hch hV hM hQ
    go_enter Try.func9, Try.ntmps9
    go_wp2_with fail
    rw [← hA]
    clear hA
    refine HF.out.mono ?_
    rintro e w1 ⟨rfl, hb1⟩
    have HB1 := hide hb1
    clear hb1 x0 x1 x2 x3
    go_wp2_with (at_make; refine wpList_make_full _ rfl _ _ 22 rfl w1.heap.size 9 i0 (Value.string ⟨#[]⟩) 1 Try.underlying22 hi hz0 hz1 .i64 .i64 26 26 26 rfl rfl rfl rfl (by rw [hz2]; decide) (by decide) (Nat.le_refl _) ?_; intro w2 hown hgrow)
    have hb2 : Below w1.heap.size w1 w2 := (Below.refl _ _).grown hgrow (Nat.le_refl _) (by simp)
    have hown1 : w2.ownsRow w1.heap.size 9 1 (.slice (some ⟨w1.heap.size, 0, none⟩) 26 26) 26 (halfString V 0) := by
      have e : (madeCells (Value.string ⟨#[]⟩).cells (26 * 1)).toList = halfString V 0 := by
        show (madeCells #[Value.string ⟨#[]⟩] (26 * 1)).toList = _
        rw [toList_madeCells_one]; simp [halfString, HVL.out]
      rw [← e]; exact hown
    clear hown hgrow
    go_loopw [11] (fun i wr => ∃ k : Nat, k ≤ 26 ∧ i = .int .i64 k ∧ wr.ownsRow w1.heap.size 9 1 (.slice (some ⟨w1.heap.size, 0, none⟩) 26 26) 26 (halfString V k) ∧ Below w1.heap.size w1 wr) (fun i _ => 26 - (intOf i).toNat)
    case atStart => exact ⟨0, Nat.zero_le _, rfl, hown1, hb2⟩
    case round =>
      obtain ⟨k, hk, rfl, hown, hbr⟩ := hrel
      have hbA1 := after HB1.out hbr
      by_cases hlt : k < 26
      · have y0 : wr.cell? ⟨w.heap.size, 0, none⟩ = some (.slice a ps.length c) := (xA.below hbA1).2 0 (by simp)
        have y1 : wr.cell? ⟨w.heap.size, 1, none⟩ = some (.slice b ws.length d) := (xA.below hbA1).2 1 (by simp)
        have y2 : wr.cell? ⟨w.heap.size, 2, none⟩ = some (.slice e0 M.length f) := (xA.below hbA1).2 2 (by simp)
        have y3 : wr.cell? ⟨w.heap.size, 3, none⟩ = some (.int .i64 Q) := (xA.below hbA1).2 3 (by simp)
        have hki : (k : Int) < 26 := by omega
        have HC := hide (HSC.out wr k hbA1 hlt)
        clear hbA1 hown1 hb2
        go_wp2_with fail
        refine HC.out.mono ?_
        rintro e u ⟨z, rfl, HZ, hbu⟩
        have hown1 := owns_below hown hbu
        have hbu1 := after hbr hbu
        have hfz := hown1.frozenAt k
        have hst := hown1.stored k (Value.string z)
        have hcell : ∃ x, u.cell? ⟨w1.heap.size, k, none⟩ = some x := by
          have h1 := hown1.cellAt k (by omega)
          have h2 : k < (halfString V k).length := by rw [hown1.1]; omega
          exact ⟨(halfString V k)[k], by rw [h1]; simp [h2]⟩
        obtain ⟨x, hcell⟩ := hcell
        have HO : Hid ((u.setCell ⟨w1.heap.size, k, none⟩ (Value.string z)).ownsRow w1.heap.size 9 1 (.slice (some ⟨w1.heap.size, 0, none⟩) 26 26) 26 (halfString V (k + 1)) ∧ Below w1.heap.size w1 (u.setCell ⟨w1.heap.size, k, none⟩ (Value.string z))) := by
          refine ⟨?_, hbu1.setCell (Nat.le_refl _) _⟩
          rw [← halfString_step HZ.out]
          exact hst.1
        clear hst hown hown1 hbr hbu hbu1 HC
        go_wp2
        go_roundw
        case rel => exact ⟨k + 1, by omega, by go_num, HO.out.1, HO.out.2⟩
        case measure => simp [intOf]; omega
      · obtain rfl : k = 26 := by omega
        have hki : ¬ ((26 : Nat) : Int) < 26 := by omega
        have HO : Hid (wr.ownsRow w1.heap.size 9 1 (.slice (some ⟨w1.heap.size, 0, none⟩) 26 26) V.length (vsString V)) := by
          have h : wr.ownsRow w1.heap.size 9 1 (.slice (some ⟨w1.heap.size, 0, none⟩) 26 26) 26 (halfString V 26) := hown
          have e1 : halfString V 26 = vsString V := by have := halfString_all V; rwa [HVL.out] at this
          rw [e1] at h
          rw [HVL.out]; exact h
        have HB := hide hbr
        clear hown hbr hbA1 hown1 hb2
        go_wp2
        go_ret
        exact ⟨_, rfl, by rw [HR.out]; exact owns_mono HO.out (by have := hbA.size; have := HB1.out.size; omega), after (after hbA HB1.out) HB.out⟩

set_option maxRecDepth 100000 in
set_option maxHeartbeats 3200000 in
theorem specView_any (a b e0 : Option Addr) (ps : List ByteArray) (ws ms : List Int) (c d f : Nat) (q : Int) (w : World) (hp : Rd w a (vsString ps)) (hw : Rd w b (vsInt ws)) (hms : Rd w e0 (vsInt ms)) (hl : ps.length ≤ 1048576) (hm : ws.length ≤ 1048576) (hn : ms.length ≤ 1048576) (hs : ∀ s ∈ ps, s.size ≤ 1048576) :
    Calls Try.prog 7 #[.agg #[.slice a ps.length c, .slice b ws.length d, .slice e0 ms.length f, .int .i64 q]] w fun e w' => ∃ v, e = .returned v ∧ StrsOwn w' w.heap.size v (viewOf ps ws ms q) ∧ Below w.heap.size w w' := by
  obtain ⟨R, hR⟩ : ∃ R, R = viewOf ps ws ms q := ⟨_, rfl⟩
  rw [← hR]
  obtain ⟨i0, hi, hz0, hz1, hz2⟩ := info_parts infoString
  obtain ⟨A, hA⟩ : ∃ A, A = w.alloc (Obj.cells #[.slice a ps.length c, .slice b ws.length d, .slice e0 ms.length f, .int .i64 q] 32) := ⟨_, rfl⟩
  have hbA : Below w.heap.size w A := by rw [hA]; exact (Below.refl _ _).alloc (Nat.le_refl _) _
  have xA : At A w.heap.size [.slice a ps.length c, .slice b ws.length d, .slice e0 ms.length f, .int .i64 q] := by rw [hA]; exact at_new w [.slice a ps.length c, .slice b ws.length d, .slice e0 ms.length f, .int .i64 q] _
  obtain ⟨n1, hn1⟩ : ∃ n1, n1 = A.heap.size := ⟨_, rfl⟩
  have hn1' : n1 = w.heap.size + 1 := by rw [hn1, hA]; simp
  obtain ⟨W, hW⟩ : ∃ W, W = A.alloc (Obj.cells #[] 9) := ⟨_, rfl⟩
  have hbW : Below A.heap.size A W := by rw [hW]; exact (Below.refl _ _).alloc (Nat.le_refl _) _
  have hW0 : W.ownsRow n1 9 1 (.slice (some ⟨n1, 0, none⟩) 0 0) 0 [] := by rw [hW, hn1]; exact World.ownsRow_made A #[] 0 (Nat.le_refl _) (Nat.zero_le _) rfl
  have HN1 := hide (And.intro hn1 hn1')
  have HF : Hid (∀ u, Below A.heap.size A u → Calls Try.prog 21 #[.agg #[.slice a ps.length c, .slice b ws.length d, .slice e0 ms.length f, .int .i64 q]] u fun e w' => e = .returned (.bool (ftlOkB ps ws ms q)) ∧ Below u.heap.size u w') := fun u hu =>
    specFtlOk_any a b e0 ps ws ms c d f q u (hp.below (after hbA hu)) (hw.below (after hbA hu)) (hms.below (after hbA hu)) hl hm hn hs
  cases hok : ftlOkB ps ws ms q with
  | false =>
    have HR : Hid (R = []) := by show _ = _; rw [hR, viewOf, if_neg (by simp [hok])]
    rw [hok] at HF
    have x0 : W.cell? ⟨w.heap.size, 0, none⟩ = some (.slice a ps.length c) := (xA.below hbW).2 0 (by simp)
    have x1 : W.cell? ⟨w.heap.size, 1, none⟩ = some (.slice b ws.length d) := (xA.below hbW).2 1 (by simp)
    have x2 : W.cell? ⟨w.heap.size, 2, none⟩ = some (.slice e0 ms.length f) := (xA.below hbW).2 2 (by simp)
    have x3 : W.cell? ⟨w.heap.size, 3, none⟩ = some (.int .i64 q) := (xA.below hbW).2 3 (by simp)
    clear hR hp hw hms hs hok hn1 hn1'
    go_enter Try.func7, Try.ntmps7
    go_wp2
    rw [← hA]
    rw [← hW]
    rw [← HN1.out.2]
    clear hA hW
    go_loopw [3, 4] (fun v i wr => v = .slice (some ⟨n1, 0, none⟩) 0 0 ∧ i = .int .i64 0 ∧ wr = W) (fun _ _ _ => 0)
    case atStart => exact ⟨rfl, rfl, rfl⟩
    case round =>
      obtain ⟨rfl, rfl, rfl⟩ := hrel
      have HC := hide (HF.out _ hbW)
      have HW0 := hide hW0
      clear hW0
      go_wp2_with (refine HC.out.mono ?_; rintro e u ⟨rfl, hu⟩; have HU := hide hu; clear hu)
      go_ret
      exact ⟨_, rfl, by rw [HR.out]; exact owns_mono (owns_below HW0.out HU.out) (by have := HN1.out.2; omega), after (after hbA hbW) HU.out⟩
  | true =>
    have HR : Hid (R = viewU ps) := by show _ = _; rw [hR, viewOf, if_pos hok]
    rw [hok] at HF
    obtain ⟨hch, rfl, rfl⟩ := ftlOk_parts hok
    have HSC : Hid (∀ (u : World) (k : Nat), Below A.heap.size A u → k < 26 → Calls Try.prog 22 #[.agg #[.slice a ps.length c, .slice b ws.length d, .slice e0 (mMap ps).length f, .int .i64 (mSeq ps)], .int .i64 k] u fun e w' => ∃ z, e = .returned (.string z) ∧ Hid ((viewU ps).take (k + 1) = (viewU ps).take k ++ [z]) ∧ Below u.heap.size u w') := by
      intro u k hu hk
      have hbu := after hbA hu
      refine (specSec_any a e0 _ ps c f k _ u (hp.below hbu) (hms.below hbu) hch.1 hk hs).mono fun e w' h => ⟨_, h.1, ?_, h.2⟩
      show _ = _
      rw [List.take_add_one, viewU_at ps hk]; rfl
    have HVL : Hid ((viewU ps).length = 26) := viewU_len ps
    obtain ⟨V, hV⟩ : ∃ V, V = viewU ps := ⟨_, rfl⟩
    rw [← hV] at HR HSC HVL
    obtain ⟨M, hM⟩ : ∃ M, M = mMap ps := ⟨_, rfl⟩
    rw [← hM] at HF HSC xA hA hn
    obtain ⟨Q, hQ⟩ : ∃ Q, Q = mSeq ps := ⟨_, rfl⟩
    rw [← hQ] at HF HSC xA hA
    rw [← hM, ← hQ]
    clear hR hp hw hms hs hok hch hV hM hQ hn1 hn1'
    go_enter Try.func7, Try.ntmps7
    go_wp2
    rw [← hA]
    rw [← hW]
    rw [← HN1.out.2]
    clear hA hW
    go_loopw [3, 4] (fun v i wr => ∃ k : Nat, k ≤ 26 ∧ i = .int .i64 k ∧ wr.ownsRow n1 9 1 v k (vsString (V.take k)) ∧ Below n1 A wr) (fun _ i _ => 26 - (intOf i).toNat)
    case atStart => exact ⟨0, Nat.zero_le _, rfl, hW0, by rw [HN1.out.1]; exact hbW⟩
    case round =>
      obtain ⟨k, hk, rfl, hown, hbr⟩ := hrel
      have hbr' : Below A.heap.size A wr := by rw [← HN1.out.1]; exact hbr
      have hsr : n1 ≤ wr.heap.size := by have := hbr'.size; have := HN1.out.1; omega
      have y0 : wr.cell? ⟨w.heap.size, 0, none⟩ = some (.slice a ps.length c) := (xA.below hbr').2 0 (by simp)
      have y1 : wr.cell? ⟨w.heap.size, 1, none⟩ = some (.slice b ws.length d) := (xA.below hbr').2 1 (by simp)
      have y2 : wr.cell? ⟨w.heap.size, 2, none⟩ = some (.slice e0 M.length f) := (xA.below hbr').2 2 (by simp)
      have y3 : wr.cell? ⟨w.heap.size, 3, none⟩ = some (.int .i64 Q) := (xA.below hbr').2 3 (by simp)
      by_cases hlt : k < 26
      · have q1 : (k : Int) < 26 := by omega
        go_wp2_with fail
        refine (HF.out wr hbr').mono ?_
        rintro e u1 ⟨rfl, hb1⟩
        have hb1' := after hbr' hb1
        have y0 : u1.cell? ⟨w.heap.size, 0, none⟩ = some (.slice a ps.length c) := (xA.below hb1').2 0 (by simp)
        have y1 : u1.cell? ⟨w.heap.size, 1, none⟩ = some (.slice b ws.length d) := (xA.below hb1').2 1 (by simp)
        have y2 : u1.cell? ⟨w.heap.size, 2, none⟩ = some (.slice e0 M.length f) := (xA.below hb1').2 2 (by simp)
        have y3 : u1.cell? ⟨w.heap.size, 3, none⟩ = some (.int .i64 Q) := (xA.below hb1').2 3 (by simp)
        have hown1 := owns_below hown hb1
        clear hown hb1 hbr hW0 hbW
        go_wp2_with fail
        refine (HSC.out u1 k hb1' hlt).mono ?_
        rintro e u2 ⟨z, rfl, HZ, hb2⟩
        have hb2' := after hb1' hb2
        have hown2 := owns_below hown1 hb2
        have HB2 := hide hb2'
        have hs2 : n1 ≤ u2.heap.size := by have := hb2'.size; have := HN1.out.1; omega
        clear hown1 hb1' hb2 hb2'
        go_wp2_with (at_builtin; go_must (refine wpList_append_one rfl _ _ 22 rfl n1 9 i0 (.string ⟨#[]⟩) 16 Try.underlying22 hi hz0 hz1 hz2 rfl _ _ _ (.string z) rfl hown2 rfl rfl (by omega) (by omega) hs2 rfl ?_); intro v' u3 hown' hb'; have HO := hide hown'; have HB := hide hb'; clear hown' hb')
        go_roundw
        case rel =>
          refine ⟨k + 1, by omega, by go_num, ?_, ?_⟩
          · have h := HO.out
            rw [HZ.out]; simpa [vsString] using h
          · have h := HB2.out
            rw [← HN1.out.1] at h
            exact h.trans HB.out
        case measure => simp [intOf]; omega
      · obtain rfl : k = 26 := by omega
        have q1 : ¬ ((26 : Nat) : Int) < 26 := by omega
        have HOWN := hide hown
        clear hown
        go_wp2
        go_ret
        refine ⟨_, rfl, ?_, hbA.trans (hbr'.mono hbA.size)⟩
        have h := HOWN.out
        have e1 : V.take 26 = V := List.take_of_length_le (by have := HVL.out; omega)
        rw [e1] at h
        rw [HR.out]
        show World.ownsRow _ _ _ _ _ V.length _
        rw [HVL.out]
        exact owns_mono h (by have := HN1.out.2; omega)

theorem fnExactView_both (ps : List ByteArray) (ws : List Int) (ms : List Int) (q : Int) (hk0 : ps.length ≤ 1048576) (hk1 : ws.length ≤ 1048576) (hk2 : ms.length ≤ 1048576) (hs : ∀ s ∈ ps, s.size ≤ 1048576) (_hq : (Lit.int .i64 q).wf = true) :
    ∃ (G0xs : List ByteArray), (G0xs.length ≤ 1000) ∧ Hid (∀ (u : World) (v : Value), FtlRd u v ps ws ms q → Calls Try.prog 7 #[v] u fun e w' => ∃ v0, e = .returned (v0) ∧ (StrsOwn w' u.heap.size v0 G0xs) ∧ Below u.heap.size u w') ∧ Hid (∀ (u : World) (v : Value), FtlRd u v ps ws ms q → Calls Try.prog 9 #[v] u fun e w' => ∃ v0, e = .returned (v0) ∧ (StrsOwn w' u.heap.size v0 G0xs) ∧ Below u.heap.size u w') := by
  refine ⟨viewOf ps ws ms q, viewOf_len _ _ _ _, ?_, ?_⟩
  · rintro u v ⟨a, c, b, d, e, f, rfl, h1, h2, h3⟩
    exact specView_any a b e ps ws ms c d f q u h1 h2 h3 hk0 hk1 hk2 hs
  · rintro u v ⟨a, c, b, d, e, f, rfl, h1, h2, h3⟩
    exact implView_any a b e ps ws ms c d f q u h1 h2 h3 hk0 hk1 hk2 hs

end Go.Proofs.Ytghlnagainodaaa
