/-
  Contracts of both Views; the laws' helpers over rows of texts.
  What is mounted hangs on the records of the pages alone: of each sector the first page with the greatest number.
  What the two Mounts answer, of any chip: the same.
-/
import Derived.Test.YtelbannfbglgcaaJMounted34
import Derived.Test.YtelbannfbglgcaaJMounted21
import Derived.Test.YtelbannfbglgcaaJMounted12
import Derived.Test.YtelbannfbglgcaaJMounted33
import Derived.Test.YtelbannfbglgcaaJMounted9
namespace Go.Proofs.Ytelbannfbglgcaa
open Go.RowKit

/-- What each sector of a chip that is right has. -/
def viewU (ps : List ByteArray) : List ByteArray := (List.range 26).map fun (s : Nat) => secD ps ((s : Nat) : Int)
theorem viewU_len (ps : List ByteArray) : (viewU ps).length = 26 := by simp [viewU]
theorem viewU_at (ps : List ByteArray) {k : Nat} (h : k < 26) : (viewU ps)[k]? = some (secD ps (k : Int)) := by simp [viewU, h]
/-- View of whatever came in. -/
def viewOf (ps : List ByteArray) (ws ms : List Int) (q : Int) : List ByteArray := if ftlOkB ps ws ms q = true then viewU ps else []
theorem viewOf_len (ps : List ByteArray) (ws ms : List Int) (q : Int) : (viewOf ps ws ms q).length ≤ 1000 := by
  unfold viewOf
  split
  · rw [viewU_len]; decide
  · simp

/-! Rows of texts. -/
def StrsRd (w : World) (v : Value) (xs : List ByteArray) : Prop := ∃ a c, v = .slice a xs.length c ∧ Rd w a (vsString xs)
def StrsOwn (w : World) (base : Nat) (v : Value) (xs : List ByteArray) : Prop := w.ownsRow base 9 1 v xs.length (vsString xs)
def StrsMk (w : World) (base : Nat) (v : Value) (n q : Nat) : Prop := w.ownsRow base 9 1 v n (marksT q n)
theorem StrsOwn.shape {u : World} {base : Nat} {v : Value} {xs : List ByteArray} (h : StrsOwn u base v xs) : ∃ a c, v = .slice a xs.length c := owns_shape h
theorem StrsOwn.rd {u : World} {base : Nat} {v : Value} {xs : List ByteArray} (h : StrsOwn u base v xs) : StrsRd u v xs := by
  obtain ⟨a, c, rfl⟩ := h.shape
  exact ⟨a, c, rfl, rd_of_own h⟩
theorem StrsRd.below {u u' : World} {v : Value} {xs : List ByteArray} (h : StrsRd u v xs) (hb : Below u.heap.size u u') : StrsRd u' v xs := by
  obtain ⟨a, c, rfl, h1⟩ := h
  exact ⟨a, c, rfl, h1.below hb⟩
theorem StrsOwn.below {u u' : World} {base : Nat} {v : Value} {xs : List ByteArray} (h : StrsOwn u base v xs) (hb : Below u.heap.size u u') : StrsOwn u' base v xs := owns_below h hb
theorem StrsMk.below {u u' : World} {base : Nat} {v : Value} {n q : Nat} (h : StrsMk u base v n q) (hb : Below u.heap.size u u') : StrsMk u' base v n q := owns_below h hb
theorem StrsOwn.only {u u' : World} {base : Nat} {v : Value} {xs : List ByteArray} {L : List (Option Nat)} (h : StrsOwn u base v xs) (hO : OnlyIn u u' L) (hn : ∀ k, some k ∈ bk v → some k ∉ L) : StrsOwn u' base v xs := by
  obtain ⟨a, c, rfl⟩ := h.shape
  exact hO.owns h (fun k hk => hn k (by rw [bk_slice, hk]; simp))
theorem StrsMk.only {u u' : World} {base : Nat} {v : Value} {n q : Nat} {L : List (Option Nat)} (h : StrsMk u base v n q) (hO : OnlyIn u u' L) (hn : ∀ k, some k ∈ bk v → some k ∉ L) : StrsMk u' base v n q := by
  obtain ⟨a, c, rfl⟩ := owns_shape h
  exact hO.owns h (fun k hk => hn k (by rw [bk_slice, hk]; simp))
theorem StrsOwn.blk {u : World} {base : Nat} {v : Value} {xs : List ByteArray} (h : StrsOwn u base v xs) {k : Nat} (hk : some k ∈ bk v) : base ≤ k ∧ k < u.heap.size := by
  obtain ⟨a, c, rfl⟩ := h.shape
  rw [bk_slice] at hk
  simp only [List.mem_cons, List.not_mem_nil, or_false] at hk
  exact World.ownsRow.lt h k hk.symm
/-- What l4Sector answers of a chip that is right. -/
theorem specSec_any (a e0 : Option Addr) (p1 : Value) (ps : List ByteArray) (c f S : Nat) (q : Int) (w : World) (hp : Rd w a (vsString ps)) (hms : Rd w e0 (vsInt (mMap ps))) (hch : ps.length = 60) (hS : S < 26) (hs : ∀ s ∈ ps, s.size ≤ 1048576) :
    Calls Try.prog 91 #[.agg #[.slice a ps.length c, p1, .slice e0 (mMap ps).length f, .int .i64 q], .int .i64 S] w fun e w' => e = .returned (.string (secD ps S)) ∧ Below w.heap.size w w' := by
  obtain ⟨o, ho, ho1, ho2⟩ := map_old (ps := ps) (k := 60) (s := S) hS
  have ho' : (mMap ps)[S]? = some o := ho
  have e : secD ps S = dataAt ps o := by rw [secD, if_pos (by omega), Int.toNat_natCast, ho']; rfl
  rw [e]
  by_cases hneg : o < 0
  · rw [dataAt, if_pos hneg]
    exact specSec_none _ _ e0 (mMap ps) f S _ o w hms ho' hS hneg
  · obtain ⟨p, rfl⟩ : ∃ p : Nat, o = p := ⟨o.toNat, by omega⟩
    rw [dataAt, if_neg hneg, Int.toNat_natCast]
    exact specSec_some a _ e0 ps (mMap ps) c f S p _ w hp hms ho' hS (by omega) (by omega) hs

set_option maxRecDepth 100000 in
set_option maxHeartbeats 3200000 in
theorem implView_any (a b e0 : Option Addr) (ps : List ByteArray) (ws ms : List Int) (c d f : Nat) (q : Int) (w : World) (hp : Rd w a (vsString ps)) (hw : Rd w b (vsInt ws)) (hms : Rd w e0 (vsInt ms)) (hl : ps.length ≤ 1048576) (hm : ws.length ≤ 1048576) (hn : ms.length ≤ 1048576) (hs : ∀ s ∈ ps, s.size ≤ 1048576) :
    Calls Try.prog 32 #[.agg #[.slice a ps.length c, .slice b ws.length d, .slice e0 ms.length f, .int .i64 q]] w fun e w' => ∃ v, e = .returned v ∧ StrsOwn w' w.heap.size v (viewOf ps ws ms q) ∧ Below w.heap.size w w' := by
  obtain ⟨R, hR⟩ : ∃ R, R = viewOf ps ws ms q := ⟨_, rfl⟩
  rw [← hR]
  obtain ⟨i0, hi, hz0, hz1, hz2⟩ := info_parts infoString
  obtain ⟨A, hA⟩ : ∃ A, A = w.alloc (Obj.cells #[.slice a ps.length c, .slice b ws.length d, .slice e0 ms.length f, .int .i64 q] 47) := ⟨_, rfl⟩
  have hbA : Below w.heap.size w A := by rw [hA]; exact (Below.refl _ _).alloc (Nat.le_refl _) _
  have xA : At A w.heap.size [.slice a ps.length c, .slice b ws.length d, .slice e0 ms.length f, .int .i64 q] := by rw [hA]; exact at_new w [.slice a ps.length c, .slice b ws.length d, .slice e0 ms.length f, .int .i64 q] _
  have x0 : A.cell? ⟨w.heap.size, 0, none⟩ = some (.slice a ps.length c) := xA.2 0 (by simp)
  have x1 : A.cell? ⟨w.heap.size, 1, none⟩ = some (.slice b ws.length d) := xA.2 1 (by simp)
  have x2 : A.cell? ⟨w.heap.size, 2, none⟩ = some (.slice e0 ms.length f) := xA.2 2 (by simp)
  have x3 : A.cell? ⟨w.heap.size, 3, none⟩ = some (.int .i64 q) := xA.2 3 (by simp)
  have HF := hide (implFtlOk_any a b e0 ps ws ms c d f q A (hp.below hbA) (hw.below hbA) (hms.below hbA) hl hm hn hs)
  cases hok : ftlOkB ps ws ms q with
  | false =>
    have HR : Hid (R = []) := by show _ = _; rw [hR, viewOf, if_neg (by simp [hok])]
    rw [hok] at HF
    clear hR hp hw hms hs hok
    go_enter Try.func32, Try.ntmps32
    go_wp2_with (first | (rw [← hA]; clear hA) | (go_at_call 31; refine HF.out.mono ?_; rintro e w1 ⟨rfl, hb1⟩; have HB1 := hide hb1; clear hb1))
    go_ret
    exact ⟨_, rfl, by rw [HR.out]; exact World.ownsRow_nil _ _ _ _, after hbA HB1.out⟩
  | true =>
    have HR : Hid (R = viewU ps) := by show _ = _; rw [hR, viewOf, if_pos hok]
    obtain ⟨hch, rfl, rfl⟩ := ftlOk_parts hok
    rw [hok] at HF
    have HSC : Hid (∀ (u : World) (k : Nat), Below A.heap.size A u → k < 26 → Calls Try.prog 79 #[.agg #[.slice a ps.length c, .slice b ws.length d, .slice e0 (mMap ps).length f, .int .i64 (mSeq ps)], .int .i64 k] u fun e w' => ∃ z, e = .returned (.string z) ∧ Hid ((viewU ps)[k]? = some z) ∧ Below u.heap.size u w') := by
      intro u k hu hk
      have hbu := after hbA hu
      exact (implSectorOf_any a e0 _ ps c f _ k u (hp.below hbu) (hms.below hbu) hch.1 hs).mono fun e w' h => ⟨_, h.1, viewU_at ps hk, h.2⟩
    have HVL : Hid ((viewU ps).length = 26) := viewU_len ps
    obtain ⟨V, hV⟩ : ∃ V, V = viewU ps := ⟨_, rfl⟩
    rw [← hV] at HR HSC HVL
    obtain ⟨M, hM⟩ : ∃ M, M = mMap ps := ⟨_, rfl⟩
    rw [← hM] at HF HSC xA x2 hA hn
    obtain ⟨Q, hQ⟩ : ∃ Q, Q = mSeq ps := ⟨_, rfl⟩
    rw [← hQ] at HF HSC xA x3 hA
    rw [← hM, ← hQ]
    have hv1 : 26 ≤ V.length ∧ V.length ≤ 26 := by have := HVL.out; omega
    clear hR hp hw hms hs hok hch hV hM hQ
    go_enter Try.func32, Try.ntmps32
    go_wp2_with fail
    rw [← hA]
    clear hA
    refine HF.out.mono ?_
    rintro e w1 ⟨rfl, hb1⟩
    have HB1 := hide hb1
    clear hb1 x0 x1 x2 x3
    go_wp2_with (at_make; refine wpList_make_full _ rfl _ _ 24 rfl w1.heap.size 9 i0 (Value.string ⟨#[]⟩) 1 Try.underlying24 hi hz0 hz1 .i64 .i64 26 26 26 rfl rfl rfl rfl (by rw [hz2]; decide) (by decide) (Nat.le_refl _) ?_; intro w2 hown hgrow)
    have hb2 : Below w1.heap.size w1 w2 := (Below.refl _ _).grown hgrow (Nat.le_refl _) (by simp)
    have hown1 : w2.ownsRow w1.heap.size 9 1 (.slice (some ⟨w1.heap.size, 0, none⟩) 26 26) 26 (halfString V 0) := by
      have e : (madeCells (Value.string ⟨#[]⟩).cells (26 * 1)).toList = halfString V 0 := by
        show (madeCells #[Value.string ⟨#[]⟩] (26 * 1)).toList = _
        rw [toList_madeCells_one]; simp [halfString, HVL.out]
      rw [← e]; exact hown
    clear hown hgrow
    go_loopw [11] (fun i wr => ∃ k : Nat, k ≤ 26 ∧ i = .int .i64 k ∧ wr.ownsRow w1.heap.size 9 1 (.slice (some ⟨w1.heap.size, 0, none⟩) 26 26) 26 (halfString V k) ∧ Below w1.heap.size w1 wr) (fun i _ => 26 - (intOf i).toNat)
    case atStart => exact ⟨0, Nat.zero_le _, rfl, hown1, hb2⟩
    case round =>
      obtain ⟨k, hk, rfl, hown, hbr⟩ := hrel
      have hbA1 := after HB1.out hbr
      by_cases hlt : k < 26
      · have y0 : wr.cell? ⟨w.heap.size, 0, none⟩ = some (.slice a ps.length c) := (xA.below hbA1).2 0 (by simp)
        have y1 : wr.cell? ⟨w.heap.size, 1, none⟩ = some (.slice b ws.length d) := (xA.below hbA1).2 1 (by simp)
        have y2 : wr.cell? ⟨w.heap.size, 2, none⟩ = some (.slice e0 M.length f) := (xA.below hbA1).2 2 (by simp)
        have y3 : wr.cell? ⟨w.heap.size, 3, none⟩ = some (.int .i64 Q) := (xA.below hbA1).2 3 (by simp)
        have hki : (k : Int) < 26 := by omega
        have HC := hide (HSC.out wr k hbA1 hlt)
        clear hbA1 hown1 hb2
        go_wp2_with fail
        refine HC.out.mono ?_
        rintro e u ⟨z, rfl, HZ, hbu⟩
        have hown1 := owns_below hown hbu
        have hbu1 := after hbr hbu
        have hfz := hown1.frozenAt k
        have hst := hown1.stored k (Value.string z)
        have hcell : ∃ x, u.cell? ⟨w1.heap.size, k, none⟩ = some x := by
          have h1 := hown1.cellAt k (by omega)
          have h2 : k < (halfString V k).length := by rw [hown1.1]; omega
          exact ⟨(halfString V k)[k], by rw [h1]; simp [h2]⟩
        obtain ⟨x, hcell⟩ := hcell
        have HO : Hid ((u.setCell ⟨w1.heap.size, k, none⟩ (Value.string z)).ownsRow w1.heap.size 9 1 (.slice (some ⟨w1.heap.size, 0, none⟩) 26 26) 26 (halfString V (k + 1)) ∧ Below w1.heap.size w1 (u.setCell ⟨w1.heap.size, k, none⟩ (Value.string z))) := by
          refine ⟨?_, hbu1.setCell (Nat.le_refl _) _⟩
          rw [← halfString_step HZ.out]
          exact hst.1
        clear hst hown hown1 hbr hbu hbu1 HC
        go_wp2
        go_roundw
        case rel => exact ⟨k + 1, by omega, by go_num, HO.out.1, HO.out.2⟩
        case measure => simp [intOf]; omega
      · obtain rfl : k = 26 := by omega
        have hki : ¬ ((26 : Nat) : Int) < 26 := by omega
        have HO : Hid (wr.ownsRow w1.heap.size 9 1 (.slice (some ⟨w1.heap.size, 0, none⟩) 26 26) V.length (vsString V)) := by
          have h : wr.ownsRow w1.heap.size 9 1 (.slice (some ⟨w1.heap.size, 0, none⟩) 26 26) 26 (halfString V 26) := hown
          have e1 : halfString V 26 = vsString V := by have := halfString_all V; rwa [HVL.out] at this
          rw [e1] at h
          rw [HVL.out]; exact h
        have HB := hide hbr
        clear hown hbr hbA1 hown1 hb2
        go_wp2
        go_ret
        exact ⟨_, rfl, by rw [HR.out]; exact owns_mono HO.out (by have := hbA.size; have := HB1.out.size; omega), after (after hbA HB1.out) HB.out⟩

end Go.Proofs.Ytelbannfbglgcaa

namespace Go.Proofs.Ytelbannfbglgcaa
open Go.RowKit

/-- The record of a page. -/
def rcs (ps : List ByteArray) (p : Nat) : Option (Int × Int × ByteArray) := recR (ps[p]?.getD ByteArray.empty)
theorem rcs_clear {ps : List ByteArray} {p : Nat} (h : ps[p]? = some ByteArray.empty) : rcs ps p = none := by unfold rcs; rw [h]; exact recR_empty
theorem rcs_set {ps : List ByteArray} {i : Nat} (hi : i < ps.length) (t : ByteArray) (p : Nat) : rcs (ps.set i t) p = if p = i then recR t else rcs ps p := by
  unfold rcs
  by_cases h : p = i
  · subst h; rw [if_pos rfl, List.getElem?_set_self hi]; rfl
  · rw [if_neg h, List.getElem?_set_ne (fun e => h e.symm)]
theorem rcs_wipe {ps : List ByteArray} {B : Nat} : ∀ (m : Nat) (p : Nat), rcs (wipeP ps B m) p = if B * 6 ≤ p ∧ p < B * 6 + m then none else rcs ps p := by
  intro m
  induction m with
  | zero => intro p; rw [if_neg (by omega)]; rfl
  | succ m ih =>
    intro p
    show rcs ((wipeP ps B m).set (B * 6 + m) ByteArray.empty) p = _
    by_cases hl : B * 6 + m < (wipeP ps B m).length
    · rw [rcs_set hl, ih p]
      by_cases h1 : p = B * 6 + m
      · rw [if_pos h1, if_pos (by omega), recR_empty]
      · rw [if_neg h1]
        by_cases h2 : B * 6 ≤ p ∧ p < B * 6 + m
        · rw [if_pos h2, if_pos (by omega)]
        · rw [if_neg h2, if_neg (by omega)]
    · rw [List.set_eq_of_length_le (by omega), ih p]
      by_cases h2 : B * 6 ≤ p ∧ p < B * 6 + m
      · rw [if_pos h2, if_pos (by omega)]
      · rw [if_neg h2]
        by_cases h3 : B * 6 ≤ p ∧ p < B * 6 + (m + 1)
        · rw [if_pos h3]
          have hp : ps[p]? = none := by
            rw [wipeP_len] at hl
            exact List.getElem?_eq_none (by omega)
          unfold rcs
          rw [hp]
          exact recR_empty
        · rw [if_neg h3]
theorem rcs_sector {ps : List ByteArray} {p : Nat} {s q : Int} {d : ByteArray} (h : rcs ps p = some (s, q, d)) : 0 ≤ s ∧ s ≤ 25 ∧ 1 ≤ q ∧ q ≤ 1000000000 := recR_sector h

theorem mUpto_congr {ps ps' : List ByteArray} : ∀ k, (∀ p, p < k → rcs ps' p = rcs ps p) → mUpto ps' k = mUpto ps k := by
  intro k
  induction k with
  | zero => intro _; rfl
  | succ k ih =>
    intro h
    show mStep (mUpto ps' k) k (ps'[k]?.getD ByteArray.empty) = mStep (mUpto ps k) k (ps[k]?.getD ByteArray.empty)
    rw [ih (fun p hp => h p (by omega))]
    have hk : recR (ps'[k]?.getD ByteArray.empty) = recR (ps[k]?.getD ByteArray.empty) := h k (by omega)
    unfold mStep
    rw [hk]

/-- Of the first k pages: no page has a record of s, or the first one with the greatest number does. -/
def BestAt (ps : List ByteArray) (k s : Nat) (o b : Int) : Prop :=
  (o = -1 ∧ b = 0 ∧ ∀ p, p < k → ∀ q d, rcs ps p ≠ some ((s : Int), q, d)) ∨
  ∃ (p : Nat) (d : ByteArray), p < k ∧ o = (p : Int) ∧ rcs ps p = some ((s : Int), b, d) ∧ ∀ p', p' < k → ∀ q' d', rcs ps p' = some ((s : Int), q', d') → q' < b ∨ (q' = b ∧ p ≤ p')
theorem BestAt.one {ps : List ByteArray} {k s : Nat} {o b o' b' : Int} (h : BestAt ps k s o b) (h' : BestAt ps k s o' b') : o = o' ∧ b = b' := by
  rcases h with ⟨rfl, rfl, h⟩ | ⟨p, d, hp, rfl, hr, hm⟩
  · rcases h' with ⟨rfl, rfl, _⟩ | ⟨p', d', hp', rfl, hr', hm'⟩
    · exact ⟨rfl, rfl⟩
    · exact absurd hr' (h p' hp' _ _)
  · rcases h' with ⟨rfl, rfl, h'⟩ | ⟨p', d', hp', rfl, hr', hm'⟩
    · exact absurd hr (h' p hp _ _)
    · have h1 := hm p' hp' _ _ hr'
      have h2 := hm' p hp _ _ hr
      constructor <;> omega
theorem best_at (ps : List ByteArray) (k : Nat) : ∀ s : Nat, s < 26 → ∃ o b, (mUpto ps k).2.1[s]? = some o ∧ (mUpto ps k).1[s]? = some b ∧ BestAt ps k s o b := by
  induction k with
  | zero =>
    intro s hs
    refine ⟨-1, 0, ?_, ?_, .inl ⟨rfl, rfl, fun p hp => by omega⟩⟩
    · show (List.replicate 26 (-1 : Int))[s]? = _
      rw [List.getElem?_replicate_of_lt hs]
    · show (List.replicate 26 (0 : Int))[s]? = _
      rw [List.getElem?_replicate_of_lt hs]
  | succ k ih =>
    intro s hs
    obtain ⟨o, b, h1, h2, h3⟩ := ih s hs
    obtain ⟨l1, l2, -⟩ := mUpto_len ps k
    unfold mUpto
    cases h : recR (ps[k]?.getD ByteArray.empty) with
    | none =>
      rw [mStep_no h]
      refine ⟨o, b, h1, h2, ?_⟩
      rcases h3 with ⟨e1, e2, h3⟩ | ⟨p, d, hp, e1, hr, hm⟩
      · refine .inl ⟨e1, e2, fun p hp q d hx => ?_⟩
        by_cases hpk : p = k
        · subst hpk; rw [rcs, h] at hx; cases hx
        · exact h3 p (by omega) q d hx
      · refine .inr ⟨p, d, by omega, e1, hr, fun p' hp' q' d' hx => ?_⟩
        by_cases hpk : p' = k
        · subst hpk; rw [rcs, h] at hx; cases hx
        · exact hm p' (by omega) q' d' hx
    | some r =>
      obtain ⟨s', q', d'⟩ := r
      have hr := recR_sector h
      by_cases he : s'.toNat = s
      · have hse : s' = (s : Int) := by omega
        subst hse
        have hb : (mUpto ps k).1[((s : Nat) : Int).toNat]?.getD 0 = b := by rw [he, h2]; rfl
        by_cases hq : b < q'
        · rw [mStep_great h (by rw [hb]; exact hq)]
          refine ⟨(k : Int), q', ?_, ?_, .inr ⟨k, d', by omega, rfl, h, fun p hp q d hx => ?_⟩⟩
          · simp only []; rw [he, List.getElem?_set_self (by omega)]
          · simp only []; rw [he, List.getElem?_set_self (by omega)]
          · by_cases hpk : p = k
            · subst hpk
              rw [rcs, h] at hx
              simp only [Option.some.injEq, Prod.mk.injEq] at hx
              right; exact ⟨hx.2.1.symm, Nat.le_refl _⟩
            · left
              rcases h3 with ⟨e1, e2, h3⟩ | ⟨p0, d0, hp0, e1, hr0, hm⟩
              · exact absurd hx (h3 p (by omega) q d)
              · have := hm p (by omega) q d hx
                omega
        · rw [mStep_small h (by rw [hb]; exact hq)]
          refine ⟨o, b, h1, h2, ?_⟩
          rcases h3 with ⟨e1, e2, h3⟩ | ⟨p0, d0, hp0, e1, hr0, hm⟩
          · omega
          · refine .inr ⟨p0, d0, by omega, e1, hr0, fun p hp q d hx => ?_⟩
            by_cases hpk : p = k
            · subst hpk
              rw [rcs, h] at hx
              simp only [Option.some.injEq, Prod.mk.injEq] at hx
              omega
            · exact hm p (by omega) q d hx
      · have hne : ∀ q d, rcs ps k ≠ some ((s : Int), q, d) := by
          intro q d hx
          rw [rcs, h] at hx
          simp only [Option.some.injEq, Prod.mk.injEq] at hx
          omega
        have h3' : BestAt ps (k + 1) s o b := by
          rcases h3 with ⟨e1, e2, h3⟩ | ⟨p0, d0, hp0, e1, hr0, hm⟩
          · refine .inl ⟨e1, e2, fun p hp q d hx => ?_⟩
            by_cases hpk : p = k
            · subst hpk; exact hne q d hx
            · exact h3 p (by omega) q d hx
          · refine .inr ⟨p0, d0, by omega, e1, hr0, fun p hp q d hx => ?_⟩
            by_cases hpk : p = k
            · subst hpk; exact absurd hx (hne q d)
            · exact hm p (by omega) q d hx
        by_cases hq : (mUpto ps k).1[s'.toNat]?.getD 0 < q'
        · rw [mStep_great h hq]
          refine ⟨o, b, ?_, ?_, h3'⟩
          · simp only []; rw [List.getElem?_set_ne he]; exact h1
          · simp only []; rw [List.getElem?_set_ne he]; exact h2
        · rw [mStep_small h hq]
          exact ⟨o, b, h1, h2, h3'⟩
theorem map_best (ps : List ByteArray) {s : Nat} (hs : s < 26) : ∃ o b, (mMap ps)[s]? = some o ∧ BestAt ps 60 s o b := by
  obtain ⟨o, b, h1, -, h3⟩ := best_at ps 60 s hs
  exact ⟨o, b, h1, h3⟩
/-- The map is told by its first greatest pages. -/
theorem map_of_best {ps : List ByteArray} {s : Nat} {o b : Int} (hs : s < 26) (h : BestAt ps 60 s o b) : (mMap ps)[s]? = some o := by
  obtain ⟨o', b', h1, h2⟩ := map_best ps hs
  rw [h1, (h.one h2).1]
theorem map_ext {ps ps' : List ByteArray} (h : ∀ s, s < 26 → (mMap ps')[s]? = (mMap ps)[s]?) : mMap ps' = mMap ps := by
  apply List.ext_getElem?
  intro s
  rcases Nat.lt_or_ge s 26 with hs | hs
  · exact h s hs
  · rw [List.getElem?_eq_none (by rw [mMap_len]; exact hs), List.getElem?_eq_none (by rw [mMap_len]; exact hs)]
/-- A page of the map has a record of its sector. -/
theorem map_rec {ps : List ByteArray} {s p : Nat} (h : (mMap ps)[s]? = some (p : Int)) : s < 26 ∧ p < 60 ∧ ∃ q d, rcs ps p = some ((s : Int), q, d) := by
  have hs : s < 26 := by
    rcases Nat.lt_or_ge s 26 with hs | hs
    · exact hs
    · rw [List.getElem?_eq_none (by rw [mMap_len]; exact hs)] at h; cases h
  obtain ⟨o, b, h1, h2⟩ := map_best ps hs
  rw [h] at h1
  injection h1 with h1
  subst h1
  rcases h2 with ⟨e, -⟩ | ⟨p', d, hp, e, hr, -⟩
  · omega
  · obtain rfl : p = p' := by omega
    exact ⟨hs, hp, b, d, hr⟩
theorem map_is {ps : List ByteArray} {s : Nat} (hs : s < 26) : (mMap ps)[s]? = some (-1) ∨ ∃ p : Nat, (mMap ps)[s]? = some (p : Int) := by
  obtain ⟨o, b, h1, h2⟩ := map_best ps hs
  rcases h2 with ⟨rfl, -⟩ | ⟨p', d, hp, rfl, hr, -⟩
  · exact .inl h1
  · exact .inr ⟨p', h1⟩

/-- The greatest number of the records. -/
def SeqIs (ps : List ByteArray) (m : Int) : Prop := 0 ≤ m ∧ (∀ p, p < 60 → ∀ s q d, rcs ps p = some (s, q, d) → q ≤ m) ∧ (m = 0 ∨ ∃ p, p < 60 ∧ ∃ s d, rcs ps p = some (s, m, d))
theorem SeqIs.one {ps : List ByteArray} {m m' : Int} (h : SeqIs ps m) (h' : SeqIs ps m') : m = m' := by
  obtain ⟨h0, h1, h2⟩ := h
  obtain ⟨h0', h1', h2'⟩ := h'
  have a : m ≤ m' := by
    rcases h2 with rfl | ⟨p, hp, s, d, hr⟩
    · exact h0'
    · exact h1' p hp _ _ _ hr
  have b : m' ≤ m := by
    rcases h2' with rfl | ⟨p, hp, s, d, hr⟩
    · exact h0
    · exact h1 p hp _ _ _ hr
  omega
theorem last_le (ps : List ByteArray) : ∀ k p, p < k → (recC ps p).2.1 ≤ lastU ps k := by
  intro k
  induction k with
  | zero => intro p hp; omega
  | succ k ih =>
    intro p hp
    simp only [lastU]
    by_cases h : p = k
    · subst h; omega
    · have := ih p (by omega); omega
theorem last_at (ps : List ByteArray) : ∀ k, lastU ps k = 0 ∨ ∃ p, p < k ∧ (recC ps p).2.1 = lastU ps k := by
  intro k
  induction k with
  | zero => exact .inl rfl
  | succ k ih =>
    simp only [lastU]
    have hb := lastU_bd ps k
    by_cases h : lastU ps k ≤ (recC ps k).2.1
    · right; exact ⟨k, by omega, by omega⟩
    · rcases ih with h0 | ⟨p, hp, he⟩
      · have := recC_seq ps k; omega
      · right; exact ⟨p, by omega, by omega⟩
theorem seqIs_last (ps : List ByteArray) : SeqIs ps (lastU ps 60) := by
  refine ⟨(lastU_bd ps 60).1, fun p hp s q d hr => ?_, ?_⟩
  · have := last_le ps 60 p hp
    rw [recC_some (r := (s, q, d)) hr] at this
    exact this
  · rcases last_at ps 60 with h | ⟨p, hp, he⟩
    · exact .inl h
    · cases hr : recR (ps[p]?.getD ByteArray.empty) with
      | none =>
        left
        rw [recC_none hr] at he
        exact he.symm
      | some r =>
        obtain ⟨s, q, d⟩ := r
        rw [recC_some hr] at he
        right
        exact ⟨p, hp, s, d, by rw [← he]; exact hr⟩
theorem mSeq_is (ps : List ByteArray) {m : Int} (h : SeqIs ps m) : mSeq ps = min (m + 1) 1000000000 := by
  rw [h.one (seqIs_last ps)]
  exact mSeq_last ps 60

/-- Where no sector's page turns, each sector has what it had. -/
theorem view_same {ps ps' : List ByteArray} (hm : mMap ps' = mMap ps) (hr : ∀ s p : Nat, (mMap ps)[s]? = some (p : Int) → rcs ps' p = rcs ps p) : viewU ps' = viewU ps := by
  unfold viewU
  apply List.map_congr_left
  intro s hs
  have hs' : s < 26 := by simpa using hs
  unfold secD
  rw [if_pos (by omega), if_pos (by omega), hm, Int.toNat_natCast]
  rcases map_is (ps := ps) hs' with h | ⟨p, h⟩
  · rw [h]; rfl
  · rw [h]
    have e := hr s p h
    simp only [Option.getD_some, dataAt]
    rw [if_neg (by omega), if_neg (by omega), Int.toNat_natCast]
    show ((rcs ps' p).getD (0, 0, ByteArray.empty)).2.2 = ((rcs ps p).getD (0, 0, ByteArray.empty)).2.2
    rw [e]
theorem same_recs {ps ps' : List ByteArray} (h : ∀ p, p < 60 → rcs ps' p = rcs ps p) : mMap ps' = mMap ps ∧ mSeq ps' = mSeq ps ∧ viewU ps' = viewU ps := by
  have hm := mUpto_congr 60 h
  have h1 : mMap ps' = mMap ps := by unfold mMap; rw [hm]
  exact ⟨h1, by unfold mSeq; rw [hm], view_same h1 fun s p hsp => h p (map_rec hsp).2.1⟩
/-- What a sector's view is. -/
theorem view_at {ps : List ByteArray} {s p : Nat} {q : Int} {d : ByteArray} (h : (mMap ps)[s]? = some (p : Int)) (hr : rcs ps p = some ((s : Int), q, d)) : (viewU ps)[s]? = some d := by
  have hs := (map_rec h).1
  rw [viewU_at ps hs, secD, if_pos (by omega), Int.toNat_natCast, h]
  simp only [Option.getD_some, dataAt]
  rw [if_neg (by omega), Int.toNat_natCast]
  show some ((rcs ps p).getD (0, 0, ByteArray.empty)).2.2 = _
  rw [hr]; rfl

/-- Pages of no sector are cleared: nothing that is mounted turns. -/
theorem wipe_mount {ps : List ByteArray} {B m : Nat} (hno : ∀ p : Nat, B * 6 ≤ p → p < B * 6 + m → (p : Int) ∉ mMap ps) : mMap (wipeP ps B m) = mMap ps ∧ mSeq (wipeP ps B m) = mSeq ps ∧ viewU (wipeP ps B m) = viewU ps := by
  have hkeep : ∀ s p : Nat, (mMap ps)[s]? = some (p : Int) → rcs (wipeP ps B m) p = rcs ps p := by
    intro s p h
    rw [rcs_wipe, if_neg]
    rintro ⟨h1, h2⟩
    exact hno p h1 h2 (List.mem_of_getElem? h)
  have hback : ∀ p x, rcs (wipeP ps B m) p = some x → rcs ps p = some x := by
    intro p x h
    rw [rcs_wipe] at h
    split at h
    · cases h
    · exact h
  have hmap : mMap (wipeP ps B m) = mMap ps := by
    apply map_ext
    intro s hs
    obtain ⟨o, b, h1, h2⟩ := map_best ps hs
    rw [h1]
    refine map_of_best (b := b) hs ?_
    rcases h2 with ⟨e1, e2, h3⟩ | ⟨p0, d0, hp0, rfl, hr0, hm⟩
    · exact .inl ⟨e1, e2, fun p hp q d hx => h3 p hp q d (hback p _ hx)⟩
    · exact .inr ⟨p0, d0, hp0, rfl, by rw [hkeep s p0 h1]; exact hr0, fun p hp q d hx => hm p hp q d (hback p _ hx)⟩
  refine ⟨hmap, ?_, view_same hmap hkeep⟩
  have hl := seqIs_last ps
  rw [mSeq_is ps hl]
  refine mSeq_is _ ⟨hl.1, fun p hp s q d hx => hl.2.1 p hp s q d (hback p _ hx), ?_⟩
  rcases hl.2.2 with h | ⟨p, hp, s, d, hr⟩
  · exact .inl h
  · right
    have hsec := rcs_sector hr
    obtain ⟨S, rfl⟩ : ∃ S : Nat, s = S := ⟨s.toNat, by omega⟩
    obtain ⟨o, b, h1, h2⟩ := map_best ps (s := S) (by omega)
    rcases h2 with ⟨e1, e2, h3⟩ | ⟨p0, d0, hp0, rfl, hr0, hm⟩
    · exact absurd hr (h3 p hp _ _)
    · have h4 := hm p hp _ _ hr
      have h5 := hl.2.1 p0 hp0 _ _ _ hr0
      have hb : b = lastU ps 60 := by omega
      exact ⟨p0, hp0, S, d0, by rw [hkeep S p0 h1, hr0, hb]⟩

/-- A record under the next number on a clear page: its sector has its data, all others what they had. -/
theorem burn_view {ps : List ByteArray} {p : Nat} {s : Int} {d t : ByteArray} (hl : ps.length = 60) (hp : p < 60) (hc : ps[p]? = some ByteArray.empty) (hm : mSeq ps < 1000000000) (ht : recR t = some (s, mSeq ps, d)) :
    viewU (ps.set p t) = (viewU ps).set s.toNat d := by
  obtain ⟨h1, h2⟩ := burn_mount hl hp hc hm ht
  have hs := recR_sector ht
  apply List.ext_getElem?
  intro k
  rcases Nat.lt_or_ge k 26 with hk | hk
  · by_cases hks : s.toNat = k
    · rw [hks, List.getElem?_set_self (by rw [viewU_len]; exact hk)]
      refine view_at (p := p) (q := mSeq ps) ?_ ?_
      · rw [h1, hks, List.getElem?_set_self (by rw [mMap_len]; exact hk)]
      · rw [rcs_set (by omega), if_pos rfl, ht]
        congr 2
        omega
    · rw [List.getElem?_set_ne hks, viewU_at _ hk, viewU_at _ hk]
      congr 1
      unfold secD
      rw [if_pos (by omega), if_pos (by omega), h1, Int.toNat_natCast, List.getElem?_set_ne hks]
      rcases map_is (ps := ps) hk with h | ⟨p0, h⟩
      · rw [h]; rfl
      · rw [h]
        simp only [Option.getD_some, dataAt]
        rw [if_neg (by omega), if_neg (by omega), Int.toNat_natCast]
        obtain ⟨-, -, q0, d0, hr0⟩ := map_rec h
        have hne : p0 ≠ p := by
          rintro rfl
          rw [rcs_clear hc] at hr0; cases hr0
        show ((rcs (ps.set p t) p0).getD (0, 0, ByteArray.empty)).2.2 = ((rcs ps p0).getD (0, 0, ByteArray.empty)).2.2
        rw [rcs_set (by omega), if_neg hne]
  · rw [List.getElem?_eq_none (by rw [viewU_len]; exact hk), List.getElem?_eq_none (by rw [List.length_set, viewU_len]; exact hk)]
end Go.Proofs.Ytelbannfbglgcaa

namespace Go.Proofs.Ytelbannfbglgcaa
open Go.RowKit

theorem fnExactMount_both (ps : List ByteArray) (ws : List Int)  (hk0 : ps.length ≤ 1048576) (hk1 : ws.length ≤ 1048576) (hs : ∀ s ∈ ps, s.size ≤ 1048576)  :
    ∃ (Gps : List ByteArray) (Gws : List Int) (Gms : List Int) (Gq : Int) , Gps.length ≤ 1000 ∧ Gws.length ≤ 1000 ∧ Gms.length ≤ 1000 ∧ Hid (∀ (u : World) (v : Value), ChipRd u v ps ws → Calls Try.prog 28 #[v] u fun e w' => ∃ v, e = .returned (v) ∧ FtlOwn w' u.heap.size v Gps Gws Gms Gq ∧ Below u.heap.size u w') ∧ Hid (∀ (u : World) (v : Value), ChipRd u v ps ws → Calls Try.prog 27 #[v] u fun e w' => ∃ v, e = .returned (v) ∧ FtlOwn w' u.heap.size v Gps Gws Gms Gq ∧ Below u.heap.size u w') := by
  by_cases hok : chipOkP ps ws
  · refine ⟨ps, ws, mMap ps, mSeq ps, by rw [hok.1]; decide, by rw [hok.2.1]; decide, by rw [mMap_len]; decide, ?_, ?_⟩
    · rintro u v ⟨a, c, b, d, rfl, h1, h2⟩
      exact specMount_ok a b ps ws c d u h1 h2 hok
    · rintro u v ⟨a, c, b, d, rfl, h1, h2⟩
      exact implMount_ok a b ps ws c d u h1 h2 hok
  · refine ⟨[], [], [], 0, by decide, by decide, by decide, ?_, ?_⟩
    · rintro u v ⟨a, c, b, d, rfl, h1, h2⟩
      exact specMount_bad a b ps ws c d u h1 h2 hk0 hk1 hs hok
    · rintro u v ⟨a, c, b, d, rfl, h1, h2⟩
      exact implMount_bad a b ps ws c d u h1 h2 hk0 hk1 hs hok

end Go.Proofs.Ytelbannfbglgcaa
