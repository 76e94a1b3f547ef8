/-
  Contracts of the specification's l4Ints, FtlOk, l4Clear.
  Contracts of the laws' helpers over what is mounted: toFtl, szFtl, eqFtl.
  What the laws' walks carry along: a variable's cells; chips, what is mounted, rows of numbers: read, owned, marked; the laws' helpers over them.
-/
import Derived.Test.YtdicjbabnknjhaaGreatJRecover9
import Derived.Test.YtdicjbabnknjhaaGreatJRecover2
import Derived.Test.YtdicjbabnknjhaaGreatJRecover3
namespace Go.Proofs.YtdicjbabnknjhaaGreat
open Go.RowKit

set_option maxHeartbeats 1600000 in
theorem ints_any (a b : Option Addr) (xs ys : List Int) (c d : Nat) (w : World) (hr : Rd w a (vsInt xs)) (hs : Rd w b (vsInt ys)) (hm : xs.length ≤ 1048576) (_hn : ys.length ≤ 1048576) :
    Calls Tryz.prog 53 #[.slice a xs.length c, .slice b ys.length d] w fun e w' => e = .returned (.bool (decide (xs = ys))) ∧ ∃ n, w' = w.drewN n := by
  obtain ⟨B, hB⟩ : ∃ B : Bool, B = decide (xs = ys) := ⟨_, rfl⟩
  rw [← hB]
  have HB := hide hB
  clear hB
  go_enter Tryz.func53, Tryz.ntmps53
  go_wp2
  go_loopw [5] (fun i wr => ∃ k : Nat, k ≤ xs.length ∧ k ≤ ys.length ∧ i = .int .i64 k ∧ Hid (xs.take k = ys.take k) ∧ ∃ n, wr = w.drewN n) (fun i _ => xs.length - (intOf i).toNat)
  case atStart => exact ⟨0, Nat.zero_le _, Nat.zero_le _, rfl, (show _ = _ by simp), 0, rfl⟩
  case round =>
    obtain ⟨k, hk, hk', rfl, HT, n, rfl⟩ := hrel
    by_cases hlt : k < xs.length
    · by_cases hlt' : k < ys.length
      · obtain ⟨ba, oa, z, rfl, hck, HZ⟩ := rdInt_at hr hlt
        obtain ⟨bb, ob, y, rfl, hcy, HY⟩ := rdInt_at hs hlt'
        clear hr hs
        by_cases hzy : z = y
        · subst hzy
          have HE : Hid (xs.take (k + 1) = ys.take (k + 1)) := takeInt_step HT.out HZ.out HY.out
          go_wp2
          go_quiet (fail)
          go_wp2
          go_roundw
          case rel => exact ⟨k + 1, by omega, by omega, by go_num, HE, _, rfl⟩
          case measure => simp [intOf]; omega
        · have HE : Hid (B = false) := by show _ = _; rw [HB.out]; simpa using neInt_at HZ.out HY.out hzy
          have ht : (z != y) = true := by simpa using hzy
          clear hzy
          go_wp2
          go_quiet (fail)
          go_wp2
          go_ret
          exact ⟨ret_bool HE.out.symm, _, World.drewN_drewN _ _ _⟩
      · have HE : Hid (B = false) := by
          show _ = _; rw [HB.out]; simp; intro e; rw [e] at hlt; omega
        have ht : ((xs.length : Int) == (ys.length : Int)) = false := by simp; omega
        clear hr hs
        go_wp2
        go_ret
        exact ⟨ret_bool HE.out.symm, _, rfl⟩
    · by_cases hl : ys.length = xs.length
      · have HE : Hid (B = true) := by
          show _ = _; rw [HB.out]
          have := HT.out
          rw [List.take_of_length_le (by omega), List.take_of_length_le (by omega)] at this
          simpa using this
        have ht : ((xs.length : Int) == (ys.length : Int)) = true := by simp; omega
        clear hr hs hl
        go_wp2
        go_ret
        exact ⟨ret_bool HE.out.symm, _, rfl⟩
      · have HE : Hid (B = false) := by
          show _ = _; rw [HB.out]; simp; intro e; rw [e] at hl; omega
        have ht : ((xs.length : Int) == (ys.length : Int)) = false := by simp; omega
        clear hr hs hl
        go_wp2
        go_ret
        exact ⟨ret_bool HE.out.symm, _, rfl⟩

/-- What is mounted, its value written out. -/
theorem ftl_open {w : World} {base : Nat} {v : Value} {ps : List ByteArray} {ws ms : List Int} {q : Int} (h : FtlOwn w base v ps ws ms q) :
    ∃ a c b d e f, v = .agg #[.slice a ps.length c, .slice b ws.length d, .slice e ms.length f, .int .i64 q] ∧ w.ownsRow base 9 1 (.slice a ps.length c) ps.length (vsString ps) ∧ w.ownsRow base 3 1 (.slice b ws.length d) ws.length (vsInt ws) ∧ w.ownsRow base 3 1 (.slice e ms.length f) ms.length (vsInt ms) := by
  obtain ⟨v1, v2, v3, rfl, h1, h2, h3, -⟩ := h
  have f : ∀ {e : TypeId} {v : Value} {n : Nat} {xs : List Value}, w.ownsRow base e 1 v n xs → ∃ a c, v = .slice a n c := by
    intro e v n xs h
    rcases h with ⟨_, ⟨rfl, rfl⟩ | ⟨g, cap, cur, rfl, -⟩⟩
    · exact ⟨_, _, rfl⟩
    · exact ⟨_, _, rfl⟩
  obtain ⟨a, c, rfl⟩ := f h1
  obtain ⟨b, d, rfl⟩ := f h2
  obtain ⟨e, g, rfl⟩ := f h3
  exact ⟨a, c, b, d, e, g, rfl, h1, h2, h3⟩

/-- It is right. -/
def ftlOkB (ps : List ByteArray) (ws ms : List Int) (q : Int) : Bool := chipOkB ps ws && decide (mMap ps = ms) && decide (mSeq ps = q)

set_option maxHeartbeats 3200000 in
theorem specFtlOk_any (a b e0 : Option Addr) (ps : List ByteArray) (ws ms : List Int) (c d f : Nat) (q : Int) (w : World) (hp : Rd w a (vsString ps)) (hw : Rd w b (vsInt ws)) (hms : Rd w e0 (vsInt ms)) (hl : ps.length ≤ 1048576) (hm : ws.length ≤ 1048576) (hn : ms.length ≤ 1048576) (hs : ∀ s ∈ ps, s.size ≤ 1048576) :
    Calls Tryz.prog 24 #[.agg #[.slice a ps.length c, .slice b ws.length d, .slice e0 ms.length f, .int .i64 q]] w fun e w' => e = .returned (.bool (ftlOkB ps ws ms q)) ∧ Below w.heap.size w w' := by
  obtain ⟨W, hW⟩ : ∃ W, W = w.alloc (Obj.cells #[.slice a ps.length c, .slice b ws.length d, .slice e0 ms.length f, .int .i64 q] 34) := ⟨_, rfl⟩
  have hbW : Below w.heap.size w W := by subst hW; exact (Below.refl _ _).alloc (Nat.le_refl _) _
  have cW : W.cell? ⟨w.heap.size, 0, none⟩ = some (.slice a ps.length c) ∧ W.cell? ⟨w.heap.size, 1, none⟩ = some (.slice b ws.length d) ∧ W.cell? ⟨w.heap.size, 2, none⟩ = some (.slice e0 ms.length f) ∧ W.cell? ⟨w.heap.size, 3, none⟩ = some (.int .i64 q) ∧ w.heap.size < W.heap.size := by
    subst hW; refine ⟨?_, ?_, ?_, ?_, ?_⟩ <;> simp
  obtain ⟨x0, x1, x2, x3, hsz⟩ := cW
  by_cases hok : chipOkP ps ws
  · have hB := chipOkB_true hok
    obtain ⟨R, hR⟩ : ∃ R, R = ftlOkB ps ws ms q := ⟨_, rfl⟩
    have HR : Hid (R = (decide (mMap ps = ms) && decide (mSeq ps = q))) := by show _ = _; rw [hR, ftlOkB, hB]; simp
    rw [← hR]
    clear hR
    go_enter Tryz.func24, Tryz.ntmps24
    go_wp2_with fail
    rw [← hW]
    clear hW
    refine (specMount_ok a b ps ws c d W (hp.below hbW) (hw.below hbW) hok).mono ?_
    rintro e w1 ⟨v, rfl, hown, hb1⟩
    obtain ⟨a1, c1, b1, d1, e1, g1, rfl, -, -, ho3⟩ := ftl_open hown
    obtain ⟨V, hV⟩ : ∃ V, V = w1.alloc (Obj.cells #[.slice a1 ps.length c1, .slice b1 ws.length d1, .slice e1 (mMap ps).length g1, .int .i64 (mSeq ps)] 34) := ⟨_, rfl⟩
    have hbV : Below w1.heap.size w1 V := by rw [hV]; exact (Below.refl _ _).alloc (Nat.le_refl _) _
    have hWV := after hb1 hbV
    have k0 := (hb1.cell (p := ⟨w.heap.size, 0, none⟩) hsz).trans x0
    have k1 := (hb1.cell (p := ⟨w.heap.size, 1, none⟩) hsz).trans x1
    have hlt1 : w.heap.size < w1.heap.size := Nat.lt_of_lt_of_le hsz hb1.size
    have hsV : w1.heap.size < V.heap.size := by rw [hV]; simp
    have z2 : V.cell? ⟨w1.heap.size, 2, none⟩ = some (.slice e1 (mMap ps).length g1) := by rw [hV]; simp
    have z3 : V.cell? ⟨w1.heap.size, 3, none⟩ = some (.int .i64 (mSeq ps)) := by rw [hV]; simp
    have HM := hide ((rd_of_own ho3).below hbV)
    have HF := hide ((hms.below hbW).below hWV)
    have HP := hide ((hp.below hbW).below hWV)
    have HW := hide ((hw.below hbW).below hWV)
    have hbwV := after hbW hWV
    have y2 := (hWV.cell (p := ⟨w.heap.size, 2, none⟩) hsz).trans x2
    have y3 := (hWV.cell (p := ⟨w.heap.size, 3, none⟩) hsz).trans x3
    clear hown ho3 hb1 hbV x0 x1 x2 x3 hp hw hms hbW hWV hok
    go_wp2_with fail
    rw [← hV]
    clear hV k0 k1
    refine (specChipOk_any a b ps ws c d V HP.out HW.out hl hm hs).mono ?_
    rw [hB]
    rintro e w2 ⟨rfl, hb2⟩
    have s2 := (hb2.cell (p := ⟨w1.heap.size, 2, none⟩) hsV).trans z2
    have s3 := (hb2.cell (p := ⟨w1.heap.size, 3, none⟩) hsV).trans z3
    have t2 := (hb2.cell (p := ⟨w.heap.size, 2, none⟩) (show w.heap.size < V.heap.size by omega)).trans y2
    have t3 := (hb2.cell (p := ⟨w.heap.size, 3, none⟩) (show w.heap.size < V.heap.size by omega)).trans y3
    have HM2 := hide (HM.out.below hb2)
    have HF2 := hide (HF.out.below hb2)
    have hbw2 := after hbwV hb2
    clear z2 z3 y2 y3 HM HF HP HW hb2 hbwV hB hs
    go_wp2_with fail
    refine (ints_any e1 e0 (mMap ps) ms g1 f w2 HM2.out HF2.out (by rw [mMap_len]; decide) hn).mono ?_
    obtain ⟨D, hD⟩ : ∃ D, D = decide (mMap ps = ms) := ⟨_, rfl⟩
    rw [← hD]
    rintro e u ⟨rfl, n, hu⟩
    have u2 : u.cell? ⟨w1.heap.size, 3, none⟩ = some (.int .i64 (mSeq ps)) := by rw [hu]; exact s3
    have u3 : u.cell? ⟨w.heap.size, 3, none⟩ = some (.int .i64 q) := by rw [hu]; exact t3
    have hbwu : Below w.heap.size w u := by rw [hu]; exact after_drew hbw2 n
    clear hu s2 s3 t2 t3 HM2 HF2 hbw2
    cases D with
    | false =>
      have HRF : Hid (R = false) := by show _ = _; rw [HR.out, ← hD]; rfl
      clear hD HR
      go_wp2
      go_ret
      exact ⟨ret_bool HRF.out.symm, hbwu⟩
    | true =>
      have HRF : Hid (R = (mSeq ps == q)) := by show _ = _; rw [HR.out, ← hD, Bool.true_and]; rfl
      clear hD HR
      go_wp2
      go_ret
      exact ⟨ret_bool HRF.out.symm, hbwu⟩
  · have hB := chipOkB_false hok
    have HR : Hid (ftlOkB ps ws ms q = false) := by show _ = _; rw [ftlOkB, hB]; rfl
    go_enter Tryz.func24, Tryz.ntmps24
    go_wp2_with fail
    rw [← hW]
    clear hW
    refine (specMount_bad a b ps ws c d W (hp.below hbW) (hw.below hbW) hl hm hs hok).mono ?_
    rintro e w1 ⟨v, rfl, hown, hb1⟩
    obtain ⟨a1, c1, b1, d1, e1, g1, rfl, -⟩ := ftl_open hown
    obtain ⟨V, hV⟩ : ∃ V, V = w1.alloc (Obj.cells #[.slice a1 ([] : List ByteArray).length c1, .slice b1 ([] : List Int).length d1, .slice e1 ([] : List Int).length g1, .int .i64 0] 34) := ⟨_, rfl⟩
    have hbV : Below w1.heap.size w1 V := by rw [hV]; exact (Below.refl _ _).alloc (Nat.le_refl _) _
    have hWV := after hb1 hbV
    have k0 := (hb1.cell (p := ⟨w.heap.size, 0, none⟩) hsz).trans x0
    have k1 := (hb1.cell (p := ⟨w.heap.size, 1, none⟩) hsz).trans x1
    have hlt1 : w.heap.size < w1.heap.size := Nat.lt_of_lt_of_le hsz hb1.size
    have HP := hide ((hp.below hbW).below hWV)
    have HW := hide ((hw.below hbW).below hWV)
    have hbwV := after hbW hWV
    clear hown hb1 hbV x0 x1 x2 x3 hp hw hms hbW hWV hok
    simp only [List.length_nil] at hV
    go_wp2_with fail
    rw [← hV]
    clear hV k0 k1
    refine (specChipOk_any a b ps ws c d V HP.out HW.out hl hm hs).mono ?_
    rw [hB]
    rintro e w2 ⟨rfl, hb2⟩
    have hbw2 := after hbwV hb2
    clear HP HW hb2 hB hs
    go_wp2
    go_ret
    exact ⟨ret_bool HR.out.symm, hbw2⟩

end Go.Proofs.YtdicjbabnknjhaaGreat

namespace Go.Proofs.YtdicjbabnknjhaaGreat
open Go.RowKit

/-- Four cells of a variable. -/
def C4 (u : World) (p : Nat) (x0 x1 x2 x3 : Value) : Prop :=
  (u.cell? ⟨p, 0, none⟩ = some x0 ∧ u.cell? ⟨p, 1, none⟩ = some x1 ∧ u.cell? ⟨p, 2, none⟩ = some x2 ∧ u.cell? ⟨p, 3, none⟩ = some x3) ∧ ∀ j, u.frozen? ⟨p, j, none⟩ = false
theorem C4.lt {u : World} {p : Nat} {x0 x1 x2 x3 : Value} (h : C4 u p x0 x1 x2 x3) : p < u.heap.size := lt_of_cell h.1.1
theorem C4.below {u u' : World} {p : Nat} {x0 x1 x2 x3 : Value} (h : C4 u p x0 x1 x2 x3) (hb : Below u.heap.size u u') : C4 u' p x0 x1 x2 x3 :=
  ⟨⟨(hb.cell (p := ⟨p, 0, none⟩) h.lt).trans h.1.1, (hb.cell (p := ⟨p, 1, none⟩) h.lt).trans h.1.2.1, (hb.cell (p := ⟨p, 2, none⟩) h.lt).trans h.1.2.2.1, (hb.cell (p := ⟨p, 3, none⟩) h.lt).trans h.1.2.2.2⟩, fun j => (hb.frozen (p := ⟨p, j, none⟩) h.lt).trans (h.2 j)⟩
theorem C4.other {u : World} {p q k : Nat} {x0 x1 x2 x3 : Value} (h : C4 u p x0 x1 x2 x3) (hne : q ≠ p) (v : Value) : C4 (u.setCell ⟨q, k, none⟩ v) p x0 x1 x2 x3 :=
  ⟨⟨cell_other h.1.1 hne, cell_other h.1.2.1 hne, cell_other h.1.2.2.1 hne, cell_other h.1.2.2.2 hne⟩, fun j => by simpa using h.2 j⟩
theorem C4.set0 {u : World} {p : Nat} {x0 x1 x2 x3 : Value} (h : C4 u p x0 x1 x2 x3) (v : Value) : C4 (u.setCell ⟨p, 0, none⟩ v) p v x1 x2 x3 :=
  ⟨⟨World.cell?_setCell_same _ _ _ h.1.1, by simpa [go_sem] using h.1.2.1, by simpa [go_sem] using h.1.2.2.1, by simpa [go_sem] using h.1.2.2.2⟩, fun j => by simpa using h.2 j⟩
theorem C4.set1 {u : World} {p : Nat} {x0 x1 x2 x3 : Value} (h : C4 u p x0 x1 x2 x3) (v : Value) : C4 (u.setCell ⟨p, 1, none⟩ v) p x0 v x2 x3 :=
  ⟨⟨by simpa [go_sem] using h.1.1, World.cell?_setCell_same _ _ _ h.1.2.1, by simpa [go_sem] using h.1.2.2.1, by simpa [go_sem] using h.1.2.2.2⟩, fun j => by simpa using h.2 j⟩
theorem C4.set2 {u : World} {p : Nat} {x0 x1 x2 x3 : Value} (h : C4 u p x0 x1 x2 x3) (v : Value) : C4 (u.setCell ⟨p, 2, none⟩ v) p x0 x1 v x3 :=
  ⟨⟨by simpa [go_sem] using h.1.1, by simpa [go_sem] using h.1.2.1, World.cell?_setCell_same _ _ _ h.1.2.2.1, by simpa [go_sem] using h.1.2.2.2⟩, fun j => by simpa using h.2 j⟩
theorem C4.set3 {u : World} {p : Nat} {x0 x1 x2 x3 : Value} (h : C4 u p x0 x1 x2 x3) (v : Value) : C4 (u.setCell ⟨p, 3, none⟩ v) p x0 x1 x2 v :=
  ⟨⟨by simpa [go_sem] using h.1.1, by simpa [go_sem] using h.1.2.1, by simpa [go_sem] using h.1.2.2.1, World.cell?_setCell_same _ _ _ h.1.2.2.2⟩, fun j => by simpa using h.2 j⟩
theorem c4_new (u : World) (x0 x1 x2 x3 : Value) (t : TypeId) : C4 (u.alloc (.cells #[x0, x1, x2, x3] t)) u.heap.size x0 x1 x2 x3 := ⟨⟨by simp, by simp, by simp, by simp⟩, fun j => by simp⟩

/-- What came in may be read. -/
theorem ftlRows_set {w : World} {base p k : Nat} {v : Value} {e : TypeId} {n : Nat} {xs : List Value} (h : w.ownsRow base e 1 v n xs) (hp : p < base) (u : Value) : (w.setCell ⟨p, k, none⟩ u).ownsRow base e 1 v n xs := ownsRow_setCell_below h hp u

set_option maxRecDepth 100000 in
set_option maxHeartbeats 3200000 in
theorem toFtl_any (a b e0 : Option Addr) (ps : List ByteArray) (ws ms : List Int) (c d f : Nat) (q : Int) (w : World) (hp : Rd w a (vsString ps)) (hw : Rd w b (vsInt ws)) (hms : Rd w e0 (vsInt ms)) (hl : ps.length ≤ 1048576) (hm : ws.length ≤ 1048576) (hn : ms.length ≤ 1048576) :
    Calls Tryz.prog 8 #[.agg #[.slice a ps.length c, .slice b ws.length d, .slice e0 ms.length f, .int .i64 q]] w fun e w' => ∃ v, e = .returned v ∧ FtlOwn w' w.heap.size v ps ws ms q ∧ Below w.heap.size w w' := by
  obtain ⟨A, hA⟩ : ∃ A, A = w.alloc (Obj.cells #[.slice a ps.length c, .slice b ws.length d, .slice e0 ms.length f, .int .i64 q] 27) := ⟨_, rfl⟩
  obtain ⟨A2, hA2⟩ : ∃ A2, A2 = A.alloc (Obj.cells #[.slice none 0 0, .slice none 0 0, .slice none 0 0, .int .i64 0] 34) := ⟨_, rfl⟩
  obtain ⟨W, hW⟩ : ∃ W, W = A2.alloc (Obj.cells #[.slice none 0 0, .slice none 0 0, .slice none 0 0, .int .i64 0] 34) := ⟨_, rfl⟩
  have hsA : A.heap.size = w.heap.size + 1 := by rw [hA]; simp
  have hsA2 : A2.heap.size = w.heap.size + 1 + 1 := by rw [hA2]; simp [hsA]
  have hb0 : Below w.heap.size w A := by rw [hA]; exact (Below.refl _ _).alloc (Nat.le_refl _) _
  have hb1 : Below A.heap.size A A2 := by rw [hA2]; exact (Below.refl _ _).alloc (Nat.le_refl _) _
  have hb2 : Below A2.heap.size A2 W := by rw [hW]; exact (Below.refl _ _).alloc (Nat.le_refl _) _
  have k0 : C4 W w.heap.size (.slice a ps.length c) (.slice b ws.length d) (.slice e0 ms.length f) (.int .i64 q) := by
    have : C4 A w.heap.size (.slice a ps.length c) (.slice b ws.length d) (.slice e0 ms.length f) (.int .i64 q) := by rw [hA]; exact c4_new _ _ _ _ _ _
    exact (this.below hb1).below hb2
  have k1 : C4 W (w.heap.size + 1) (.slice none 0 0) (.slice none 0 0) (.slice none 0 0) (.int .i64 0) := by
    have : C4 A2 A.heap.size (.slice none 0 0) (.slice none 0 0) (.slice none 0 0) (.int .i64 0) := by rw [hA2]; exact c4_new _ _ _ _ _ _
    rw [hsA] at this
    exact this.below hb2
  have k2 : C4 W (w.heap.size + 1 + 1) (.slice none 0 0) (.slice none 0 0) (.slice none 0 0) (.int .i64 0) := by
    have : C4 W A2.heap.size (.slice none 0 0) (.slice none 0 0) (.slice none 0 0) (.int .i64 0) := by rw [hW]; exact c4_new _ _ _ _ _ _
    rw [hsA2] at this
    exact this
  have hbW : Below w.heap.size w W := after (after hb0 hb1) hb2
  have hsW : w.heap.size + 1 + 1 < W.heap.size := k2.lt
  have hp1 := hp.below hbW
  have hw1 := hw.below hbW
  have hms1 := hms.below hbW
  have HMS := hide hms
  clear hp hw hms hb0 hb1 hb2 hsA hsA2 hms1
  obtain ⟨⟨c00, c01, c02, c03⟩, -⟩ := id k0
  go_enter Tryz.func8, Tryz.ntmps8
  go_wp2_with fail
  rw [← hA]
  rw [← hA2]
  rw [← hW]
  clear hA hA2 hW
  refine (toChip_any a b ps ws c d W hp1 hw1 hl hm).mono ?_
  rintro e w1 ⟨v, rfl, hown, hb1⟩
  obtain ⟨a1, c1, b1, d1, rfl, ho1, ho2, hne⟩ := own_open hown
  have hWw1 := hb1.size
  have K0 := k0.below hb1
  have K1 := k1.below hb1
  have K2 := k2.below hb1
  have hbw1 := after hbW hb1
  obtain ⟨U, hU⟩ : ∃ U, U = (w1.setCell ⟨w.heap.size + 1 + 1, 0, none⟩ (.slice a1 ps.length c1)).setCell ⟨w.heap.size + 1 + 1, 1, none⟩ (.slice b1 ws.length d1) := ⟨_, rfl⟩
  have hsU : U.heap.size = w1.heap.size := by rw [hU]; simp [World.setCell]
  have L0 : C4 U w.heap.size (.slice a ps.length c) (.slice b ws.length d) (.slice e0 ms.length f) (.int .i64 q) := by rw [hU]; exact (K0.other (by omega) _).other (by omega) _
  have L1 : C4 U (w.heap.size + 1) (.slice none 0 0) (.slice none 0 0) (.slice none 0 0) (.int .i64 0) := by rw [hU]; exact (K1.other (by omega) _).other (by omega) _
  have L2 : C4 U (w.heap.size + 1 + 1) (.slice a1 ps.length c1) (.slice b1 ws.length d1) (.slice none 0 0) (.int .i64 0) := by rw [hU]; exact (K2.set0 _).set1 _
  have hbU : Below w.heap.size w U := by rw [hU]; exact (hbw1.setCell (by show _ ≤ _; simp; omega) _).setCell (by show _ ≤ _; simp; omega) _
  have hbmU : Below w.heap.size w1 U := by rw [hU]; exact ((Below.refl _ _).setCell (by show _ ≤ _; simp; omega) _).setCell (by show _ ≤ _; simp; omega) _
  have P1 : U.ownsRow W.heap.size 9 1 (.slice a1 ps.length c1) ps.length (vsString ps) := by rw [hU]; exact ftlRows_set (ftlRows_set ho1 hsW _) hsW _
  have P2 : U.ownsRow W.heap.size 3 1 (.slice b1 ws.length d1) ws.length (vsInt ws) := by rw [hU]; exact ftlRows_set (ftlRows_set ho2 hsW _) hsW _
  obtain ⟨⟨u0, u1, -⟩, uf⟩ := id K2
  have uf0 := uf 0
  have uf1 := uf 1
  obtain ⟨⟨-, -, v2, -⟩, -⟩ := id K0
  clear hown ho1 ho2 k0 k1 k2 c00 c01 c02 c03 hb1 hp1 hw1 hbW uf
  have HU := hide hsU
  clear hsU
  go_wp2_with fail
  rw [← hU]
  clear hU u0 u1 uf0 uf1 v2 K0 K1 K2 hbmU hbw1
  refine (toIntS_any e0 ms f U (HMS.out.below hbU) (by omega)).mono ?_
  rintro e w2 ⟨rfl, ho3, hb2⟩
  obtain ⟨g, hg⟩ : ∃ g, g = U.heap.size := ⟨_, rfl⟩
  rw [← hg] at ho3 ⊢
  have N0 := L0.below hb2
  have N1 := L1.below hb2
  have N2 := L2.below hb2
  have Q1 := owns_below P1 hb2
  have Q2 := owns_below P2 hb2
  have hbw2 := after hbU hb2
  have hgW : W.heap.size ≤ g := by have := HU.out; omega
  have r1 : ∀ k, (Value.slice a1 ps.length c1).ownBlock = some k → k < g := fun k hk => by have := (P1.lt k hk).2; omega
  have r2 : ∀ k, (Value.slice b1 ws.length d1).ownBlock = some k → k < g := fun k hk => by have := (P2.lt k hk).2; omega
  have HR := hide (And.intro r1 (And.intro r2 hne))
  clear r1 r2 hne
  obtain ⟨⟨-, -, -, n03⟩, -⟩ := id N0
  obtain ⟨⟨n10, n11, n12, n13⟩, nf1⟩ := id N1
  obtain ⟨⟨n20, n21, n22, n23⟩, nf2⟩ := id N2
  have f10 := nf1 0
  have f11 := nf1 1
  have f12 := nf1 2
  have f13 := nf1 3
  have f22 := nf2 2
  have f23 := nf2 3
  clear L0 L1 L2 P1 P2 hb2 hbU N0 N1 N2 nf1 nf2 hg
  have HQ := hide (And.intro Q1 (And.intro Q2 ho3))
  clear Q1 Q2 ho3
  go_wp2
  have hW1 : w.heap.size + 1 < W.heap.size := by omega
  have hg1 : w.heap.size + 1 < g := by omega
  have hg2 : w.heap.size + 1 + 1 < g := by omega
  refine bodyPost_ret (v := .agg #[.slice a1 ps.length c1, .slice b1 ws.length d1, .slice (some ⟨g, 0, none⟩) ms.length ms.length, .int .i64 q]) (by simp [results, Tryz.results8, go_sem, n10, n11, n12, n13]) rfl ⟨_, rfl, ⟨_, _, _, rfl, ?_, ?_, ?_, HR.out.2.2, ?_, ?_⟩, (((((hbw2.setCell (by show _ ≤ _; simp; omega) _).setCell (by show _ ≤ _; simp; omega) _).setCell (by show _ ≤ _; simp) _).setCell (by show _ ≤ _; simp) _).setCell (by show _ ≤ _; simp) _).setCell (by show _ ≤ _; simp) _⟩
  · exact owns_mono (ftlRows_set (ftlRows_set (ftlRows_set (ftlRows_set (ftlRows_set (ftlRows_set HQ.out.1 hsW _) hsW _) hW1 _) hW1 _) hW1 _) hW1 _) (by omega)
  · exact owns_mono (ftlRows_set (ftlRows_set (ftlRows_set (ftlRows_set (ftlRows_set (ftlRows_set HQ.out.2.1 hsW _) hsW _) hW1 _) hW1 _) hW1 _) hW1 _) (by omega)
  · exact owns_mono (ftlRows_set (ftlRows_set (ftlRows_set (ftlRows_set (ftlRows_set (ftlRows_set HQ.out.2.2 hg2 _) hg2 _) hg1 _) hg1 _) hg1 _) hg1 _) (by omega)
  · intro k hk; have := HR.out.1 k hk; simp [Value.ownBlock]; omega
  · intro k hk; have := HR.out.2.1 k hk; simp [Value.ownBlock]; omega

set_option maxHeartbeats 1600000 in
theorem szFtl_any (a b e0 : Option Addr) (ps : List ByteArray) (n m c d f : Nat) (q : Int) (l : Nat) (w : World) (hp : Rd w a (vsString ps)) (hn : ps.length ≤ maxLen) (hs : ∀ s ∈ ps, s.size ≤ maxLen) (hm : n ≤ maxLen) (hk : m ≤ maxLen) (hl : l ≤ 1048576) :
    Calls Tryz.prog 5 #[.agg #[.slice a ps.length c, .slice b n d, .slice e0 m f, .int .i64 q], .int .i64 l] w fun e w' => (∃ r : Int, e = .returned (.int .i64 r) ∧ -1 ≤ r ∧ r ≤ l ∧ (0 ≤ r → ps.length ≤ l ∧ (∀ s ∈ ps, s.size ≤ l) ∧ n ≤ l ∧ m ≤ l)) ∧ Below w.heap.size w w' := by
  obtain ⟨W, hW⟩ : ∃ W, W = w.alloc (Obj.cells #[.slice a ps.length c, .slice b n d, .slice e0 m f, .int .i64 q] 27) := ⟨_, rfl⟩
  have hbW : Below w.heap.size w W := by subst hW; exact (Below.refl _ _).alloc (Nat.le_refl _) _
  have x2 : W.cell? ⟨w.heap.size, 2, none⟩ = some (.slice e0 m f) := by subst hW; simp
  have hsz : w.heap.size < W.heap.size := by subst hW; simp
  go_enter Tryz.func5, Tryz.ntmps5
  go_wp2_with fail
  rw [← hW]
  clear hW
  refine (szChip_any a b ps n c d l W (hp.below hbW) hn hs hm hl).mono ?_
  rintro e w1 ⟨⟨r, rfl, hr0, hr1, hr2⟩, hb1⟩
  have hbw1 := after hbW hb1
  have y2 := (hb1.cell (p := ⟨w.heap.size, 2, none⟩) hsz).trans x2
  clear hb1 hbW x2 hp hs
  by_cases hneg : r < 0
  · clear hr2
    go_wp2
    go_ret
    exact ⟨⟨-1, rfl, by omega, by omega, fun h => by omega⟩, hbw1⟩
  · obtain ⟨R, rfl⟩ : ∃ R : Nat, r = R := ⟨r.toNat, by omega⟩
    have HR := hide (hr2 (by omega))
    clear hr2
    go_wp2_with fail
    refine (szIntS_any e0 m f R w1 hk (by omega)).mono ?_
    rintro e u ⟨⟨r2, rfl, hs0, hs1, hs2⟩, hu⟩
    have hu' := hu.symm
    subst hu'
    have HS := hide hs2
    clear hs2
    by_cases hneg2 : r2 < 0
    · go_wp2
      go_ret
      exact ⟨⟨-1, rfl, by omega, by omega, fun h => by omega⟩, hbw1⟩
    · go_wp2
      go_ret
      exact ⟨⟨r2, rfl, by omega, by omega, fun h => ⟨HR.out.1, HR.out.2.1, HR.out.2.2, by have := HS.out h; omega⟩⟩, hbw1⟩

set_option maxHeartbeats 1600000 in
theorem eqFtl_same (a b e0 a' b' e1 : Option Addr) (ps : List ByteArray) (ws ms : List Int) (c d f c' d' f' : Nat) (q : Int) (w : World) (hp : Rd w a (vsString ps)) (hw : Rd w b (vsInt ws)) (hms : Rd w e0 (vsInt ms)) (hp' : Rd w a' (vsString ps)) (hw' : Rd w b' (vsInt ws)) (hms' : Rd w e1 (vsInt ms)) (hl : ps.length ≤ 1048576) (hm : ws.length ≤ 1048576) (hn : ms.length ≤ 1048576) :
    Calls Tryz.prog 12 #[.agg #[.slice a ps.length c, .slice b ws.length d, .slice e0 ms.length f, .int .i64 q], .agg #[.slice a' ps.length c', .slice b' ws.length d', .slice e1 ms.length f', .int .i64 q]] w fun e w' => e = .returned (.bool true) ∧ Below w.heap.size w w' := by
  obtain ⟨A, hA⟩ : ∃ A, A = w.alloc (Obj.cells #[.slice a ps.length c, .slice b ws.length d, .slice e0 ms.length f, .int .i64 q] 34) := ⟨_, rfl⟩
  obtain ⟨W, hW⟩ : ∃ W, W = A.alloc (Obj.cells #[.slice a' ps.length c', .slice b' ws.length d', .slice e1 ms.length f', .int .i64 q] 34) := ⟨_, rfl⟩
  have hsA : A.heap.size = w.heap.size + 1 := by rw [hA]; simp
  have hb0 : Below w.heap.size w A := by rw [hA]; exact (Below.refl _ _).alloc (Nat.le_refl _) _
  have hb1 : Below A.heap.size A W := by rw [hW]; exact (Below.refl _ _).alloc (Nat.le_refl _) _
  have hbW := after hb0 hb1
  have k0 : C4 W w.heap.size (.slice a ps.length c) (.slice b ws.length d) (.slice e0 ms.length f) (.int .i64 q) := by
    have : C4 A w.heap.size (.slice a ps.length c) (.slice b ws.length d) (.slice e0 ms.length f) (.int .i64 q) := by rw [hA]; exact c4_new _ _ _ _ _ _
    exact this.below hb1
  have k1 : C4 W (w.heap.size + 1) (.slice a' ps.length c') (.slice b' ws.length d') (.slice e1 ms.length f') (.int .i64 q) := by
    have : C4 W A.heap.size (.slice a' ps.length c') (.slice b' ws.length d') (.slice e1 ms.length f') (.int .i64 q) := by rw [hW]; exact c4_new _ _ _ _ _ _
    rw [hsA] at this
    exact this
  have HR := hide (And.intro (hp.below hbW) (And.intro (hw.below hbW) (And.intro (hms.below hbW) (And.intro (hp'.below hbW) (And.intro (hw'.below hbW) (hms'.below hbW))))))
  clear hp hw hms hp' hw' hms' hsA hb0 hb1
  go_enter Tryz.func12, Tryz.ntmps12
  go_wp2_with fail
  rw [← hA]
  rw [← hW]
  clear hA hW
  refine (eqChip_same a b a' b' ps ws c d c' d' W HR.out.1 HR.out.2.1 HR.out.2.2.2.1 HR.out.2.2.2.2.1 hl hm).mono ?_
  rintro e w1 ⟨rfl, hb1⟩
  obtain ⟨⟨-, -, x2, x3⟩, -⟩ := id (k0.below hb1)
  obtain ⟨⟨-, -, y2, y3⟩, -⟩ := id (k1.below hb1)
  have hbw1 := after hbW hb1
  have HM := hide (And.intro (HR.out.2.2.1.below hb1) (HR.out.2.2.2.2.2.below hb1))
  clear k0 k1 hb1 hbW HR
  go_wp2_with fail
  refine (eqIntS_any e0 e1 ms ms f f' w1 HM.out.1 HM.out.2 (by omega) (by omega)).mono ?_
  rw [show decide (ms = ms) = true by simp]
  rintro e u ⟨rfl, n, hu⟩
  have z3 : u.cell? ⟨w.heap.size, 3, none⟩ = some (.int .i64 q) := by rw [hu]; exact x3
  have z4 : u.cell? ⟨w.heap.size + 1, 3, none⟩ = some (.int .i64 q) := by rw [hu]; exact y3
  have hbu : Below w.heap.size w u := by rw [hu]; exact after_drew hbw1 n
  clear hu x2 x3 y2 y3 hbw1 HM
  go_wp2
  go_ret
  exact ⟨rfl, hbu⟩

/-- Two values that lie in no one block. -/
abbrev Apart (v u : Value) : Prop := ∀ k, v.ownBlock = some k → u.ownBlock ≠ some k

set_option maxHeartbeats 1600000 in
theorem markFtl_any (a b e0 : Option Addr) (n m l c d f base q : Nat) (z : Int) (xs ys zs : List Value) (w : World) (h1 : w.ownsRow base 9 1 (.slice a n c) n xs) (h2 : w.ownsRow base 3 1 (.slice b m d) m ys) (h3 : w.ownsRow base 3 1 (.slice e0 l f) l zs)
    (a12 : Apart (.slice a n c) (.slice b m d)) (a13 : Apart (.slice a n c) (.slice e0 l f)) (a23 : Apart (.slice b m d) (.slice e0 l f)) (hn : n ≤ 1048576) (hm : m ≤ 1048576) (hl : l ≤ 1048576) (hq0 : 0 < q) (hq : q ≤ 1000000) :
    Calls Tryz.prog 14 #[.agg #[.slice a n c, .slice b m d, .slice e0 l f, .int .i64 z], .int .i64 q] w fun e w' => e = .returned (.int .i64 ((q + n + m + l : Nat) : Int)) ∧ w'.ownsRow base 9 1 (.slice a n c) n (marksT q n) ∧ w'.ownsRow base 3 1 (.slice b m d) m (marksI (q + n) m) ∧ w'.ownsRow base 3 1 (.slice e0 l f) l (marksI (q + n + m) l) ∧
      OnlyIn w w' [(Value.slice a n c).ownBlock, (Value.slice b m d).ownBlock, (Value.slice e0 l f).ownBlock] := by
  obtain ⟨W, hW⟩ : ∃ W, W = w.alloc (Obj.cells #[.slice a n c, .slice b m d, .slice e0 l f, .int .i64 z] 34) := ⟨_, rfl⟩
  have hbW : Below w.heap.size w W := by rw [hW]; exact (Below.refl _ _).alloc (Nat.le_refl _) _
  have k0 : C4 W w.heap.size (.slice a n c) (.slice b m d) (.slice e0 l f) (.int .i64 z) := by rw [hW]; exact c4_new _ _ _ _ _ _
  have na : ∀ k, (Value.slice a n c).ownBlock = some k → k < w.heap.size := fun k hk => (h1.lt k hk).2
  have nb : ∀ k, (Value.slice b m d).ownBlock = some k → k < w.heap.size := fun k hk => (h2.lt k hk).2
  have HH := hide (And.intro (owns_below h1 hbW) (And.intro (owns_below h2 hbW) (owns_below h3 hbW)))
  have HAP := hide (And.intro a12 (And.intro a13 a23))
  have HN := hide (And.intro na nb)
  have HBW := hide hbW
  clear h1 h2 h3 a12 a13 a23 na nb hbW
  obtain ⟨⟨x0, x1, x2, -⟩, -⟩ := id k0
  go_enter Tryz.func14, Tryz.ntmps14
  go_wp2_with fail
  rw [← hW]
  clear hW
  refine (markChip_any a b n m c d base q xs ys W HH.out.1 HH.out.2.1 HAP.out.1 hn hm hq0 hq).mono ?_
  rintro e w1 ⟨rfl, o1, o2, on1⟩
  have y2 : w1.cell? ⟨w.heap.size, 2, none⟩ = some (.slice e0 l f) := by
    have hb := on1.block w.heap.size k0.lt (by
      intro hk
      simp only [List.mem_cons, List.not_mem_nil, or_false] at hk
      rcases hk with hk | hk
      · have := HN.out.1 _ hk.symm; omega
      · have := HN.out.2 _ hk.symm; omega)
    simp only [World.cell?] at x2 ⊢
    rw [hb]; exact x2
  have o3 : w1.ownsRow base 3 1 (.slice e0 l f) l zs := on1.owns HH.out.2.2 (fun k hk hc => by
    simp only [List.mem_cons, List.not_mem_nil, or_false] at hc
    rcases hc with hc | hc
    · exact HAP.out.2.1 k hc.symm hk
    · exact HAP.out.2.2 k hc.symm hk)
  have HO := hide (And.intro o1 (And.intro o2 on1))
  clear k0 x0 x1 x2 o1 o2 on1
  go_wp2_with fail
  refine (markIntS_any (.slice e0 l f) l zs base (q + n + m) w1 o3 hl (by omega)).mono ?_
  rintro e w2 ⟨rfl, o3', hg2⟩
  have p1 : w2.ownsRow base 9 1 (.slice a n c) n (marksT q n) := HO.out.1.kept hg2 (by
    cases hv : (Value.slice a n c).ownBlock with
    | none => exact .inl rfl
    | some k => right; intro e; exact HAP.out.2.1 k hv e.symm)
  have p2 : w2.ownsRow base 3 1 (.slice b m d) m (marksI (q + n) m) := HO.out.2.1.kept hg2 (by
    cases hv : (Value.slice b m d).ownBlock with
    | none => exact .inl rfl
    | some k => right; intro e; exact HAP.out.2.2 k hv e.symm)
  have on2 : OnlyIn w w2 [(Value.slice a n c).ownBlock, (Value.slice b m d).ownBlock, (Value.slice e0 l f).ownBlock] := by
    have := ((OnlyIn.of_below HBW.out []).trans HO.out.2.2).trans (OnlyIn.of_grown hg2)
    simpa using this
  clear hg2 o3 y2 HO
  go_wp2
  go_ret
  exact ⟨rfl, p1, p2, o3', on2⟩

set_option maxHeartbeats 1600000 in
theorem heldFtl_any (a b e0 : Option Addr) (n m l c d f base q : Nat) (z : Int) (w : World) (h1 : w.ownsRow base 9 1 (.slice a n c) n (marksT q n)) (h2 : w.ownsRow base 3 1 (.slice b m d) m (marksI (q + n) m)) (h3 : w.ownsRow base 3 1 (.slice e0 l f) l (marksI (q + n + m) l)) (hn : n ≤ 1048576) (hm : m ≤ 1048576) (hl : l ≤ 1048576) (hq0 : 0 < q) (hq : q ≤ 1000000) :
    Calls Tryz.prog 18 #[.agg #[.slice a n c, .slice b m d, .slice e0 l f, .int .i64 z], .int .i64 q] w fun e w' => e = .returned (.int .i64 ((q + n + m + l : Nat) : Int)) ∧ Below w.heap.size w w' := by
  obtain ⟨W, hW⟩ : ∃ W, W = w.alloc (Obj.cells #[.slice a n c, .slice b m d, .slice e0 l f, .int .i64 z] 34) := ⟨_, rfl⟩
  have hbW : Below w.heap.size w W := by rw [hW]; exact (Below.refl _ _).alloc (Nat.le_refl _) _
  have k0 : C4 W w.heap.size (.slice a n c) (.slice b m d) (.slice e0 l f) (.int .i64 z) := by rw [hW]; exact c4_new _ _ _ _ _ _
  have HH := hide (And.intro (owns_below h1 hbW) (And.intro (owns_below h2 hbW) (owns_below h3 hbW)))
  clear h1 h2 h3
  go_enter Tryz.func18, Tryz.ntmps18
  go_wp2_with fail
  rw [← hW]
  clear hW
  refine (heldChip_any a b n m c d base q W HH.out.1 HH.out.2.1 hn hm hq0 hq).mono ?_
  rintro e w1 ⟨rfl, hb1⟩
  obtain ⟨⟨-, -, x2, -⟩, -⟩ := id (k0.below hb1)
  have o3 := owns_below HH.out.2.2 hb1
  have hbw1 := after hbW hb1
  have hneg : ¬ (((q + n + m : Nat) : Int) < 0) := by omega
  clear k0 hb1 hbW HH
  go_wp2_with fail
  refine (heldIntS_any (.slice e0 l f) l base (q + n + m) w1 o3 hl (by omega)).mono ?_
  rintro e u ⟨rfl, hu⟩
  have hu' := hu.symm
  subst hu'
  have hneg2 : ¬ (((q + n + m + l : Nat) : Int) < 0) := by omega
  clear o3
  go_wp2
  go_ret
  exact ⟨rfl, hbw1⟩

end Go.Proofs.YtdicjbabnknjhaaGreat

namespace Go.Proofs.YtdicjbabnknjhaaGreat
open Go.RowKit

/-- The variable at block p holds the cells xs. -/
def At (u : World) (p : Nat) (xs : List Value) : Prop := p < u.heap.size ∧ ∀ i, i < xs.length → u.cell? ⟨p, i, none⟩ = xs[i]?
theorem At.below {u u' : World} {p : Nat} {xs : List Value} (h : At u p xs) (hb : Below u.heap.size u u') : At u' p xs :=
  ⟨Nat.lt_of_lt_of_le h.1 hb.size, fun i hi => (hb.cell (p := ⟨p, i, none⟩) h.1).trans (h.2 i hi)⟩
theorem At.only {u u' : World} {p : Nat} {xs : List Value} {L : List (Option Nat)} (h : At u p xs) (hO : OnlyIn u u' L) (hn : some p ∉ L) : At u' p xs := by
  have hb := hO.block p h.1 hn
  refine ⟨Nat.lt_of_lt_of_le h.1 hO.size, fun i hi => ?_⟩
  have := h.2 i hi
  simp only [World.cell?] at this ⊢
  rw [hb]; exact this
theorem at_new (u : World) (xs : List Value) (t : TypeId) : At (u.alloc (.cells xs.toArray t)) u.heap.size xs :=
  ⟨by simp, fun i _ => by simp⟩

/-- The blocks of a value. -/
def bk : Value → List (Option Nat)
  | .agg xs => xs.toList.map Value.ownBlock
  | v => [v.ownBlock]

theorem owns_shape {w : World} {base : Nat} {e : TypeId} {v : Value} {n : Nat} {xs : List Value} (h : w.ownsRow base e 1 v n xs) : ∃ a c, v = .slice a n c := by
  rcases h with ⟨_, ⟨rfl, rfl⟩ | ⟨g, cap, cur, rfl, -⟩⟩
  · exact ⟨_, _, rfl⟩
  · exact ⟨_, _, rfl⟩

/-- Each slice of it has room for its length. -/
def CapOk (v : Value) : Prop := ∀ (x : Value) (a : Option Addr) (n c : Nat), x ∈ v.cells.toList → x = .slice a n c → n ≤ c
theorem owns_cap {w : World} {base : Nat} {e : TypeId} {a : Option Addr} {n c m : Nat} {xs : List Value} (h : w.ownsRow base e 1 (.slice a n c) m xs) : n ≤ c := by
  rcases h with ⟨_, ⟨h, rfl⟩ | ⟨g, cap, cur, h, _, _, h', _⟩⟩
  · simp at h; omega
  · simp at h; omega

/-! Chips. -/
theorem ChipOwn.shape {u : World} {base : Nat} {v : Value} {ps : List ByteArray} {ws : List Int} (h : ChipOwn u base v ps ws) : ∃ a c b d, v = .agg #[.slice a ps.length c, .slice b ws.length d] := by
  obtain ⟨a, c, b, d, rfl, -⟩ := own_open h
  exact ⟨a, c, b, d, rfl⟩
theorem ChipOwn.rd {u : World} {base : Nat} {v : Value} {ps : List ByteArray} {ws : List Int} (h : ChipOwn u base v ps ws) : ChipRd u v ps ws := by
  obtain ⟨a, c, b, d, rfl, h1, h2, -⟩ := own_open h
  exact ⟨a, c, b, d, rfl, rd_of_own h1, rd_of_own h2⟩
theorem ChipRd.below {u u' : World} {v : Value} {ps : List ByteArray} {ws : List Int} (h : ChipRd u v ps ws) (hb : Below u.heap.size u u') : ChipRd u' v ps ws := by
  obtain ⟨a, c, b, d, rfl, h1, h2⟩ := h
  exact ⟨a, c, b, d, rfl, h1.below hb, h2.below hb⟩
theorem ChipOwn.below {u u' : World} {base : Nat} {v : Value} {ps : List ByteArray} {ws : List Int} (h : ChipOwn u base v ps ws) (hb : Below u.heap.size u u') : ChipOwn u' base v ps ws := by
  obtain ⟨v1, v2, rfl, h1, h2, h3⟩ := h
  exact ⟨v1, v2, rfl, owns_below h1 hb, owns_below h2 hb, h3⟩
theorem ChipOwn.only {u u' : World} {base : Nat} {v : Value} {ps : List ByteArray} {ws : List Int} {L : List (Option Nat)} (h : ChipOwn u base v ps ws) (hO : OnlyIn u u' L) (hn : ∀ k, some k ∈ bk v → some k ∉ L) : ChipOwn u' base v ps ws := by
  obtain ⟨v1, v2, rfl, h1, h2, h3⟩ := h
  exact ⟨v1, v2, rfl, hO.owns h1 (fun k hk => hn k (by simp [bk, hk])), hO.owns h2 (fun k hk => hn k (by simp [bk, hk])), h3⟩
theorem ChipOwn.blk {u : World} {base : Nat} {v : Value} {ps : List ByteArray} {ws : List Int} (h : ChipOwn u base v ps ws) {k : Nat} (hk : some k ∈ bk v) : base ≤ k ∧ k < u.heap.size := by
  obtain ⟨v1, v2, rfl, h1, h2, h3⟩ := h
  simp only [bk, List.map_cons, List.map_nil, List.mem_cons, List.not_mem_nil, or_false] at hk
  rcases hk with hk | hk
  · exact h1.lt k hk.symm
  · exact h2.lt k hk.symm
theorem ChipOwn.cap {u : World} {base : Nat} {v : Value} {ps : List ByteArray} {ws : List Int} (h : ChipOwn u base v ps ws) : CapOk v := by
  obtain ⟨v1, v2, rfl, h1, h2, -⟩ := h
  intro x a n c hx hs
  subst hs
  simp only [Value.cells, List.mem_cons, List.not_mem_nil, or_false] at hx
  rcases hx with rfl | rfl
  · exact owns_cap h1
  · exact owns_cap h2
theorem chip_caps {a b : Option Addr} {n m c d : Nat} (h : CapOk (.agg #[.slice a n c, .slice b m d])) : n ≤ c ∧ m ≤ d :=
  ⟨h _ a n c (by simp [Value.cells]) rfl, h _ b m d (by simp [Value.cells]) rfl⟩
/-- A chip with marks from q on. -/
def ChipMk (u : World) (base : Nat) (v : Value) (n m q : Nat) : Prop :=
  ∃ a c b d, v = .agg #[.slice a n c, .slice b m d] ∧ u.ownsRow base 9 1 (.slice a n c) n (marksT q n) ∧ u.ownsRow base 3 1 (.slice b m d) m (marksI (q + n) m)
theorem ChipMk.below {u u' : World} {base : Nat} {v : Value} {n m q : Nat} (h : ChipMk u base v n m q) (hb : Below u.heap.size u u') : ChipMk u' base v n m q := by
  obtain ⟨a, c, b, d, rfl, h1, h2⟩ := h
  exact ⟨a, c, b, d, rfl, owns_below h1 hb, owns_below h2 hb⟩
theorem chip_to {u : World} {v : Value} {ps : List ByteArray} {ws : List Int} (h : ChipRd u v ps ws) (hl : ps.length ≤ 1048576) (hm : ws.length ≤ 1048576) :
    Calls Tryz.prog 29 #[v] u fun e w' => ∃ v, e = .returned v ∧ ChipOwn w' u.heap.size v ps ws ∧ Below u.heap.size u w' := by
  obtain ⟨a, c, b, d, rfl, h1, h2⟩ := h
  exact toChip_any a b ps ws c d u h1 h2 hl hm
theorem chip_eq {u : World} {v v' : Value} {ps : List ByteArray} {ws : List Int} (h : ChipRd u v ps ws) (h' : ChipRd u v' ps ws) (hl : ps.length ≤ 1048576) (hm : ws.length ≤ 1048576) :
    Calls Tryz.prog 39 #[v, v'] u fun e w' => e = .returned (.bool true) ∧ Below u.heap.size u w' := by
  obtain ⟨a, c, b, d, rfl, h1, h2⟩ := h
  obtain ⟨a', c', b', d', rfl, h1', h2'⟩ := h'
  exact eqChip_same a b a' b' ps ws c d c' d' u h1 h2 h1' h2' hl hm
theorem chip_mark {u : World} {base : Nat} {v : Value} {ps : List ByteArray} {ws : List Int} {q : Nat} (h : ChipOwn u base v ps ws) (hl : ps.length ≤ 1048576) (hm : ws.length ≤ 1048576) (hq0 : 0 < q) (hq : q ≤ 1000000) :
    Calls Tryz.prog 42 #[v, .int .i64 q] u fun e w' => e = .returned (.int .i64 ((q + ps.length + ws.length : Nat) : Int)) ∧ ChipMk w' base v ps.length ws.length q ∧ OnlyIn u w' (bk v) := by
  obtain ⟨a, c, b, d, rfl, h1, h2, h3⟩ := own_open h
  refine (markChip_any a b ps.length ws.length c d base q _ _ u h1 h2 h3 hl hm hq0 hq).mono ?_
  rintro e w' ⟨rfl, k1, k2, hO⟩
  exact ⟨rfl, ⟨a, c, b, d, rfl, k1, k2⟩, hO⟩
theorem chip_held {u : World} {base : Nat} {v : Value} {n m q : Nat} (h : ChipMk u base v n m q) (hl : n ≤ 1048576) (hm : m ≤ 1048576) (hq0 : 0 < q) (hq : q ≤ 1000000) :
    Calls Tryz.prog 45 #[v, .int .i64 q] u fun e w' => e = .returned (.int .i64 ((q + n + m : Nat) : Int)) ∧ Below u.heap.size u w' := by
  obtain ⟨a, c, b, d, rfl, h1, h2⟩ := h
  exact heldChip_any a b n m c d base q u h1 h2 hl hm hq0 hq

theorem chip_sz {u : World} {v : Value} {ps : List ByteArray} {ws : List Int} (l : Nat) (h : ChipRd u v ps ws) (hn : ps.length ≤ maxLen) (hm : ws.length ≤ maxLen) (hs : ∀ s ∈ ps, s.size ≤ maxLen) (hl : l ≤ 1048576) :
    Calls Tryz.prog 21 #[v, .int .i64 l] u fun e w' => (∃ r : Int, e = .returned (.int .i64 r) ∧ -1 ≤ r ∧ r ≤ l ∧ (0 ≤ r → ps.length ≤ l ∧ ws.length ≤ l ∧ ∀ s ∈ ps, s.size ≤ l)) ∧ Below u.heap.size u w' := by
  obtain ⟨a, c, b, d, rfl, h1, h2⟩ := h
  refine (szChip_any a b ps ws.length c d l u h1 hn hs hm hl).mono ?_
  rintro e w' ⟨⟨r, rfl, k0, k1, k2⟩, hb⟩
  exact ⟨⟨r, rfl, k0, k1, fun h => ⟨(k2 h).1, (k2 h).2.2, (k2 h).2.1⟩⟩, hb⟩

/-! What is mounted. -/
def FtlRd (w : World) (v : Value) (ps : List ByteArray) (ws ms : List Int) (q : Int) : Prop :=
  ∃ a c b d e f, v = .agg #[.slice a ps.length c, .slice b ws.length d, .slice e ms.length f, .int .i64 q] ∧ Rd w a (vsString ps) ∧ Rd w b (vsInt ws) ∧ Rd w e (vsInt ms)
theorem FtlOwn.shape {u : World} {base : Nat} {v : Value} {ps : List ByteArray} {ws ms : List Int} {q : Int} (h : FtlOwn u base v ps ws ms q) : ∃ a c b d e f, v = .agg #[.slice a ps.length c, .slice b ws.length d, .slice e ms.length f, .int .i64 q] := by
  obtain ⟨a, c, b, d, e, f, rfl, -⟩ := ftl_open h
  exact ⟨a, c, b, d, e, f, rfl⟩
theorem FtlOwn.rd {u : World} {base : Nat} {v : Value} {ps : List ByteArray} {ws ms : List Int} {q : Int} (h : FtlOwn u base v ps ws ms q) : FtlRd u v ps ws ms q := by
  obtain ⟨a, c, b, d, e, f, rfl, h1, h2, h3⟩ := ftl_open h
  exact ⟨a, c, b, d, e, f, rfl, rd_of_own h1, rd_of_own h2, rd_of_own h3⟩
theorem FtlRd.below {u u' : World} {v : Value} {ps : List ByteArray} {ws ms : List Int} {q : Int} (h : FtlRd u v ps ws ms q) (hb : Below u.heap.size u u') : FtlRd u' v ps ws ms q := by
  obtain ⟨a, c, b, d, e, f, rfl, h1, h2, h3⟩ := h
  exact ⟨a, c, b, d, e, f, rfl, h1.below hb, h2.below hb, h3.below hb⟩
theorem FtlOwn.below {u u' : World} {base : Nat} {v : Value} {ps : List ByteArray} {ws ms : List Int} {q : Int} (h : FtlOwn u base v ps ws ms q) (hb : Below u.heap.size u u') : FtlOwn u' base v ps ws ms q := by
  obtain ⟨v1, v2, v3, rfl, h1, h2, h3, h4⟩ := h
  exact ⟨v1, v2, v3, rfl, owns_below h1 hb, owns_below h2 hb, owns_below h3 hb, h4⟩
theorem FtlOwn.only {u u' : World} {base : Nat} {v : Value} {ps : List ByteArray} {ws ms : List Int} {q : Int} {L : List (Option Nat)} (h : FtlOwn u base v ps ws ms q) (hO : OnlyIn u u' L) (hn : ∀ k, some k ∈ bk v → some k ∉ L) : FtlOwn u' base v ps ws ms q := by
  obtain ⟨v1, v2, v3, rfl, h1, h2, h3, h4⟩ := h
  exact ⟨v1, v2, v3, rfl, hO.owns h1 (fun k hk => hn k (by simp [bk, hk])), hO.owns h2 (fun k hk => hn k (by simp [bk, hk])), hO.owns h3 (fun k hk => hn k (by simp [bk, hk])), h4⟩
theorem FtlOwn.blk {u : World} {base : Nat} {v : Value} {ps : List ByteArray} {ws ms : List Int} {q : Int} (h : FtlOwn u base v ps ws ms q) {k : Nat} (hk : some k ∈ bk v) : base ≤ k ∧ k < u.heap.size := by
  obtain ⟨v1, v2, v3, rfl, h1, h2, h3, h4⟩ := h
  simp only [bk, List.map_cons, List.map_nil, List.mem_cons, List.not_mem_nil, or_false, Value.ownBlock] at hk
  rcases hk with hk | hk | hk | hk
  · exact h1.lt k hk.symm
  · exact h2.lt k hk.symm
  · exact h3.lt k hk.symm
  · cases hk
def FtlMk (u : World) (base : Nat) (v : Value) (n m l q : Nat) : Prop :=
  ∃ a c b d e f z, v = .agg #[.slice a n c, .slice b m d, .slice e l f, .int .i64 z] ∧ u.ownsRow base 9 1 (.slice a n c) n (marksT q n) ∧ u.ownsRow base 3 1 (.slice b m d) m (marksI (q + n) m) ∧ u.ownsRow base 3 1 (.slice e l f) l (marksI (q + n + m) l)
theorem FtlMk.below {u u' : World} {base : Nat} {v : Value} {n m l q : Nat} (h : FtlMk u base v n m l q) (hb : Below u.heap.size u u') : FtlMk u' base v n m l q := by
  obtain ⟨a, c, b, d, e, f, z, rfl, h1, h2, h3⟩ := h
  exact ⟨a, c, b, d, e, f, z, rfl, owns_below h1 hb, owns_below h2 hb, owns_below h3 hb⟩
theorem ftl_to {u : World} {v : Value} {ps : List ByteArray} {ws ms : List Int} {q : Int} (h : FtlRd u v ps ws ms q) (hl : ps.length ≤ 1048576) (hm : ws.length ≤ 1048576) (hn : ms.length ≤ 1048576) :
    Calls Tryz.prog 8 #[v] u fun e w' => ∃ v, e = .returned v ∧ FtlOwn w' u.heap.size v ps ws ms q ∧ Below u.heap.size u w' := by
  obtain ⟨a, c, b, d, e, f, rfl, h1, h2, h3⟩ := h
  exact toFtl_any a b e ps ws ms c d f q u h1 h2 h3 hl hm hn
theorem ftl_eq {u : World} {v v' : Value} {ps : List ByteArray} {ws ms : List Int} {q : Int} (h : FtlRd u v ps ws ms q) (h' : FtlRd u v' ps ws ms q) (hl : ps.length ≤ 1048576) (hm : ws.length ≤ 1048576) (hn : ms.length ≤ 1048576) :
    Calls Tryz.prog 12 #[v, v'] u fun e w' => e = .returned (.bool true) ∧ Below u.heap.size u w' := by
  obtain ⟨a, c, b, d, e, f, rfl, h1, h2, h3⟩ := h
  obtain ⟨a', c', b', d', e', f', rfl, h1', h2', h3'⟩ := h'
  exact eqFtl_same a b e a' b' e' ps ws ms c d f c' d' f' q u h1 h2 h3 h1' h2' h3' hl hm hn
theorem ftl_mark {u : World} {base : Nat} {v : Value} {ps : List ByteArray} {ws ms : List Int} {z : Int} {q : Nat} (h : FtlOwn u base v ps ws ms z) (hl : ps.length ≤ 1048576) (hm : ws.length ≤ 1048576) (hn : ms.length ≤ 1048576) (hq0 : 0 < q) (hq : q ≤ 1000000) :
    Calls Tryz.prog 14 #[v, .int .i64 q] u fun e w' => e = .returned (.int .i64 ((q + ps.length + ws.length + ms.length : Nat) : Int)) ∧ FtlMk w' base v ps.length ws.length ms.length q ∧ OnlyIn u w' (bk v) := by
  obtain ⟨v1, v2, v3, rfl, h1, h2, h3, a12, a13, a23⟩ := h
  obtain ⟨a, c, rfl⟩ := owns_shape h1
  obtain ⟨b, d, rfl⟩ := owns_shape h2
  obtain ⟨e, f, rfl⟩ := owns_shape h3
  refine (markFtl_any a b e ps.length ws.length ms.length c d f base q z _ _ _ u h1 h2 h3 a12 a13 a23 hl hm hn hq0 hq).mono ?_
  rintro e' w' ⟨rfl, k1, k2, k3, hO⟩
  refine ⟨rfl, ⟨a, c, b, d, e, f, z, rfl, k1, k2, k3⟩, ⟨hO.os, hO.tape, hO.output, hO.size, fun i hi hn => hO.block i hi (fun h => hn ?_)⟩⟩
  simp only [bk, List.map_cons, List.map_nil, List.mem_cons, List.not_mem_nil, or_false] at h ⊢
  rcases h with h | h | h
  · exact .inl h
  · exact .inr (.inl h)
  · exact .inr (.inr (.inl h))
theorem ftl_held {u : World} {base : Nat} {v : Value} {n m l q : Nat} (h : FtlMk u base v n m l q) (hn : n ≤ 1048576) (hm : m ≤ 1048576) (hl : l ≤ 1048576) (hq0 : 0 < q) (hq : q ≤ 1000000) :
    Calls Tryz.prog 18 #[v, .int .i64 q] u fun e w' => e = .returned (.int .i64 ((q + n + m + l : Nat) : Int)) ∧ Below u.heap.size u w' := by
  obtain ⟨a, c, b, d, e, f, z, rfl, h1, h2, h3⟩ := h
  exact heldFtl_any a b e n m l c d f base q z u h1 h2 h3 hn hm hl hq0 hq

theorem ftl_sz {u : World} {v : Value} {ps : List ByteArray} {ws ms : List Int} {q : Int} (l : Nat) (h : FtlRd u v ps ws ms q) (hn : ps.length ≤ maxLen) (hm : ws.length ≤ maxLen) (hk : ms.length ≤ maxLen) (hs : ∀ s ∈ ps, s.size ≤ maxLen) (hl : l ≤ 1048576) :
    Calls Tryz.prog 5 #[v, .int .i64 l] u fun e w' => (∃ r : Int, e = .returned (.int .i64 r) ∧ -1 ≤ r ∧ r ≤ l ∧ (0 ≤ r → ps.length ≤ l ∧ ws.length ≤ l ∧ ms.length ≤ l ∧ ∀ s ∈ ps, s.size ≤ l)) ∧ Below u.heap.size u w' := by
  obtain ⟨a, c, b, d, e, f, rfl, h1, h2, h3⟩ := h
  refine (szFtl_any a b e ps ws.length ms.length c d f q l u h1 hn hs hm hk hl).mono ?_
  rintro e w' ⟨⟨r, rfl, k0, k1, k2⟩, hb⟩
  exact ⟨⟨r, rfl, k0, k1, fun h => ⟨(k2 h).1, (k2 h).2.2.1, (k2 h).2.2.2, (k2 h).2.1⟩⟩, hb⟩

/-! Rows of numbers. -/
def IntsRd (w : World) (v : Value) (xs : List Int) : Prop := ∃ a c, v = .slice a xs.length c ∧ Rd w a (vsInt xs)
def IntsOwn (w : World) (base : Nat) (v : Value) (xs : List Int) : Prop := w.ownsRow base 3 1 v xs.length (vsInt xs)
def IntsMk (w : World) (base : Nat) (v : Value) (n q : Nat) : Prop := w.ownsRow base 3 1 v n (marksI q n)
theorem IntsOwn.shape {u : World} {base : Nat} {v : Value} {xs : List Int} (h : IntsOwn u base v xs) : ∃ a c, v = .slice a xs.length c := owns_shape h
theorem IntsOwn.rd {u : World} {base : Nat} {v : Value} {xs : List Int} (h : IntsOwn u base v xs) : IntsRd u v xs := by
  obtain ⟨a, c, rfl⟩ := h.shape
  exact ⟨a, c, rfl, rd_of_own h⟩
theorem IntsRd.below {u u' : World} {v : Value} {xs : List Int} (h : IntsRd u v xs) (hb : Below u.heap.size u u') : IntsRd u' v xs := by
  obtain ⟨a, c, rfl, h1⟩ := h
  exact ⟨a, c, rfl, h1.below hb⟩
theorem IntsOwn.below {u u' : World} {base : Nat} {v : Value} {xs : List Int} (h : IntsOwn u base v xs) (hb : Below u.heap.size u u') : IntsOwn u' base v xs := owns_below h hb
theorem IntsMk.below {u u' : World} {base : Nat} {v : Value} {n q : Nat} (h : IntsMk u base v n q) (hb : Below u.heap.size u u') : IntsMk u' base v n q := owns_below h hb
theorem bk_slice (a : Option Addr) (n c : Nat) : bk (.slice a n c) = [(Value.slice a n c).ownBlock] := rfl
theorem IntsOwn.only {u u' : World} {base : Nat} {v : Value} {xs : List Int} {L : List (Option Nat)} (h : IntsOwn u base v xs) (hO : OnlyIn u u' L) (hn : ∀ k, some k ∈ bk v → some k ∉ L) : IntsOwn u' base v xs := by
  obtain ⟨a, c, rfl⟩ := h.shape
  exact hO.owns h (fun k hk => hn k (by rw [bk_slice, hk]; simp))
theorem IntsOwn.blk {u : World} {base : Nat} {v : Value} {xs : List Int} (h : IntsOwn u base v xs) {k : Nat} (hk : some k ∈ bk v) : base ≤ k ∧ k < u.heap.size := by
  obtain ⟨a, c, rfl⟩ := h.shape
  rw [bk_slice] at hk
  simp only [List.mem_cons, List.not_mem_nil, or_false] at hk
  exact World.ownsRow.lt h k hk.symm
theorem ints_eq {u : World} {v v' : Value} {xs : List Int} (h : IntsRd u v xs) (h' : IntsRd u v' xs) (hl : xs.length ≤ 1048576) :
    Calls Tryz.prog 40 #[v, v'] u fun e w' => e = .returned (.bool true) ∧ Below u.heap.size u w' := by
  obtain ⟨a, c, rfl, h1⟩ := h
  obtain ⟨a', c', rfl, h1'⟩ := h'
  refine (eqIntS_any a a' xs xs c c' u h1 h1' (by omega) (by omega)).mono ?_
  rintro e w' ⟨rfl, n, rfl⟩
  exact ⟨ret_bool (by simp), after_drew (Below.refl _ _) n⟩
theorem ints_mark {u : World} {base : Nat} {v : Value} {xs : List Int} {q : Nat} (h : IntsOwn u base v xs) (hl : xs.length ≤ 1048576) (_hq0 : 0 < q) (hq : q ≤ 1000000) :
    Calls Tryz.prog 43 #[v, .int .i64 q] u fun e w' => e = .returned (.int .i64 ((q + xs.length : Nat) : Int)) ∧ IntsMk w' base v xs.length q ∧ OnlyIn u w' (bk v) := by
  obtain ⟨a, c, rfl⟩ := h.shape
  refine (markIntS_any (.slice a xs.length c) xs.length _ base q u h hl (by omega)).mono ?_
  rintro e w' ⟨rfl, k1, hg⟩
  exact ⟨rfl, k1, OnlyIn.of_grown hg⟩
theorem ints_held {u : World} {base : Nat} {v : Value} {n q : Nat} (h : IntsMk u base v n q) (hl : n ≤ 1048576) (_hq0 : 0 < q) (hq : q ≤ 1000000) :
    Calls Tryz.prog 46 #[v, .int .i64 q] u fun e w' => e = .returned (.int .i64 ((q + n : Nat) : Int)) ∧ Below u.heap.size u w' := by
  refine (heldIntS_any v n base q u h hl (by omega)).mono ?_
  rintro e w' ⟨rfl, rfl⟩
  exact ⟨rfl, Below.refl _ _⟩

/-- Where only blocks from B on were written, below B nothing has turned. -/
theorem OnlyIn.from {u u' : World} {L : List (Option Nat)} {B : Nat} (h : OnlyIn u u' L) (hB : B ≤ u.heap.size) (hL : ∀ k, some k ∈ L → B ≤ k) : Below B u u' := h.below hB hL

end Go.Proofs.YtdicjbabnknjhaaGreat
