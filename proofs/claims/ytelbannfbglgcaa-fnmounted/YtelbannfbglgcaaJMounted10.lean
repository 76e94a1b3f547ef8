/-
  A chip that came in as an argument: its two rows, as lists of texts and numbers.
  Contracts of the specification's l4Ints, FtlOk, l4Clear.
  Contracts of the specification's l4Clear, FreeBlocks.
-/
import Derived.Test.YtelbannfbglgcaaJMounted7
import Derived.Lib.SmallJoins
import Derived.SliceStrings
import Derived.Test.YtelbannfbglgcaaJMounted9
namespace Go.Proofs.Ytelbannfbglgcaa
open Go.RowKit Go.ChangeShapes Go.WideShapes Go.ChangeAt Go.Joins
set_option maxRecDepth 100000

/-- A slice of texts that came in. -/
theorem rdStrings_of {H : Type} {enc : TypeId × Value → H} {W : World} {fuel : Nat} {v : Value} {y : DataW H × List MemPlace} (h : DataW.trod enc Try.prog W 0 (fun _ => true) true fuel 24 [v] = some y) :
    ∃ a ps c, v = .slice a (List.length ps) c ∧ Rd W a (vsString ps) ∧ ps.length ≤ maxLen ∧ ∀ s ∈ ps, s.size ≤ maxLen := by
  rcases open_strings Try.underlying24 Try.underlying9 (by kernel_rfl) h with ⟨hcs, _⟩ | ⟨x, l, c, ss, hcs, _, hl, hm, hz, _, hcell, hws⟩
  · simp at hcs; subst hcs
    exact ⟨none, [], 0, rfl, .inl rfl, by simp, by simp⟩
  · simp at hcs; subst hcs
    simp at hz
    have hlen : (ss.take l).length = l := by simp; omega
    refine ⟨some x, ss.take l, c, by rw [hlen], ?_, by omega, fun s hs => hws s (List.mem_of_mem_take hs)⟩
    by_cases h0 : l = 0
    · subst h0; left; simp
    · obtain ⟨b, off, spot⟩ := x
      have hspot : spot = none := by
        have := hcell 0 (by omega)
        simpa [Addr.add] using World.cell?_spot this
      subst hspot
      refine .inr ⟨b, off, rfl, fun i v hv => ?_⟩
      have hi : i < l := by
        rcases Nat.lt_or_ge i l with h' | h'
        · exact h'
        · simp [List.getElem?_take, show ¬ i < l by omega] at hv
      have hiz : i < ss.length := by omega
      have e := hcell i hiz
      have ea : (⟨b, off, none⟩ : Addr).add i = ⟨b, off + i, none⟩ := by
        by_cases h0 : i = 0
        · subst h0; simp [Addr.add]
        · simp [Addr.add, h0]
      rw [ea] at e
      simp [hi, hiz] at hv
      subst hv
      simpa [hiz] using e

/-- A slice of ints that came in. -/
theorem rdInts_of {H : Type} {enc : TypeId × Value → H} {W : World} {fuel : Nat} {v : Value} {y : DataW H × List MemPlace} (h : DataW.trod enc Try.prog W 0 (fun _ => true) true fuel 25 [v] = some y) :
    ∃ a ws c, v = .slice a (List.length ws) c ∧ Rd W a (vsInt ws) ∧ ws.length ≤ maxLen := by
  rcases open_ints Try.underlying25 Try.underlying3 (by kernel_rfl) h with ⟨hcs, _⟩ | ⟨x, l, c, ss, hcs, _, hl, hm, hz, _, hcell, hws⟩
  · simp at hcs; subst hcs
    exact ⟨none, [], 0, rfl, .inl rfl, by simp⟩
  · simp at hcs; subst hcs
    simp at hz
    have hlen : (ss.take l).length = l := by simp; omega
    refine ⟨some x, ss.take l, c, by rw [hlen], ?_, by omega⟩
    by_cases h0 : l = 0
    · subst h0; left; simp
    · obtain ⟨b, off, spot⟩ := x
      have hspot : spot = none := by
        have := hcell 0 (by omega)
        simpa [Addr.add] using World.cell?_spot this
      subst hspot
      refine .inr ⟨b, off, rfl, fun i v hv => ?_⟩
      have hi : i < l := by
        rcases Nat.lt_or_ge i l with h' | h'
        · exact h'
        · simp [List.getElem?_take, show ¬ i < l by omega] at hv
      have hiz : i < ss.length := by omega
      have e := hcell i hiz
      have ea : (⟨b, off, none⟩ : Addr).add i = ⟨b, off + i, none⟩ := by
        by_cases h0 : i = 0
        · subst h0; simp [Addr.add]
        · simp [Addr.add, h0]
      rw [ea] at e
      simp [hi, hiz] at hv
      subst hv
      simpa [hiz] using e

/-- A chip of the call's own, its value written out. -/
theorem own_open {w : World} {base : Nat} {v : Value} {ps : List ByteArray} {ws : List Int} (h : ChipOwn w base v ps ws) :
    ∃ a c b d, v = .agg #[.slice a ps.length c, .slice b ws.length d] ∧ w.ownsRow base 9 1 (.slice a ps.length c) ps.length (vsString ps) ∧ w.ownsRow base 3 1 (.slice b ws.length d) ws.length (vsInt ws) ∧
      (∀ k, (Value.slice a ps.length c).ownBlock = some k → (Value.slice b ws.length d).ownBlock ≠ some k) := by
  obtain ⟨v1, v2, rfl, h1, h2, hne⟩ := h
  have f : ∀ {e : TypeId} {v : Value} {n : Nat} {xs : List Value}, w.ownsRow base e 1 v n xs → ∃ a c, v = .slice a n c := by
    intro e v n xs h
    rcases h with ⟨_, ⟨rfl, rfl⟩ | ⟨g, cap, cur, rfl, -⟩⟩
    · exact ⟨_, _, rfl⟩
    · exact ⟨_, _, rfl⟩
  obtain ⟨a, c, rfl⟩ := f h1
  obtain ⟨b, d, rfl⟩ := f h2
  exact ⟨a, c, b, d, rfl, h1, h2, hne⟩

theorem rd_of_own {w : World} {base : Nat} {e : TypeId} {a : Option Addr} {n c : Nat} {xs : List Value} (h : w.ownsRow base e 1 (.slice a n c) n xs) : Rd w a xs := by
  rcases id h with ⟨hl, ⟨_, rfl⟩ | ⟨g, cap, cur, he, -⟩⟩
  · left; simpa using hl
  · simp at he; obtain ⟨rfl, rfl⟩ := he; exact Rd.of_owns h

end Go.Proofs.Ytelbannfbglgcaa

namespace Go.Proofs.Ytelbannfbglgcaa
open Go.RowKit

set_option maxHeartbeats 1600000 in
theorem ints_any (a b : Option Addr) (xs ys : List Int) (c d : Nat) (w : World) (hr : Rd w a (vsInt xs)) (hs : Rd w b (vsInt ys)) (hm : xs.length ≤ 1048576) (_hn : ys.length ≤ 1048576) :
    Calls Try.prog 80 #[.slice a xs.length c, .slice b ys.length d] w fun e w' => e = .returned (.bool (decide (xs = ys))) ∧ ∃ n, w' = w.drewN n := by
  obtain ⟨B, hB⟩ : ∃ B : Bool, B = decide (xs = ys) := ⟨_, rfl⟩
  rw [← hB]
  have HB := hide hB
  clear hB
  go_enter Try.func80, Try.ntmps80
  go_wp2
  go_loopw [5] (fun i wr => ∃ k : Nat, k ≤ xs.length ∧ k ≤ ys.length ∧ i = .int .i64 k ∧ Hid (xs.take k = ys.take k) ∧ ∃ n, wr = w.drewN n) (fun i _ => xs.length - (intOf i).toNat)
  case atStart => exact ⟨0, Nat.zero_le _, Nat.zero_le _, rfl, (show _ = _ by simp), 0, rfl⟩
  case round =>
    obtain ⟨k, hk, hk', rfl, HT, n, rfl⟩ := hrel
    by_cases hlt : k < xs.length
    · by_cases hlt' : k < ys.length
      · obtain ⟨ba, oa, z, rfl, hck, HZ⟩ := rdInt_at hr hlt
        obtain ⟨bb, ob, y, rfl, hcy, HY⟩ := rdInt_at hs hlt'
        clear hr hs
        by_cases hzy : z = y
        · subst hzy
          have HE : Hid (xs.take (k + 1) = ys.take (k + 1)) := takeInt_step HT.out HZ.out HY.out
          go_wp2
          go_quiet (fail)
          go_wp2
          go_roundw
          case rel => exact ⟨k + 1, by omega, by omega, by go_num, HE, _, rfl⟩
          case measure => simp [intOf]; omega
        · have HE : Hid (B = false) := by show _ = _; rw [HB.out]; simpa using neInt_at HZ.out HY.out hzy
          have ht : (z != y) = true := by simpa using hzy
          clear hzy
          go_wp2
          go_quiet (fail)
          go_wp2
          go_ret
          exact ⟨ret_bool HE.out.symm, _, World.drewN_drewN _ _ _⟩
      · have HE : Hid (B = false) := by
          show _ = _; rw [HB.out]; simp; intro e; rw [e] at hlt; omega
        have ht : ((xs.length : Int) == (ys.length : Int)) = false := by simp; omega
        clear hr hs
        go_wp2
        go_ret
        exact ⟨ret_bool HE.out.symm, _, rfl⟩
    · by_cases hl : ys.length = xs.length
      · have HE : Hid (B = true) := by
          show _ = _; rw [HB.out]
          have := HT.out
          rw [List.take_of_length_le (by omega), List.take_of_length_le (by omega)] at this
          simpa using this
        have ht : ((xs.length : Int) == (ys.length : Int)) = true := by simp; omega
        clear hr hs hl
        go_wp2
        go_ret
        exact ⟨ret_bool HE.out.symm, _, rfl⟩
      · have HE : Hid (B = false) := by
          show _ = _; rw [HB.out]; simp; intro e; rw [e] at hl; omega
        have ht : ((xs.length : Int) == (ys.length : Int)) = false := by simp; omega
        clear hr hs hl
        go_wp2
        go_ret
        exact ⟨ret_bool HE.out.symm, _, rfl⟩

/-- What is mounted, its value written out. -/
theorem ftl_open {w : World} {base : Nat} {v : Value} {ps : List ByteArray} {ws ms : List Int} {q : Int} (h : FtlOwn w base v ps ws ms q) :
    ∃ a c b d e f, v = .agg #[.slice a ps.length c, .slice b ws.length d, .slice e ms.length f, .int .i64 q] ∧ w.ownsRow base 9 1 (.slice a ps.length c) ps.length (vsString ps) ∧ w.ownsRow base 3 1 (.slice b ws.length d) ws.length (vsInt ws) ∧ w.ownsRow base 3 1 (.slice e ms.length f) ms.length (vsInt ms) := by
  obtain ⟨v1, v2, v3, rfl, h1, h2, h3, -⟩ := h
  have f : ∀ {e : TypeId} {v : Value} {n : Nat} {xs : List Value}, w.ownsRow base e 1 v n xs → ∃ a c, v = .slice a n c := by
    intro e v n xs h
    rcases h with ⟨_, ⟨rfl, rfl⟩ | ⟨g, cap, cur, rfl, -⟩⟩
    · exact ⟨_, _, rfl⟩
    · exact ⟨_, _, rfl⟩
  obtain ⟨a, c, rfl⟩ := f h1
  obtain ⟨b, d, rfl⟩ := f h2
  obtain ⟨e, g, rfl⟩ := f h3
  exact ⟨a, c, b, d, e, g, rfl, h1, h2, h3⟩

/-- It is right. -/
def ftlOkB (ps : List ByteArray) (ws ms : List Int) (q : Int) : Bool := chipOkB ps ws && decide (mMap ps = ms) && decide (mSeq ps = q)

set_option maxHeartbeats 3200000 in
theorem specFtlOk_any (a b e0 : Option Addr) (ps : List ByteArray) (ws ms : List Int) (c d f : Nat) (q : Int) (w : World) (hp : Rd w a (vsString ps)) (hw : Rd w b (vsInt ws)) (hms : Rd w e0 (vsInt ms)) (hl : ps.length ≤ 1048576) (hm : ws.length ≤ 1048576) (hn : ms.length ≤ 1048576) (hs : ∀ s ∈ ps, s.size ≤ 1048576) :
    Calls Try.prog 33 #[.agg #[.slice a ps.length c, .slice b ws.length d, .slice e0 ms.length f, .int .i64 q]] w fun e w' => e = .returned (.bool (ftlOkB ps ws ms q)) ∧ Below w.heap.size w w' := by
  obtain ⟨W, hW⟩ : ∃ W, W = w.alloc (Obj.cells #[.slice a ps.length c, .slice b ws.length d, .slice e0 ms.length f, .int .i64 q] 47) := ⟨_, rfl⟩
  have hbW : Below w.heap.size w W := by subst hW; exact (Below.refl _ _).alloc (Nat.le_refl _) _
  have cW : W.cell? ⟨w.heap.size, 0, none⟩ = some (.slice a ps.length c) ∧ W.cell? ⟨w.heap.size, 1, none⟩ = some (.slice b ws.length d) ∧ W.cell? ⟨w.heap.size, 2, none⟩ = some (.slice e0 ms.length f) ∧ W.cell? ⟨w.heap.size, 3, none⟩ = some (.int .i64 q) ∧ w.heap.size < W.heap.size := by
    subst hW; refine ⟨?_, ?_, ?_, ?_, ?_⟩ <;> simp
  obtain ⟨x0, x1, x2, x3, hsz⟩ := cW
  by_cases hok : chipOkP ps ws
  · have hB := chipOkB_true hok
    obtain ⟨R, hR⟩ : ∃ R, R = ftlOkB ps ws ms q := ⟨_, rfl⟩
    have HR : Hid (R = (decide (mMap ps = ms) && decide (mSeq ps = q))) := by show _ = _; rw [hR, ftlOkB, hB]; simp
    rw [← hR]
    clear hR
    go_enter Try.func33, Try.ntmps33
    go_wp2_with fail
    rw [← hW]
    clear hW
    refine (specMount_ok a b ps ws c d W (hp.below hbW) (hw.below hbW) hok).mono ?_
    rintro e w1 ⟨v, rfl, hown, hb1⟩
    obtain ⟨a1, c1, b1, d1, e1, g1, rfl, -, -, ho3⟩ := ftl_open hown
    obtain ⟨V, hV⟩ : ∃ V, V = w1.alloc (Obj.cells #[.slice a1 ps.length c1, .slice b1 ws.length d1, .slice e1 (mMap ps).length g1, .int .i64 (mSeq ps)] 47) := ⟨_, rfl⟩
    have hbV : Below w1.heap.size w1 V := by rw [hV]; exact (Below.refl _ _).alloc (Nat.le_refl _) _
    have hWV := after hb1 hbV
    have k0 := (hb1.cell (p := ⟨w.heap.size, 0, none⟩) hsz).trans x0
    have k1 := (hb1.cell (p := ⟨w.heap.size, 1, none⟩) hsz).trans x1
    have hlt1 : w.heap.size < w1.heap.size := Nat.lt_of_lt_of_le hsz hb1.size
    have hsV : w1.heap.size < V.heap.size := by rw [hV]; simp
    have z2 : V.cell? ⟨w1.heap.size, 2, none⟩ = some (.slice e1 (mMap ps).length g1) := by rw [hV]; simp
    have z3 : V.cell? ⟨w1.heap.size, 3, none⟩ = some (.int .i64 (mSeq ps)) := by rw [hV]; simp
    have HM := hide ((rd_of_own ho3).below hbV)
    have HF := hide ((hms.below hbW).below hWV)
    have HP := hide ((hp.below hbW).below hWV)
    have HW := hide ((hw.below hbW).below hWV)
    have hbwV := after hbW hWV
    have y2 := (hWV.cell (p := ⟨w.heap.size, 2, none⟩) hsz).trans x2
    have y3 := (hWV.cell (p := ⟨w.heap.size, 3, none⟩) hsz).trans x3
    clear hown ho3 hb1 hbV x0 x1 x2 x3 hp hw hms hbW hWV hok
    go_wp2_with fail
    rw [← hV]
    clear hV k0 k1
    refine (specChipOk_any a b ps ws c d V HP.out HW.out hl hm hs).mono ?_
    rw [hB]
    rintro e w2 ⟨rfl, hb2⟩
    have s2 := (hb2.cell (p := ⟨w1.heap.size, 2, none⟩) hsV).trans z2
    have s3 := (hb2.cell (p := ⟨w1.heap.size, 3, none⟩) hsV).trans z3
    have t2 := (hb2.cell (p := ⟨w.heap.size, 2, none⟩) (show w.heap.size < V.heap.size by omega)).trans y2
    have t3 := (hb2.cell (p := ⟨w.heap.size, 3, none⟩) (show w.heap.size < V.heap.size by omega)).trans y3
    have HM2 := hide (HM.out.below hb2)
    have HF2 := hide (HF.out.below hb2)
    have hbw2 := after hbwV hb2
    clear z2 z3 y2 y3 HM HF HP HW hb2 hbwV hB hs
    go_wp2_with fail
    refine (ints_any e1 e0 (mMap ps) ms g1 f w2 HM2.out HF2.out (by rw [mMap_len]; decide) hn).mono ?_
    obtain ⟨D, hD⟩ : ∃ D, D = decide (mMap ps = ms) := ⟨_, rfl⟩
    rw [← hD]
    rintro e u ⟨rfl, n, hu⟩
    have u2 : u.cell? ⟨w1.heap.size, 3, none⟩ = some (.int .i64 (mSeq ps)) := by rw [hu]; exact s3
    have u3 : u.cell? ⟨w.heap.size, 3, none⟩ = some (.int .i64 q) := by rw [hu]; exact t3
    have hbwu : Below w.heap.size w u := by rw [hu]; exact after_drew hbw2 n
    clear hu s2 s3 t2 t3 HM2 HF2 hbw2
    cases D with
    | false =>
      have HRF : Hid (R = false) := by show _ = _; rw [HR.out, ← hD]; rfl
      clear hD HR
      go_wp2
      go_ret
      exact ⟨ret_bool HRF.out.symm, hbwu⟩
    | true =>
      have HRF : Hid (R = (mSeq ps == q)) := by show _ = _; rw [HR.out, ← hD, Bool.true_and]; rfl
      clear hD HR
      go_wp2
      go_ret
      exact ⟨ret_bool HRF.out.symm, hbwu⟩
  · have hB := chipOkB_false hok
    have HR : Hid (ftlOkB ps ws ms q = false) := by show _ = _; rw [ftlOkB, hB]; rfl
    go_enter Try.func33, Try.ntmps33
    go_wp2_with fail
    rw [← hW]
    clear hW
    refine (specMount_bad a b ps ws c d W (hp.below hbW) (hw.below hbW) hl hm hs hok).mono ?_
    rintro e w1 ⟨v, rfl, hown, hb1⟩
    obtain ⟨a1, c1, b1, d1, e1, g1, rfl, -⟩ := ftl_open hown
    obtain ⟨V, hV⟩ : ∃ V, V = w1.alloc (Obj.cells #[.slice a1 ([] : List ByteArray).length c1, .slice b1 ([] : List Int).length d1, .slice e1 ([] : List Int).length g1, .int .i64 0] 47) := ⟨_, rfl⟩
    have hbV : Below w1.heap.size w1 V := by rw [hV]; exact (Below.refl _ _).alloc (Nat.le_refl _) _
    have hWV := after hb1 hbV
    have k0 := (hb1.cell (p := ⟨w.heap.size, 0, none⟩) hsz).trans x0
    have k1 := (hb1.cell (p := ⟨w.heap.size, 1, none⟩) hsz).trans x1
    have hlt1 : w.heap.size < w1.heap.size := Nat.lt_of_lt_of_le hsz hb1.size
    have HP := hide ((hp.below hbW).below hWV)
    have HW := hide ((hw.below hbW).below hWV)
    have hbwV := after hbW hWV
    clear hown hb1 hbV x0 x1 x2 x3 hp hw hms hbW hWV hok
    simp only [List.length_nil] at hV
    go_wp2_with fail
    rw [← hV]
    clear hV k0 k1
    refine (specChipOk_any a b ps ws c d V HP.out HW.out hl hm hs).mono ?_
    rw [hB]
    rintro e w2 ⟨rfl, hb2⟩
    have hbw2 := after hbwV hb2
    clear HP HW hb2 hB hs
    go_wp2
    go_ret
    exact ⟨ret_bool HR.out.symm, hbw2⟩

end Go.Proofs.Ytelbannfbglgcaa

namespace Go.Proofs.Ytelbannfbglgcaa
open Go.RowKit

/-- Of the first i pages of a block: how many are clear, and how many clear ones stand at their end. -/
noncomputable def clr (ps : List ByteArray) (B : Nat) : Nat → Int × Int
  | 0 => (0, 0)
  | i + 1 => open Classical in if ps[B * 6 + i]?.getD ByteArray.empty = ByteArray.empty then ((clr ps B i).1 + 1, (clr ps B i).2 + 1) else ((clr ps B i).1, 0)
theorem clr_bd (ps : List ByteArray) (B i : Nat) : 0 ≤ (clr ps B i).1 ∧ (clr ps B i).1 ≤ i ∧ 0 ≤ (clr ps B i).2 ∧ (clr ps B i).2 ≤ i := by
  induction i with
  | zero => simp [clr]
  | succ i ih =>
    unfold clr
    split <;> simp only [] <;> omega

set_option maxHeartbeats 1600000 in
theorem clear_any (a b : Option Addr) (ps : List ByteArray) (ws : List Int) (c d B : Nat) (w : World) (hp : Rd w a (vsString ps)) (hl : ps.length = 60) (hB : B < 10) :
    Calls Try.prog 88 #[.agg #[.slice a ps.length c, .slice b ws.length d], .int .i64 B] w fun e w' => e = .returned (.tuple #[.int .i64 (clr ps B 6).1, .int .i64 (clr ps B 6).2]) ∧ Below w.heap.size w w' := by
  obtain ⟨W, hW⟩ : ∃ W, W = w.alloc (Obj.cells #[.slice a ps.length c, .slice b ws.length d] 27) := ⟨_, rfl⟩
  have hbW : Below w.heap.size w W := by subst hW; exact (Below.refl _ _).alloc (Nat.le_refl _) _
  have c0 : W.cell? ⟨w.heap.size, 0, none⟩ = some (.slice a ps.length c) := by subst hW; simp
  have hr := hp.below hbW
  have HL := hide hl
  have hl1 : 60 ≤ ps.length ∧ ps.length ≤ 60 := by omega
  clear hp hl
  go_enter Try.func88, Try.ntmps88
  go_wp2
  rw [← hW]
  clear hW
  go_loop [6, 7, 8] (fun n t i => ∃ k : Nat, k ≤ 6 ∧ i = .int .i64 k ∧ n = .int .i64 (clr ps B k).1 ∧ t = .int .i64 (clr ps B k).2) (fun _ _ i => 6 - (intOf i).toNat)
  case atStart => exact ⟨0, Nat.zero_le _, rfl, rfl, rfl⟩
  case round =>
    obtain ⟨k, hk, rfl, rfl, rfl⟩ := hrel
    have hbd := clr_bd ps B k
    obtain ⟨N, hN⟩ : ∃ N, N = (clr ps B k).1 := ⟨_, rfl⟩
    obtain ⟨T, hT⟩ : ∃ T, T = (clr ps B k).2 := ⟨_, rfl⟩
    rw [← hN, ← hT] at hbd ⊢
    by_cases hlt : k < 6
    · have hj : B * 6 + k < ps.length := by omega
      obtain ⟨ba, oa, x, rfl, hck, HX⟩ := rdString_at hr hj
      have b1 : (0 : Int) ≤ (B : Int) * 6 + k := by omega
      have b2 : (B : Int) * 6 + k < (ps.length : Int) := by omega
      clear hr
      by_cases hxe : x = ByteArray.empty
      · have HE : Hid (clr ps B (k + 1) = (N + 1, T + 1)) := by show _ = _; rw [clr, HX.out, if_pos (by rw [hxe]; rfl), hN, hT]
        subst hxe
        clear hN hT
        go_wp2
        go_round
        case rel => exact ⟨k + 1, by omega, by go_num, by rw [HE.out], by rw [HE.out]⟩
        case measure => simp [intOf]; omega
      · have HE : Hid (clr ps B (k + 1) = (N, 0)) := by show _ = _; rw [clr, HX.out, if_neg (show ¬ (some x).getD ByteArray.empty = ByteArray.empty from hxe), hN]
        have hxi := isEmpty_str hxe
        clear hN hT hxe
        go_wp2
        go_round
        case rel => exact ⟨k + 1, by omega, by go_num, by rw [HE.out], by rw [HE.out]⟩
        case measure => simp [intOf]; omega
    · obtain rfl : k = 6 := by omega
      have HN := hide hN
      have HT := hide hT
      clear hr hN hT
      go_wp2
      go_ret2
      exact ⟨by rw [← HN.out, ← HT.out]; rfl, hbW⟩

/-- The first blocks that are all clear. -/
noncomputable def freeB (ps : List ByteArray) : Nat → List Int
  | 0 => []
  | k + 1 => if (clr ps k 6).1 = 6 then freeB ps k ++ [(k : Int)] else freeB ps k
theorem freeB_len (ps : List ByteArray) (k : Nat) : (freeB ps k).length ≤ k := by
  induction k with
  | zero => simp [freeB]
  | succ k ih =>
    unfold freeB
    split
    · simp; omega
    · omega

set_option maxRecDepth 100000 in
set_option maxHeartbeats 3200000 in
theorem specFree_ok (a b : Option Addr) (ps : List ByteArray) (ws : List Int) (c d : Nat) (w : World) (hp : Rd w a (vsString ps)) (hw : Rd w b (vsInt ws)) (hok : chipOkP ps ws) :
    Calls Try.prog 39 #[.agg #[.slice a ps.length c, .slice b ws.length d]] w fun e w' => ∃ v, e = .returned v ∧ w'.ownsRow w.heap.size 3 1 v (freeB ps 10).length (vsInt (freeB ps 10)) ∧ Below w.heap.size w w' := by
  obtain ⟨i2, hi2, hz0, hz1, hz2⟩ := info_parts infoInt
  obtain ⟨A, hA⟩ : ∃ A, A = w.alloc (Obj.cells #[.slice a ps.length c, .slice b ws.length d] 27) := ⟨_, rfl⟩
  have hbA : Below w.heap.size w A := by rw [hA]; exact (Below.refl _ _).alloc (Nat.le_refl _) _
  have hsA : w.heap.size < A.heap.size := by rw [hA]; simp
  obtain ⟨n1, hn1⟩ : ∃ n1, n1 = A.heap.size := ⟨_, rfl⟩
  have hn1' : n1 = w.heap.size + 1 := by rw [hn1, hA]; simp
  obtain ⟨W, hW⟩ : ∃ W, W = A.alloc (Obj.cells #[] 3) := ⟨_, rfl⟩
  have hbW : Below A.heap.size A W := by rw [hW]; exact (Below.refl _ _).alloc (Nat.le_refl _) _
  have hW0 : W.ownsRow n1 3 1 (.slice (some ⟨n1, 0, none⟩) 0 0) 0 [] := by rw [hW, hn1]; exact World.ownsRow_made A #[] 0 (Nat.le_refl _) (Nat.zero_le _) rfl
  have x0 : A.cell? ⟨w.heap.size, 0, none⟩ = some (.slice a ps.length c) := by rw [hA]; simp
  have x1 : A.cell? ⟨w.heap.size, 1, none⟩ = some (.slice b ws.length d) := by rw [hA]; simp
  have hB := chipOkB_true hok
  have HOK := hide hok
  have HP := hide (hp.below hbA)
  have HW := hide (hw.below hbA)
  have HN1 := hide (And.intro hn1 hn1')
  have hl1 : 60 ≤ ps.length ∧ ps.length ≤ 60 := by have := hok.1; omega
  have hm1 : 10 ≤ ws.length ∧ ws.length ≤ 10 := by have := hok.2.1; omega
  clear hp hw hok hn1 hn1'
  go_enter Try.func39, Try.ntmps39
  go_wp2
  rw [← hA]
  rw [← hW]
  rw [← HN1.out.2]
  clear hA hW
  go_loopw [3, 4] (fun v i wr => ∃ k : Nat, k ≤ 10 ∧ i = .int .i64 k ∧ wr.ownsRow n1 3 1 v (freeB ps k).length (vsInt (freeB ps k)) ∧ Below n1 A wr) (fun _ i _ => 10 - (intOf i).toNat)
  case atStart => exact ⟨0, Nat.zero_le _, rfl, hW0, by rw [HN1.out.1]; exact hbW⟩
  case round =>
    obtain ⟨k, hk, rfl, hown, hbr⟩ := hrel
    have hbr' : Below A.heap.size A wr := by rw [← HN1.out.1]; exact hbr
    have c0 := (hbr'.cell (p := ⟨w.heap.size, 0, none⟩) hsA).trans x0
    have c1 := (hbr'.cell (p := ⟨w.heap.size, 1, none⟩) hsA).trans x1
    have hsr : n1 ≤ wr.heap.size := by have := hbr'.size; have := HN1.out.1; omega
    by_cases hlt : k < 10
    · have q1 : (k : Int) < 10 := by omega
      have hfl := freeB_len ps k
      go_wp2_with fail
      refine (specChipOk_any a b ps ws c d wr (HP.out.below hbr') (HW.out.below hbr') (by omega) (by omega) (fun s h => by have := HOK.out.2.2.1 s h; omega)).mono ?_
      rw [hB]
      rintro e u1 ⟨rfl, hb1⟩
      have hb1' := after hbr' hb1
      have c0 := (hb1'.cell (p := ⟨w.heap.size, 0, none⟩) hsA).trans x0
      have c1 := (hb1'.cell (p := ⟨w.heap.size, 1, none⟩) hsA).trans x1
      have hown1 := owns_below hown hb1
      clear hown hb1 hbr hW0 hbW
      go_wp2_with fail
      refine (clear_any a b ps ws c d k u1 (HP.out.below hb1') HOK.out.1 (by omega)).mono ?_
      obtain ⟨N, hN⟩ : ∃ N, N = (clr ps k 6).1 := ⟨_, rfl⟩
      obtain ⟨T, hT⟩ : ∃ T, T = (clr ps k 6).2 := ⟨_, rfl⟩
      rw [← hN, ← hT]
      rintro e u2 ⟨rfl, hb2⟩
      have hb2' := after hb1' hb2
      have hown2 := owns_below hown1 hb2
      have HB2 := hide hb2'
      have hs2 : n1 ≤ u2.heap.size := by have := hb2'.size; have := HN1.out.1; omega
      clear hown1 hb1' hb2 hb2' hT
      by_cases h6 : N = 6
      · have HE : Hid (freeB ps (k + 1) = freeB ps k ++ [(k : Int)]) := by show _ = _; rw [freeB, if_pos (by rw [← hN]; exact h6)]
        have t6 : (N == 6) = true := by simpa using h6
        clear h6 hN
        go_wp2_with (at_builtin; go_must (refine wpList_append_one rfl _ _ 25 rfl n1 3 i2 (.int .i64 0) 8 Try.underlying25 hi2 hz0 hz1 hz2 rfl _ _ _ (.int .i64 k) rfl hown2 rfl rfl (by omega) (by omega) hs2 rfl ?_); intro v' u3 hown' hb')
        go_roundw
        case rel => exact ⟨k + 1, by omega, by go_num, by rw [HE.out]; simpa using hown', by
          have h := HB2.out
          rw [← HN1.out.1] at h
          exact h.trans hb'⟩
        case measure => simp [intOf]; omega
      · have HE : Hid (freeB ps (k + 1) = freeB ps k) := by show _ = _; rw [freeB, if_neg (by rw [← hN]; exact h6)]
        have t6 : (N == 6) = false := by simpa using h6
        clear h6 hN
        go_wp2
        go_roundw
        case rel => exact ⟨k + 1, by omega, by go_num, by rw [HE.out]; exact hown2, by rw [HN1.out.1]; exact HB2.out⟩
        case measure => simp [intOf]; omega
    · obtain rfl : k = 10 := by omega
      have q1 : ¬ ((10 : Nat) : Int) < 10 := by omega
      have HOWN := hide hown
      clear hown
      go_wp2
      go_ret
      exact ⟨_, rfl, owns_mono HOWN.out (by have := HN1.out.2; omega), hbA.trans (hbr'.mono (Nat.le_of_lt hsA))⟩

end Go.Proofs.Ytelbannfbglgcaa
