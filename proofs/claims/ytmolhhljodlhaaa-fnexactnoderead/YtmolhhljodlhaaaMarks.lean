/-
  Contracts of the laws' marks: markText, markIntS, heldIntS, markStringS, heldStringS: rows that the call owns are marked from a number on, and hold their marks.
-/
import Derived.Test.YtmolhhljodlhaaaConv
import Derived.Test.YtmolhhljodlhaaaHelpInt
import Derived.Test.YtmolhhljodlhaaaHelpString
import Derived.Deep.RegionHeld
import Derived.Deep.DrawnRows
namespace Go.Proofs.Ytmolhhljodlhaaa
open Go.RowKit
attribute [local go_sem ↓] Go.wp_at_zero Go.wp_at_succ

/-- A number's digits, ahead of what there is. -/
def digs : Nat → Int → ByteArray → ByteArray
  | 0, _, o => o
  | f + 1, k, o => if 0 < k then digs f (k / 10) (strOf [48 + k % 10] ++ o) else o
/-- The mark of a number. -/
def mtext (k : Nat) : ByteArray := ⟨#[109]⟩ ++ digs k k ByteArray.empty
theorem digs_done {f : Nat} {k : Int} {o : ByteArray} (h : ¬ 0 < k) : digs f k o = o := by cases f <;> simp [digs, h]
theorem digs_on {f : Nat} {k : Int} {o : ByteArray} (h : 0 < k) : digs (f + 1) k o = digs f (k / 10) (strOf [48 + k % 10] ++ o) := by simp [digs, h]

set_option maxHeartbeats 800000 in
theorem markText_any (k : Nat) (w : World) (hk0 : 0 < k) (hk : k ≤ 1000000000000) :
    Calls Try.prog 51 #[.int .i64 k] w fun e w' => e = .returned (.string (mtext k)) ∧ Below w.heap.size w w' := by
  go_enter Try.func51, Try.ntmps51
  go_wp2
  go_loopw [0, 3] (fun q v wr => ∃ (f : Nat) (m : Int) (o : ByteArray), q = .int .i64 m ∧ 0 ≤ m ∧ m ≤ 1000000000000 ∧ m ≤ f ∧ (o.size : Int) + m ≤ k ∧ v = .string o ∧ Hid (digs k k ByteArray.empty = digs f m o) ∧ Below w.heap.size w wr) (fun q _ _ => (intOf q).toNat)
  case atStart => exact ⟨k, k, ByteArray.empty, rfl, by omega, by omega, by omega, by simp, rfl, rfl, Below.refl _ _⟩
  case round =>
    obtain ⟨f, m, o, rfl, hm0, hm1, hmf, hos, rfl, hdg, hbel⟩ := hrel
    by_cases hp : 0 < m
    · obtain ⟨g, rfl⟩ : ∃ g, f = g + 1 := ⟨f - 1, by omega⟩
      have hd : Hid (digs k k ByteArray.empty = digs g (m / 10) (strOf [48 + m % 10] ++ o)) := by show _ = _; rw [hdg.out, digs_on hp]
      have hw8 : IntKind.u8.wrap (48 + m % 10) = 48 + m % 10 := u8_small (by omega) (by omega)
      have hcv : (convert 52 9 (.slice (some ⟨wr.heap.size, 0, none⟩) 1 1)).run Try.prog (wr.alloc (Obj.cells #[.int .u8 (48 + m % 10)] 5)) = .ok (.string (strOf [48 + m % 10])) (wr.alloc (Obj.cells #[.int .u8 (48 + m % 10)] 5)) := by
        refine conv_bytes (ys := [48 + m % 10]) (by intro z hz; simp at hz; omega) ?_
        intro i hi
        have : i = 0 := by simp at hi; omega
        subst this
        simp
      have hs1 : (strOf [48 + m % 10]).size = 1 := rfl
      have HA : Hid ((strOf [48 + m % 10] ++ o).size = 1 + o.size) := by show _ = _; rw [ByteArray.size_append, hs1]
      clear hdg
      go_wp2
      go_roundw
      case rel => exact ⟨g, m / 10, _, rfl, by omega, by omega, by omega, by rw [HA.out]; omega, rfl, hd, hbel.alloc hbel.size _⟩
      case measure => simp [intOf]; omega
    · have hd : Hid (digs k k ByteArray.empty = o) := by show _ = _; rw [hdg.out, digs_done hp]
      have hs1 : (⟨#[109]⟩ : ByteArray).size = 1 := rfl
      clear hdg
      go_wp2
      go_ret
      exact ⟨by rw [mtext, hd.out]; rfl, hbel⟩

/-- The marks q + 1, q + 2 .. -/
def marksI (q n : Nat) : List Value := (List.range n).map fun (i : Nat) => .int .i64 (((q + i : Nat) : Int))
def marksT (q n : Nat) : List Value := (List.range n).map fun (i : Nat) => .string (mtext (q + i))
/-- How far a marking has come. -/
def markedV (ms : Nat → List Value) (xs : List Value) (k : Nat) : List Value := ms k ++ xs.drop k
theorem markedV_step {ms : Nat → List Value} {xs : List Value} {k : Nat} {v : Value} (h : k < xs.length) (hl : (ms k).length = k) (hs : ms (k + 1) = ms k ++ [v]) : (markedV ms xs k).set k v = markedV ms xs (k + 1) := by
  unfold markedV
  rw [List.set_append_right _ _ (by omega), hl, Nat.sub_self, List.drop_eq_getElem_cons h, List.set_cons_zero, hs, List.append_assoc, List.singleton_append]
theorem marksI_len (q n : Nat) : (marksI q n).length = n := by simp [marksI]
theorem marksT_len (q n : Nat) : (marksT q n).length = n := by simp [marksT]
theorem marksI_step (q n : Nat) : marksI q (n + 1) = marksI q n ++ [.int .i64 ((q + n : Nat) : Int)] := by simp [marksI, List.range_succ]
theorem marksT_step (q n : Nat) : marksT q (n + 1) = marksT q n ++ [.string (mtext (q + n))] := by simp [marksT, List.range_succ]

set_option maxHeartbeats 400000 in
theorem markIntS_any (v : Value) (n : Nat) (xs : List Value) (base q : Nat) (w : World) (ho : w.ownsRow base 3 1 v n xs) (hm : n ≤ 1048576) (hq : q ≤ 10000000) :
    Calls Try.prog 37 #[v, .int .i64 q] w fun e w' => e = .returned (.int .i64 ((q + n : Nat) : Int)) ∧ w'.ownsRow base 3 1 v n (marksI q n) ∧ w.grownBy w' v.ownBlock := by
  rcases id ho with ⟨hl, ⟨rfl, rfl⟩ | ⟨g, cap, cur, rfl, hg, -⟩⟩
  · go_enter Try.func37, Try.ntmps37
    go_wp2
    go_loop [1, 5] (fun k i => k = .int .i64 q ∧ i = .int .i64 0) (fun _ _ => 0)
    case atStart => exact ⟨rfl, rfl⟩
    case round =>
      obtain ⟨rfl, rfl⟩ := hrel
      go_wp2
      go_ret
      exact ⟨rfl, World.ownsRow_nil _ _ _ _, World.grownBy.refl _ _⟩
  · have HLN : Hid (xs.length = n) := by show _ = _; simpa using hl
    clear hl
    go_enter Try.func37, Try.ntmps37
    go_wp2
    go_loopw [1, 5] (fun kk i wr => ∃ k : Nat, k ≤ n ∧ i = .int .i64 k ∧ kk = .int .i64 ((q + k : Nat) : Int) ∧ wr.ownsRow base 3 1 (.slice (some ⟨g, 0, none⟩) n cap) n (markedV (marksI q) xs k) ∧ w.grownBy wr (some g)) (fun _ i _ => n - (intOf i).toNat)
    case atStart => exact ⟨0, Nat.zero_le _, rfl, rfl, ho, World.grownBy.refl _ _⟩
    case round =>
      obtain ⟨k, hk, rfl, rfl, hown, hgrow⟩ := hrel
      by_cases hlt : k < n
      · have hfz := hown.frozenAt k
        have hst := hown.stored k (.int .i64 ((q + k : Nat) : Int))
        have hcell : ∃ u, wr.cell? ⟨g, k, none⟩ = some u := by
          have h1 := hown.cellAt k (by omega)
          have h2 : k < (markedV (marksI q) xs k).length := by rw [hown.1]; omega
          exact ⟨(markedV (marksI q) xs k)[k], by rw [h1]; simp [h2]⟩
        obtain ⟨u, hcell⟩ := hcell
        have HO : Hid ((wr.setCell ⟨g, k, none⟩ (.int .i64 ((q + k : Nat) : Int))).ownsRow base 3 1 (.slice (some ⟨g, 0, none⟩) n cap) n (markedV (marksI q) xs (k + 1)) ∧ w.grownBy (wr.setCell ⟨g, k, none⟩ (.int .i64 ((q + k : Nat) : Int))) (some g)) := by
          refine ⟨?_, grown_trans hgrow hst.2⟩
          rw [← markedV_step (by rw [HLN.out]; exact hlt) (marksI_len q k) (marksI_step q k)]; exact hst.1
        clear hst hown hgrow ho
        go_wp2
        go_roundw
        case rel => exact ⟨k + 1, by omega, by go_num, by go_num, HO.out.1, HO.out.2⟩
        case measure => simp [intOf]; omega
      · have hkn : k = n := by omega
        subst hkn
        have e : markedV (marksI q) xs k = marksI q k := by simp [markedV, HLN.out]
        rw [e] at hown
        clear ho e
        go_wp2
        go_ret
        exact ⟨rfl, hown, hgrow⟩

set_option maxHeartbeats 400000 in
theorem heldIntS_any (v : Value) (n : Nat) (base q : Nat) (w : World) (ho : w.ownsRow base 3 1 v n (marksI q n)) (hm : n ≤ 1048576) (hq : q ≤ 10000000) :
    Calls Try.prog 39 #[v, .int .i64 q] w fun e w' => e = .returned (.int .i64 ((q + n : Nat) : Int)) ∧ w' = w := by
  rcases id ho with ⟨hl, ⟨rfl, rfl⟩ | ⟨g, cap, cur, rfl, hg, -⟩⟩
  · go_enter Try.func39, Try.ntmps39
    go_wp2
    go_loop [1, 5] (fun k i => k = .int .i64 q ∧ i = .int .i64 0) (fun _ _ => 0)
    case atStart => exact ⟨rfl, rfl⟩
    case round =>
      obtain ⟨rfl, rfl⟩ := hrel
      go_wp2
      go_ret
      exact ⟨rfl, rfl⟩
  · clear hl
    go_enter Try.func39, Try.ntmps39
    go_wp2
    go_loop [1, 5] (fun kk i => ∃ k : Nat, k ≤ n ∧ i = .int .i64 k ∧ kk = .int .i64 ((q + k : Nat) : Int)) (fun _ i => n - (intOf i).toNat)
    case atStart => exact ⟨0, Nat.zero_le _, rfl, rfl⟩
    case round =>
      obtain ⟨k, hk, rfl, rfl⟩ := hrel
      by_cases hlt : k < n
      · have hcell : w.cell? ⟨g, k, none⟩ = some (.int .i64 ((q + k : Nat) : Int)) := by
          rw [ho.cellAt k (by omega)]; simp [marksI, hlt]
        clear ho
        go_wp2
        go_round
        case rel => exact ⟨k + 1, by omega, by go_num, by go_num⟩
        case measure => simp [intOf]; omega
      · have hkn : k = n := by omega
        subst hkn
        clear ho
        go_wp2
        go_ret
        exact ⟨rfl, rfl⟩

theorem markStringS_any (v : Value) (n : Nat) (xs : List Value) (base q : Nat) (w : World) (ho : w.ownsRow base 9 1 v n xs) (hm : n ≤ 1048576) (hq : q ≤ 10000000) (hq0 : 0 < q) :
    Calls Try.prog 36 #[v, .int .i64 q] w fun e w' => e = .returned (.int .i64 ((q + n : Nat) : Int)) ∧ w'.ownsRow base 9 1 v n (marksT q n) ∧ w.grownBy w' v.ownBlock := by
  rcases id ho with ⟨hl, ⟨rfl, rfl⟩ | ⟨g, cap, cur, rfl, hg, -⟩⟩
  · go_enter Try.func36, Try.ntmps36
    go_wp2
    go_loop [1, 5] (fun k i => k = .int .i64 q ∧ i = .int .i64 0) (fun _ _ => 0)
    case atStart => exact ⟨rfl, rfl⟩
    case round =>
      obtain ⟨rfl, rfl⟩ := hrel
      go_wp2
      go_ret
      exact ⟨rfl, World.ownsRow_nil _ _ _ _, World.grownBy.refl _ _⟩
  · have HLN : Hid (xs.length = n) := by show _ = _; simpa using hl
    clear hl
    have hgw : g < w.heap.size := (owns_lt ho).2
    go_enter Try.func36, Try.ntmps36
    go_wp2
    go_loopw [1, 5] (fun kk i wr => ∃ k : Nat, k ≤ n ∧ i = .int .i64 k ∧ kk = .int .i64 ((q + k : Nat) : Int) ∧ wr.ownsRow base 9 1 (.slice (some ⟨g, 0, none⟩) n cap) n (markedV (marksT q) xs k) ∧ w.grownBy wr (some g)) (fun _ i _ => n - (intOf i).toNat)
    case atStart => exact ⟨0, Nat.zero_le _, rfl, rfl, ho, World.grownBy.refl _ _⟩
    case round =>
      obtain ⟨k, hk, rfl, rfl, hown, hgrow⟩ := hrel
      by_cases hlt : k < n
      · clear ho
        go_wp2_with fail
        refine (markText_any (q + k) _ (by omega) (by omega)).mono ?_
        rintro e w1 ⟨rfl, hb1⟩
        have hown1 := owns_below hown hb1
        have hgrow1 : w.grownBy w1 (some g) := ⟨hb1.os.trans hgrow.os, hb1.tape.trans hgrow.tape, hb1.output.trans hgrow.output, Nat.le_trans hgrow.size hb1.size, fun i hi hne => (hb1.block i (Nat.lt_of_lt_of_le hi hgrow.size)).trans (hgrow.block i hi hne)⟩
        have hfz := hown1.frozenAt k
        have hst := hown1.stored k (.string (mtext (q + k)))
        have hcell : ∃ u, w1.cell? ⟨g, k, none⟩ = some u := by
          have h1 := hown1.cellAt k (by omega)
          have h2 : k < (markedV (marksT q) xs k).length := by rw [hown1.1]; omega
          exact ⟨(markedV (marksT q) xs k)[k], by rw [h1]; simp [h2]⟩
        obtain ⟨u, hcell⟩ := hcell
        have HO : Hid ((w1.setCell ⟨g, k, none⟩ (.string (mtext (q + k)))).ownsRow base 9 1 (.slice (some ⟨g, 0, none⟩) n cap) n (markedV (marksT q) xs (k + 1)) ∧ w.grownBy (w1.setCell ⟨g, k, none⟩ (.string (mtext (q + k)))) (some g)) := by
          refine ⟨?_, grown_trans hgrow1 hst.2⟩
          rw [← markedV_step (by rw [HLN.out]; exact hlt) (marksT_len q k) (marksT_step q k)]; exact hst.1
        clear hst hown hgrow hown1 hgrow1 hb1
        go_wp2
        go_roundw
        case rel => exact ⟨k + 1, by omega, by go_num, by go_num, HO.out.1, HO.out.2⟩
        case measure => simp [intOf]; omega
      · have hkn : k = n := by omega
        subst hkn
        have e : markedV (marksT q) xs k = marksT q k := by simp [markedV, HLN.out]
        rw [e] at hown
        clear ho e
        go_wp2
        go_ret
        exact ⟨rfl, hown, hgrow⟩

set_option maxHeartbeats 800000 in
theorem heldStringS_any (v : Value) (n : Nat) (base q : Nat) (w : World) (ho : w.ownsRow base 9 1 v n (marksT q n)) (hm : n ≤ 1048576) (hq : q ≤ 10000000) (hq0 : 0 < q) :
    Calls Try.prog 38 #[v, .int .i64 q] w fun e w' => e = .returned (.int .i64 ((q + n : Nat) : Int)) ∧ Below w.heap.size w w' := by
  rcases id ho with ⟨hl, ⟨rfl, rfl⟩ | ⟨g, cap, cur, rfl, hg, -⟩⟩
  · go_enter Try.func38, Try.ntmps38
    go_wp2
    go_loop [1, 5] (fun k i => k = .int .i64 q ∧ i = .int .i64 0) (fun _ _ => 0)
    case atStart => exact ⟨rfl, rfl⟩
    case round =>
      obtain ⟨rfl, rfl⟩ := hrel
      go_wp2
      go_ret
      exact ⟨rfl, Below.refl _ _⟩
  · clear hl
    go_enter Try.func38, Try.ntmps38
    go_wp2
    go_loopw [1, 5] (fun kk i wr => ∃ k : Nat, k ≤ n ∧ i = .int .i64 k ∧ kk = .int .i64 ((q + k : Nat) : Int) ∧ Below w.heap.size w wr) (fun _ i _ => n - (intOf i).toNat)
    case atStart => exact ⟨0, Nat.zero_le _, rfl, rfl, Below.refl _ _⟩
    case round =>
      obtain ⟨k, hk, rfl, rfl, hbel⟩ := hrel
      by_cases hlt : k < n
      · have hown := owns_below ho hbel
        have hcell0 : ∀ w', Below wr.heap.size wr w' → w'.cell? ⟨g, k, none⟩ = some (.string (mtext (q + k))) := by
          intro w' hw'
          rw [(owns_below hown hw').cellAt k (by omega)]; simp [marksT, hlt]
        have hcell := hcell0 wr (Below.refl _ _)
        have HC : Hid _ := hcell0
        have hI1 : (0 : Int) ≤ (k : Int) := by omega
        have hI2 : (k : Int) < (n : Int) := by omega
        clear ho hown hcell0
        go_wp2
        go_region_held (fun w' => w'.cell? ⟨g, k, none⟩ = some (.string (mtext (q + k)))) (first | assumption | go_keep) ((go_at_call 51; refine (markText_any (q + k) _ (by omega) (by omega)).mono ?_; rintro e w1 ⟨rfl, hb1⟩; have hc1 := HC.out w1 (after (after_drew (Below.refl _ _) 1) hb1)))
        have hbw : Below w.heap.size w _ := hbel.trans ((after (after_drew (Below.refl wr.heap.size wr) 1) ‹_›).mono hbel.size)
        go_wp2
        go_roundw
        case rel => exact ⟨k + 1, by omega, by go_num, by go_num, hbw⟩
        case measure => simp [intOf]; omega
      · have hkn : k = n := by omega
        subst hkn
        clear ho
        go_wp2
        go_ret
        exact ⟨rfl, hbel⟩

end Go.Proofs.Ytmolhhljodlhaaa
