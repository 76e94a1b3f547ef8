/-
  Contracts of the laws' helpers over slices of string: toStringS (a new copy), eqStringS.
  Contracts of the laws' marks: markText, markIntS, heldIntS, markStringS, heldStringS: rows that the call owns are marked from a number on, and hold their marks.
  Contracts of the laws' helpers over chips: toChip, eqChip, markChip, heldChip, szChip.
-/
import Derived.Test.YtdicjbabnknjhaaGreatChecked
import Derived.Test.YtdicjbabnknjhaaGreatJRecover0
import Derived.Deep.QuietTactic
import Derived.BigQuiet
import Derived.Deep.RegionHeld
import Derived.Deep.DrawnRows
import Derived.Laws.ResultCell
namespace Go.Proofs.YtdicjbabnknjhaaGreat
open Go.RowKit

theorem infoString : (Tryz.prog.info? 9).map (fun i => (i.zero, i.size, i.bytes)) = some (some (Value.string ⟨#[]⟩), 1, 16) := by kernel_rfl

theorem str_inj {x y : ByteArray} (h : x.toList = y.toList) : x = y := by
  rw [ByteArray.toList_eq, ByteArray.toList_eq] at h
  cases x; cases y
  simp at h
  rw [h]

/-- String values. -/
abbrev vsString (xs : List ByteArray) : List Value := xs.map (Value.string)

theorem rdString_at {w : World} {a : Option Addr} {xs : List ByteArray} {k : Nat} (h : Rd w a (vsString xs)) (hk : k < xs.length) :
    ∃ b off x, a = some ⟨b, off, none⟩ ∧ w.cell? ⟨b, off + k, none⟩ = some (Value.string x) ∧ Hid (xs[k]? = some x) := by
  rcases h with h | ⟨b, off, ha, hc⟩
  · simp at h; subst h; simp at hk
  · exact ⟨b, off, xs[k], ha, hc k _ (by simp [hk]), by show _ = _; simp [hk]⟩

/-- How far a copy has come. -/
def halfString (xs : List ByteArray) (k : Nat) : List Value := vsString (xs.take k) ++ List.replicate (xs.length - k) (Value.string ⟨#[]⟩)

theorem halfString_step {xs : List ByteArray} {k : Nat} {x : ByteArray} (h : xs[k]? = some x) : (halfString xs k).set k (Value.string x) = halfString xs (k + 1) := by
  have hk : k < xs.length := by
    rcases Nat.lt_or_ge k xs.length with h' | h'
    · exact h'
    · simp [h'] at h
  apply List.ext_getElem?
  intro i
  simp only [halfString, vsString, List.getElem?_set, List.getElem?_append, List.length_map, List.length_take, List.length_append, List.length_replicate, List.getElem?_map, List.getElem?_take, List.getElem?_replicate]
  have m1 : min k xs.length = k := by omega
  have m2 : min (k + 1) xs.length = k + 1 := by omega
  rw [m1, m2]
  by_cases h1 : k = i
  · subst h1
    have : k < k + (xs.length - k) := by omega
    simp [this, h]
  · by_cases h2 : i < k
    · have : i < k + 1 := by omega
      simp [h1, h2, this]
    · have h3 : ¬ i < k + 1 := by omega
      simp only [h1, h2, h3, if_false]
      by_cases h4 : i < xs.length
      · rw [if_pos (by omega), if_pos (by omega)]
      · rw [if_neg (by omega), if_neg (by omega)]
theorem halfString_all (xs : List ByteArray) : halfString xs xs.length = vsString xs := by simp [halfString]

set_option maxHeartbeats 400000 in
theorem toStringS_any (a : Option Addr) (xs : List ByteArray) (cap : Nat) (w : World) (hr : Rd w a (vsString xs)) (hm : xs.length ≤ 4398046511104) :
    Calls Tryz.prog 61 #[.slice a xs.length cap] w fun e w' => e = .returned (.slice (some ⟨w.heap.size, 0, none⟩) xs.length xs.length) ∧
      w'.ownsRow w.heap.size 9 1 (.slice (some ⟨w.heap.size, 0, none⟩) xs.length xs.length) xs.length (vsString xs) ∧ Below w.heap.size w w' := by
  obtain ⟨i0, hi, hz0, hz1, hz2⟩ := info_parts infoString
  go_enter Tryz.func61, Tryz.ntmps61
  go_wp2_with (at_make; refine wpList_make_full _ rfl _ _ 22 rfl w.heap.size 9 i0 (Value.string ⟨#[]⟩) 1 Tryz.underlying22 hi hz0 hz1 .i64 .i64 xs.length xs.length xs.length rfl rfl rfl rfl (by rw [hz2]; omega) (by unfold maxLen; omega) (Nat.le_refl _) ?_; intro w1 hown hgrow)
  have hb1 : Below w.heap.size w w1 := (Below.refl _ _).grown hgrow (Nat.le_refl _) (by simp)
  have hown1 : w1.ownsRow w.heap.size 9 1 (.slice (some ⟨w.heap.size, 0, none⟩) xs.length xs.length) xs.length (halfString xs 0) := by
    have e : (madeCells (Value.string ⟨#[]⟩).cells (xs.length * 1)).toList = halfString xs 0 := by
      show (madeCells #[Value.string ⟨#[]⟩] (xs.length * 1)).toList = _
      rw [toList_madeCells_one]; simp [halfString]
    rw [← e]; exact hown
  clear hown hgrow
  go_loopw [4] (fun i wr => ∃ k : Nat, k ≤ xs.length ∧ i = .int .i64 k ∧ wr.ownsRow w.heap.size 9 1 (.slice (some ⟨w.heap.size, 0, none⟩) xs.length xs.length) xs.length (halfString xs k) ∧ Below w.heap.size w wr) (fun i _ => xs.length - (intOf i).toNat)
  case atStart => exact ⟨0, Nat.zero_le _, rfl, hown1, hb1⟩
  case round =>
    obtain ⟨k, hk, rfl, hown, hbel⟩ := hrel
    by_cases hlt : k < xs.length
    · obtain ⟨b, off, z, rfl, hck, HZ⟩ := rdString_at (hr.below hbel) hlt
      have hfz := hown.frozenAt k
      have hst := hown.stored k (Value.string z)
      have hcell : ∃ u, wr.cell? ⟨w.heap.size, k, none⟩ = some u := by
        have h1 := hown.cellAt k (by omega)
        have h2 : k < (halfString xs k).length := by rw [hown.1]; omega
        exact ⟨(halfString xs k)[k], by rw [h1]; simp [h2]⟩
      obtain ⟨u, hcell⟩ := hcell
      have HO : Hid ((wr.setCell ⟨w.heap.size, k, none⟩ (Value.string z)).ownsRow w.heap.size 9 1 (.slice (some ⟨w.heap.size, 0, none⟩) xs.length xs.length) xs.length (halfString xs (k + 1)) ∧ Below w.heap.size w (wr.setCell ⟨w.heap.size, k, none⟩ (Value.string z))) := by
        refine ⟨?_, hbel.setCell (Nat.le_refl _) _⟩
        rw [← halfString_step HZ.out]
        exact hst.1
      clear hr hb1 hown1 hst hown
      go_wp2
      go_roundw
      case rel => exact ⟨k + 1, by omega, by go_num, HO.out.1, HO.out.2⟩
      case measure => simp [intOf]; omega
    · have hkl : k = xs.length := by omega
      subst hkl
      rw [halfString_all] at hown
      clear hown1 hb1
      go_wp2
      go_ret
      exact ⟨rfl, hown, hbel⟩

theorem takeString_step {xs ys : List ByteArray} {k : Nat} {x : ByteArray} (h : xs.take k = ys.take k) (hx : xs[k]? = some x) (hy : ys[k]? = some x) : xs.take (k + 1) = ys.take (k + 1) := by
  rw [List.take_add_one, List.take_add_one, h, hx, hy]
theorem neString_at {xs ys : List ByteArray} {k : Nat} {x y : ByteArray} (hx : xs[k]? = some x) (hy : ys[k]? = some y) (hne : ¬ x = y) : xs ≠ ys := fun e => hne (by rw [e, hy] at hx; simpa using hx.symm)

set_option maxHeartbeats 400000 in
theorem eqStringS_any (a b : Option Addr) (xs ys : List ByteArray) (c d : Nat) (w : World) (hr : Rd w a (vsString xs)) (hs : Rd w b (vsString ys)) (hm : xs.length ≤ 4398046511104) (_hn : ys.length ≤ 4398046511104) :
    Calls Tryz.prog 72 #[.slice a xs.length c, .slice b ys.length d] w fun e w' => e = .returned (.bool (decide (xs = ys))) ∧ ∃ n, w' = w.drewN n := by
  by_cases hl : xs.length = ys.length
  · have hl' : ((xs.length : Int) != (ys.length : Int)) = false := by simp [hl]
    have HL : Hid (xs.length = ys.length) := hl
    clear hl
    go_enter Tryz.func72, Tryz.ntmps72
    go_wp2
    go_loopw [5] (fun i wr => ∃ k : Nat, k ≤ xs.length ∧ i = .int .i64 k ∧ xs.take k = ys.take k ∧ ∃ n, wr = w.drewN n) (fun i _ => xs.length - (intOf i).toNat)
    case atStart => exact ⟨0, Nat.zero_le _, rfl, by simp, 0, rfl⟩
    case round =>
      obtain ⟨k, hk, rfl, htk, n, rfl⟩ := hrel
      by_cases hlt : k < xs.length
      · have hlt' : k < ys.length := by have := HL.out; omega
        obtain ⟨ba, oa, z, rfl, hck, HZ⟩ := rdString_at hr hlt
        obtain ⟨bb, ob, y, rfl, hcy, HY⟩ := rdString_at hs hlt'
        have HT : Hid (xs.take k = ys.take k) := htk
        clear hr hs htk hl'
        by_cases hzy : z = y
        · subst hzy
          have HE : Hid (xs.take (k + 1) = ys.take (k + 1)) := takeString_step HT.out HZ.out HY.out
          go_wp2
          go_quiet (fail)
          go_wp2
          go_roundw
          case rel => exact ⟨k + 1, by omega, by go_num, HE.out, _, rfl⟩
          case measure => simp [intOf]; omega
        · have HE : Hid (xs ≠ ys) := neString_at HZ.out HY.out hzy
          have ht : (z.toList == y.toList) = false := by simpa using fun h => hzy (str_inj h)
          clear hzy
          go_wp2
          go_quiet (fail)
          go_wp2
          go_ret
          exact ⟨ret_bool (by simp [HE.out]), _, World.drewN_drewN _ _ _⟩
      · have HE : Hid (xs = ys) := by
          have := HL.out
          rw [List.take_of_length_le (by omega), List.take_of_length_le (by omega)] at htk; exact htk
        clear htk hl'
        go_wp2
        go_ret
        exact ⟨ret_bool (by simp [HE.out]), _, rfl⟩
  · have hl' : ((xs.length : Int) != (ys.length : Int)) = true := by simp; omega
    have HE : Hid (xs ≠ ys) := fun e => hl (by rw [e])
    clear hl
    go_enter Tryz.func72, Tryz.ntmps72
    go_wp2
    go_ret
    exact ⟨ret_bool (by simp [HE.out]), 0, rfl⟩

end Go.Proofs.YtdicjbabnknjhaaGreat

namespace Go.Proofs.YtdicjbabnknjhaaGreat
open Go.RowKit
attribute [local go_sem ↓] Go.wp_at_zero Go.wp_at_succ

/-- A number's digits, ahead of what there is. -/
def digs : Nat → Int → ByteArray → ByteArray
  | 0, _, o => o
  | f + 1, k, o => if 0 < k then digs f (k / 10) (strOf [48 + k % 10] ++ o) else o
/-- The mark of a number. -/
def mtext (k : Nat) : ByteArray := ⟨#[109]⟩ ++ digs k k ByteArray.empty
theorem digs_done {f : Nat} {k : Int} {o : ByteArray} (h : ¬ 0 < k) : digs f k o = o := by cases f <;> simp [digs, h]
theorem digs_on {f : Nat} {k : Int} {o : ByteArray} (h : 0 < k) : digs (f + 1) k o = digs f (k / 10) (strOf [48 + k % 10] ++ o) := by simp [digs, h]

set_option maxHeartbeats 800000 in
theorem markText_any (k : Nat) (w : World) (hk0 : 0 < k) (hk : k ≤ 1000000000000) :
    Calls Tryz.prog 44 #[.int .i64 k] w fun e w' => e = .returned (.string (mtext k)) ∧ Below w.heap.size w w' := by
  go_enter Tryz.func44, Tryz.ntmps44
  go_wp2
  go_loopw [0, 3] (fun q v wr => ∃ (f : Nat) (m : Int) (o : ByteArray), q = .int .i64 m ∧ 0 ≤ m ∧ m ≤ 1000000000000 ∧ m ≤ f ∧ (o.size : Int) + m ≤ k ∧ v = .string o ∧ Hid (digs k k ByteArray.empty = digs f m o) ∧ Below w.heap.size w wr) (fun q _ _ => (intOf q).toNat)
  case atStart => exact ⟨k, k, ByteArray.empty, rfl, by omega, by omega, by omega, by simp, rfl, rfl, Below.refl _ _⟩
  case round =>
    obtain ⟨f, m, o, rfl, hm0, hm1, hmf, hos, rfl, hdg, hbel⟩ := hrel
    by_cases hp : 0 < m
    · obtain ⟨g, rfl⟩ : ∃ g, f = g + 1 := ⟨f - 1, by omega⟩
      have hd : Hid (digs k k ByteArray.empty = digs g (m / 10) (strOf [48 + m % 10] ++ o)) := by show _ = _; rw [hdg.out, digs_on hp]
      have hw8 : IntKind.u8.wrap (48 + m % 10) = 48 + m % 10 := u8_small (by omega) (by omega)
      have hcv : (convert 82 9 (.slice (some ⟨wr.heap.size, 0, none⟩) 1 1)).run Tryz.prog (wr.alloc (Obj.cells #[.int .u8 (48 + m % 10)] 5)) = .ok (.string (strOf [48 + m % 10])) (wr.alloc (Obj.cells #[.int .u8 (48 + m % 10)] 5)) := by
        refine conv_bytes (ys := [48 + m % 10]) (by intro z hz; simp at hz; omega) ?_
        intro i hi
        have : i = 0 := by simp at hi; omega
        subst this
        simp
      have hs1 : (strOf [48 + m % 10]).size = 1 := rfl
      have HA : Hid ((strOf [48 + m % 10] ++ o).size = 1 + o.size) := by show _ = _; rw [ByteArray.size_append, hs1]
      clear hdg
      go_wp2
      go_roundw
      case rel => exact ⟨g, m / 10, _, rfl, by omega, by omega, by omega, by rw [HA.out]; omega, rfl, hd, hbel.alloc hbel.size _⟩
      case measure => simp [intOf]; omega
    · have hd : Hid (digs k k ByteArray.empty = o) := by show _ = _; rw [hdg.out, digs_done hp]
      have hs1 : (⟨#[109]⟩ : ByteArray).size = 1 := rfl
      clear hdg
      go_wp2
      go_ret
      exact ⟨by rw [mtext, hd.out]; rfl, hbel⟩

/-- The marks q + 1, q + 2 .. -/
def marksI (q n : Nat) : List Value := (List.range n).map fun (i : Nat) => .int .i64 (((q + i : Nat) : Int))
def marksT (q n : Nat) : List Value := (List.range n).map fun (i : Nat) => .string (mtext (q + i))
/-- How far a marking has come. -/
def markedV (ms : Nat → List Value) (xs : List Value) (k : Nat) : List Value := ms k ++ xs.drop k
theorem markedV_step {ms : Nat → List Value} {xs : List Value} {k : Nat} {v : Value} (h : k < xs.length) (hl : (ms k).length = k) (hs : ms (k + 1) = ms k ++ [v]) : (markedV ms xs k).set k v = markedV ms xs (k + 1) := by
  unfold markedV
  rw [List.set_append_right _ _ (by omega), hl, Nat.sub_self, List.drop_eq_getElem_cons h, List.set_cons_zero, hs, List.append_assoc, List.singleton_append]
theorem marksI_len (q n : Nat) : (marksI q n).length = n := by simp [marksI]
theorem marksT_len (q n : Nat) : (marksT q n).length = n := by simp [marksT]
theorem marksI_step (q n : Nat) : marksI q (n + 1) = marksI q n ++ [.int .i64 ((q + n : Nat) : Int)] := by simp [marksI, List.range_succ]
theorem marksT_step (q n : Nat) : marksT q (n + 1) = marksT q n ++ [.string (mtext (q + n))] := by simp [marksT, List.range_succ]

set_option maxHeartbeats 400000 in
theorem markIntS_any (v : Value) (n : Nat) (xs : List Value) (base q : Nat) (w : World) (ho : w.ownsRow base 3 1 v n xs) (hm : n ≤ 1048576) (hq : q ≤ 10000000) :
    Calls Tryz.prog 43 #[v, .int .i64 q] w fun e w' => e = .returned (.int .i64 ((q + n : Nat) : Int)) ∧ w'.ownsRow base 3 1 v n (marksI q n) ∧ w.grownBy w' v.ownBlock := by
  rcases id ho with ⟨hl, ⟨rfl, rfl⟩ | ⟨g, cap, cur, rfl, hg, -⟩⟩
  · go_enter Tryz.func43, Tryz.ntmps43
    go_wp2
    go_loop [1, 5] (fun k i => k = .int .i64 q ∧ i = .int .i64 0) (fun _ _ => 0)
    case atStart => exact ⟨rfl, rfl⟩
    case round =>
      obtain ⟨rfl, rfl⟩ := hrel
      go_wp2
      go_ret
      exact ⟨rfl, World.ownsRow_nil _ _ _ _, World.grownBy.refl _ _⟩
  · have HLN : Hid (xs.length = n) := by show _ = _; simpa using hl
    clear hl
    go_enter Tryz.func43, Tryz.ntmps43
    go_wp2
    go_loopw [1, 5] (fun kk i wr => ∃ k : Nat, k ≤ n ∧ i = .int .i64 k ∧ kk = .int .i64 ((q + k : Nat) : Int) ∧ wr.ownsRow base 3 1 (.slice (some ⟨g, 0, none⟩) n cap) n (markedV (marksI q) xs k) ∧ w.grownBy wr (some g)) (fun _ i _ => n - (intOf i).toNat)
    case atStart => exact ⟨0, Nat.zero_le _, rfl, rfl, ho, World.grownBy.refl _ _⟩
    case round =>
      obtain ⟨k, hk, rfl, rfl, hown, hgrow⟩ := hrel
      by_cases hlt : k < n
      · have hfz := hown.frozenAt k
        have hst := hown.stored k (.int .i64 ((q + k : Nat) : Int))
        have hcell : ∃ u, wr.cell? ⟨g, k, none⟩ = some u := by
          have h1 := hown.cellAt k (by omega)
          have h2 : k < (markedV (marksI q) xs k).length := by rw [hown.1]; omega
          exact ⟨(markedV (marksI q) xs k)[k], by rw [h1]; simp [h2]⟩
        obtain ⟨u, hcell⟩ := hcell
        have HO : Hid ((wr.setCell ⟨g, k, none⟩ (.int .i64 ((q + k : Nat) : Int))).ownsRow base 3 1 (.slice (some ⟨g, 0, none⟩) n cap) n (markedV (marksI q) xs (k + 1)) ∧ w.grownBy (wr.setCell ⟨g, k, none⟩ (.int .i64 ((q + k : Nat) : Int))) (some g)) := by
          refine ⟨?_, grown_trans hgrow hst.2⟩
          rw [← markedV_step (by rw [HLN.out]; exact hlt) (marksI_len q k) (marksI_step q k)]; exact hst.1
        clear hst hown hgrow ho
        go_wp2
        go_roundw
        case rel => exact ⟨k + 1, by omega, by go_num, by go_num, HO.out.1, HO.out.2⟩
        case measure => simp [intOf]; omega
      · have hkn : k = n := by omega
        subst hkn
        have e : markedV (marksI q) xs k = marksI q k := by simp [markedV, HLN.out]
        rw [e] at hown
        clear ho e
        go_wp2
        go_ret
        exact ⟨rfl, hown, hgrow⟩

set_option maxHeartbeats 400000 in
theorem heldIntS_any (v : Value) (n : Nat) (base q : Nat) (w : World) (ho : w.ownsRow base 3 1 v n (marksI q n)) (hm : n ≤ 1048576) (hq : q ≤ 10000000) :
    Calls Tryz.prog 46 #[v, .int .i64 q] w fun e w' => e = .returned (.int .i64 ((q + n : Nat) : Int)) ∧ w' = w := by
  rcases id ho with ⟨hl, ⟨rfl, rfl⟩ | ⟨g, cap, cur, rfl, hg, -⟩⟩
  · go_enter Tryz.func46, Tryz.ntmps46
    go_wp2
    go_loop [1, 5] (fun k i => k = .int .i64 q ∧ i = .int .i64 0) (fun _ _ => 0)
    case atStart => exact ⟨rfl, rfl⟩
    case round =>
      obtain ⟨rfl, rfl⟩ := hrel
      go_wp2
      go_ret
      exact ⟨rfl, rfl⟩
  · clear hl
    go_enter Tryz.func46, Tryz.ntmps46
    go_wp2
    go_loop [1, 5] (fun kk i => ∃ k : Nat, k ≤ n ∧ i = .int .i64 k ∧ kk = .int .i64 ((q + k : Nat) : Int)) (fun _ i => n - (intOf i).toNat)
    case atStart => exact ⟨0, Nat.zero_le _, rfl, rfl⟩
    case round =>
      obtain ⟨k, hk, rfl, rfl⟩ := hrel
      by_cases hlt : k < n
      · have hcell : w.cell? ⟨g, k, none⟩ = some (.int .i64 ((q + k : Nat) : Int)) := by
          rw [ho.cellAt k (by omega)]; simp [marksI, hlt]
        clear ho
        go_wp2
        go_round
        case rel => exact ⟨k + 1, by omega, by go_num, by go_num⟩
        case measure => simp [intOf]; omega
      · have hkn : k = n := by omega
        subst hkn
        clear ho
        go_wp2
        go_ret
        exact ⟨rfl, rfl⟩

theorem markStringS_any (v : Value) (n : Nat) (xs : List Value) (base q : Nat) (w : World) (ho : w.ownsRow base 9 1 v n xs) (hm : n ≤ 1048576) (hq : q ≤ 10000000) (hq0 : 0 < q) :
    Calls Tryz.prog 73 #[v, .int .i64 q] w fun e w' => e = .returned (.int .i64 ((q + n : Nat) : Int)) ∧ w'.ownsRow base 9 1 v n (marksT q n) ∧ w.grownBy w' v.ownBlock := by
  rcases id ho with ⟨hl, ⟨rfl, rfl⟩ | ⟨g, cap, cur, rfl, hg, -⟩⟩
  · go_enter Tryz.func73, Tryz.ntmps73
    go_wp2
    go_loop [1, 5] (fun k i => k = .int .i64 q ∧ i = .int .i64 0) (fun _ _ => 0)
    case atStart => exact ⟨rfl, rfl⟩
    case round =>
      obtain ⟨rfl, rfl⟩ := hrel
      go_wp2
      go_ret
      exact ⟨rfl, World.ownsRow_nil _ _ _ _, World.grownBy.refl _ _⟩
  · have HLN : Hid (xs.length = n) := by show _ = _; simpa using hl
    clear hl
    have hgw : g < w.heap.size := (owns_lt ho).2
    go_enter Tryz.func73, Tryz.ntmps73
    go_wp2
    go_loopw [1, 5] (fun kk i wr => ∃ k : Nat, k ≤ n ∧ i = .int .i64 k ∧ kk = .int .i64 ((q + k : Nat) : Int) ∧ wr.ownsRow base 9 1 (.slice (some ⟨g, 0, none⟩) n cap) n (markedV (marksT q) xs k) ∧ w.grownBy wr (some g)) (fun _ i _ => n - (intOf i).toNat)
    case atStart => exact ⟨0, Nat.zero_le _, rfl, rfl, ho, World.grownBy.refl _ _⟩
    case round =>
      obtain ⟨k, hk, rfl, rfl, hown, hgrow⟩ := hrel
      by_cases hlt : k < n
      · clear ho
        go_wp2_with fail
        refine (markText_any (q + k) _ (by omega) (by omega)).mono ?_
        rintro e w1 ⟨rfl, hb1⟩
        have hown1 := owns_below hown hb1
        have hgrow1 : w.grownBy w1 (some g) := ⟨hb1.os.trans hgrow.os, hb1.tape.trans hgrow.tape, hb1.output.trans hgrow.output, Nat.le_trans hgrow.size hb1.size, fun i hi hne => (hb1.block i (Nat.lt_of_lt_of_le hi hgrow.size)).trans (hgrow.block i hi hne)⟩
        have hfz := hown1.frozenAt k
        have hst := hown1.stored k (.string (mtext (q + k)))
        have hcell : ∃ u, w1.cell? ⟨g, k, none⟩ = some u := by
          have h1 := hown1.cellAt k (by omega)
          have h2 : k < (markedV (marksT q) xs k).length := by rw [hown1.1]; omega
          exact ⟨(markedV (marksT q) xs k)[k], by rw [h1]; simp [h2]⟩
        obtain ⟨u, hcell⟩ := hcell
        have HO : Hid ((w1.setCell ⟨g, k, none⟩ (.string (mtext (q + k)))).ownsRow base 9 1 (.slice (some ⟨g, 0, none⟩) n cap) n (markedV (marksT q) xs (k + 1)) ∧ w.grownBy (w1.setCell ⟨g, k, none⟩ (.string (mtext (q + k)))) (some g)) := by
          refine ⟨?_, grown_trans hgrow1 hst.2⟩
          rw [← markedV_step (by rw [HLN.out]; exact hlt) (marksT_len q k) (marksT_step q k)]; exact hst.1
        clear hst hown hgrow hown1 hgrow1 hb1
        go_wp2
        go_roundw
        case rel => exact ⟨k + 1, by omega, by go_num, by go_num, HO.out.1, HO.out.2⟩
        case measure => simp [intOf]; omega
      · have hkn : k = n := by omega
        subst hkn
        have e : markedV (marksT q) xs k = marksT q k := by simp [markedV, HLN.out]
        rw [e] at hown
        clear ho e
        go_wp2
        go_ret
        exact ⟨rfl, hown, hgrow⟩

set_option maxHeartbeats 800000 in
theorem heldStringS_any (v : Value) (n : Nat) (base q : Nat) (w : World) (ho : w.ownsRow base 9 1 v n (marksT q n)) (hm : n ≤ 1048576) (hq : q ≤ 10000000) (hq0 : 0 < q) :
    Calls Tryz.prog 74 #[v, .int .i64 q] w fun e w' => e = .returned (.int .i64 ((q + n : Nat) : Int)) ∧ Below w.heap.size w w' := by
  rcases id ho with ⟨hl, ⟨rfl, rfl⟩ | ⟨g, cap, cur, rfl, hg, -⟩⟩
  · go_enter Tryz.func74, Tryz.ntmps74
    go_wp2
    go_loop [1, 5] (fun k i => k = .int .i64 q ∧ i = .int .i64 0) (fun _ _ => 0)
    case atStart => exact ⟨rfl, rfl⟩
    case round =>
      obtain ⟨rfl, rfl⟩ := hrel
      go_wp2
      go_ret
      exact ⟨rfl, Below.refl _ _⟩
  · clear hl
    go_enter Tryz.func74, Tryz.ntmps74
    go_wp2
    go_loopw [1, 5] (fun kk i wr => ∃ k : Nat, k ≤ n ∧ i = .int .i64 k ∧ kk = .int .i64 ((q + k : Nat) : Int) ∧ Below w.heap.size w wr) (fun _ i _ => n - (intOf i).toNat)
    case atStart => exact ⟨0, Nat.zero_le _, rfl, rfl, Below.refl _ _⟩
    case round =>
      obtain ⟨k, hk, rfl, rfl, hbel⟩ := hrel
      by_cases hlt : k < n
      · have hown := owns_below ho hbel
        have hcell0 : ∀ w', Below wr.heap.size wr w' → w'.cell? ⟨g, k, none⟩ = some (.string (mtext (q + k))) := by
          intro w' hw'
          rw [(owns_below hown hw').cellAt k (by omega)]; simp [marksT, hlt]
        have hcell := hcell0 wr (Below.refl _ _)
        have HC : Hid _ := hcell0
        have hI1 : (0 : Int) ≤ (k : Int) := by omega
        have hI2 : (k : Int) < (n : Int) := by omega
        clear ho hown hcell0
        go_wp2
        go_region_held (fun w' => w'.cell? ⟨g, k, none⟩ = some (.string (mtext (q + k)))) (first | assumption | go_keep) ((go_at_call 44; refine (markText_any (q + k) _ (by omega) (by omega)).mono ?_; rintro e w1 ⟨rfl, hb1⟩; have hc1 := HC.out w1 (after (after_drew (Below.refl _ _) 1) hb1)))
        have hbw : Below w.heap.size w _ := hbel.trans ((after (after_drew (Below.refl wr.heap.size wr) 1) ‹_›).mono hbel.size)
        go_wp2
        go_roundw
        case rel => exact ⟨k + 1, by omega, by go_num, by go_num, hbw⟩
        case measure => simp [intOf]; omega
      · have hkn : k = n := by omega
        subst hkn
        clear ho
        go_wp2
        go_ret
        exact ⟨rfl, hbel⟩

end Go.Proofs.YtdicjbabnknjhaaGreat

namespace Go.Proofs.YtdicjbabnknjhaaGreat
open Go.RowKit

/-- A chip whose two rows can be read. -/
def ChipRd (w : World) (v : Value) (ps : List ByteArray) (ws : List Int) : Prop :=
  ∃ a c b d, v = .agg #[.slice a ps.length c, .slice b ws.length d] ∧ Rd w a (vsString ps) ∧ Rd w b (vsInt ws)
/-- A chip whose two rows are the call's own, in two blocks. -/
def ChipOwn (w : World) (base : Nat) (v : Value) (ps : List ByteArray) (ws : List Int) : Prop :=
  ∃ v1 v2, v = .agg #[v1, v2] ∧ w.ownsRow base 9 1 v1 ps.length (vsString ps) ∧ w.ownsRow base 3 1 v2 ws.length (vsInt ws) ∧ (∀ k, v1.ownBlock = some k → v2.ownBlock ≠ some k)

set_option maxHeartbeats 800000 in
theorem toChip_any (a b : Option Addr) (ps : List ByteArray) (ws : List Int) (c d : Nat) (w : World) (hp : Rd w a (vsString ps)) (hw : Rd w b (vsInt ws)) (hl : ps.length ≤ 1048576) (hm : ws.length ≤ 1048576) :
    Calls Tryz.prog 29 #[.agg #[.slice a ps.length c, .slice b ws.length d]] w fun e w' => ∃ v, e = .returned v ∧ ChipOwn w' w.heap.size v ps ws ∧ Below w.heap.size w w' := by
  go_enter Tryz.func29, Tryz.ntmps29
  go_wp2_with fail
  obtain ⟨W, hW⟩ : ∃ W, W = ((w.alloc (Obj.cells #[.slice a ps.length c, .slice b ws.length d] 25)).alloc (Obj.cells #[.slice none 0 0, .slice none 0 0] 32)).alloc (Obj.cells #[.slice none 0 0, .slice none 0 0] 32) := ⟨_, rfl⟩
  have hbW : Below w.heap.size w W := by subst hW; exact (((Below.refl _ _).alloc (Nat.le_refl _) _).alloc (by simp) _).alloc (by simp; omega) _
  have hsW : w.heap.size + 1 + 1 < W.heap.size := by subst hW; simp
  have cW : W.cell? ⟨w.heap.size, 1, none⟩ = some (.slice b ws.length d) ∧ W.cell? ⟨w.heap.size + 1 + 1, 0, none⟩ = some (.slice none 0 0) ∧ W.cell? ⟨w.heap.size + 1 + 1, 1, none⟩ = some (.slice none 0 0) ∧ W.cell? ⟨w.heap.size + 1, 0, none⟩ = some (.slice none 0 0) ∧ W.cell? ⟨w.heap.size + 1, 1, none⟩ = some (.slice none 0 0) := by
    subst hW; refine ⟨?_, ?_, ?_, ?_, ?_⟩ <;> simp [go_sem]
  have fW : ∀ j, W.frozen? ⟨w.heap.size + 1 + 1, j, none⟩ = false ∧ W.frozen? ⟨w.heap.size + 1, j, none⟩ = false := by
    subst hW; intro j; constructor <;> simp [go_sem]
  rw [← hW]
  clear hW
  refine (toStringS_any a ps c W (hp.below hbW) (by omega)).mono ?_
  rintro e w1 ⟨rfl, ho1, hb1⟩
  obtain ⟨g1, hg1⟩ : ∃ g1, g1 = W.heap.size := ⟨_, rfl⟩
  rw [← hg1] at ho1 ⊢
  have hg1' : w.heap.size + 1 + 1 < g1 := by omega
  have c1 := (hb1.cell (p := ⟨w.heap.size, 1, none⟩) (by show _ < _; simp; omega)).trans cW.1
  have c2 := (hb1.cell (p := ⟨w.heap.size + 1 + 1, 0, none⟩) (by show _ < _; simp; omega)).trans cW.2.1
  have c3 := (hb1.cell (p := ⟨w.heap.size + 1 + 1, 1, none⟩) (by show _ < _; simp; omega)).trans cW.2.2.1
  have c4 := (hb1.cell (p := ⟨w.heap.size + 1, 0, none⟩) (by show _ < _; simp; omega)).trans cW.2.2.2.1
  have c5 := (hb1.cell (p := ⟨w.heap.size + 1, 1, none⟩) (by show _ < _; simp; omega)).trans cW.2.2.2.2
  have f1 : ∀ j, w1.frozen? ⟨w.heap.size + 1 + 1, j, none⟩ = false := fun j => (hb1.frozen (p := ⟨w.heap.size + 1 + 1, j, none⟩) (by show _ < _; simp; omega)).trans (fW j).1
  have f2 : ∀ j, w1.frozen? ⟨w.heap.size + 1, j, none⟩ = false := fun j => (hb1.frozen (p := ⟨w.heap.size + 1, j, none⟩) (by show _ < _; simp; omega)).trans (fW j).2
  have f10 := f1 0
  have hbw1 : Below w.heap.size w w1 := hbW.trans (hb1.mono (by omega))
  have hs1 := hb1.size
  clear cW fW hbW hb1 hg1
  go_wp2_with fail
  obtain ⟨U, hU⟩ : ∃ U, U = w1.setCell ⟨w.heap.size + 1 + 1, 0, none⟩ (.slice (some ⟨g1, 0, none⟩) ps.length ps.length) := ⟨_, rfl⟩
  rw [← hU]
  have hsU : U.heap.size = w1.heap.size := by subst hU; simp [World.setCell]
  have hbwU : Below w.heap.size w U := by subst hU; exact hbw1.setCell (by show _ ≤ _; simp; omega) _
  have hoU : U.ownsRow g1 9 1 (.slice (some ⟨g1, 0, none⟩) ps.length ps.length) ps.length (vsString ps) := by
    subst hU; exact ownsRow_setCell_below ho1 (by show _ < _; simpa using hg1') _
  have d2 : U.cell? ⟨w.heap.size + 1 + 1, 0, none⟩ = some (.slice (some ⟨g1, 0, none⟩) ps.length ps.length) := by subst hU; exact World.cell?_setCell_same w1 _ _ c2
  have d3 : U.cell? ⟨w.heap.size + 1 + 1, 1, none⟩ = some (.slice none 0 0) := by subst hU; simpa [go_sem] using c3
  have d4 : U.cell? ⟨w.heap.size + 1, 0, none⟩ = some (.slice none 0 0) := by subst hU; simpa [go_sem] using c4
  have d5 : U.cell? ⟨w.heap.size + 1, 1, none⟩ = some (.slice none 0 0) := by subst hU; simpa [go_sem] using c5
  have e1 : ∀ j, U.frozen? ⟨w.heap.size + 1 + 1, j, none⟩ = false := by subst hU; intro j; simpa using f1 j
  have e2 : ∀ j, U.frozen? ⟨w.heap.size + 1, j, none⟩ = false := by subst hU; intro j; simpa using f2 j
  have hgU : g1 < U.heap.size := (owns_lt hoU).2
  clear hU c1 c2 c3 c4 c5 f1 f2 f10 ho1 hbw1
  refine (toIntS_any b ws d U (hw.below hbwU) (by omega)).mono ?_
  rintro e w2 ⟨rfl, ho2, hb2⟩
  have hoP := owns_below hoU hb2
  obtain ⟨g2, hg2⟩ : ∃ g2, g2 = U.heap.size := ⟨_, rfl⟩
  rw [← hg2] at ho2 ⊢
  have hg2' : g1 < g2 := by omega
  have k2 := (hb2.cell (p := ⟨w.heap.size + 1 + 1, 0, none⟩) (by show _ < _; simp; omega)).trans d2
  have k3 := (hb2.cell (p := ⟨w.heap.size + 1 + 1, 1, none⟩) (by show _ < _; simp; omega)).trans d3
  have k4 := (hb2.cell (p := ⟨w.heap.size + 1, 0, none⟩) (by show _ < _; simp; omega)).trans d4
  have k5 := (hb2.cell (p := ⟨w.heap.size + 1, 1, none⟩) (by show _ < _; simp; omega)).trans d5
  have m1 := (hb2.frozen (p := ⟨w.heap.size + 1 + 1, 1, none⟩) (by show _ < _; simp; omega)).trans (e1 1)
  have m2 := (hb2.frozen (p := ⟨w.heap.size + 1, 0, none⟩) (by show _ < _; simp; omega)).trans (e2 0)
  have m3 := (hb2.frozen (p := ⟨w.heap.size + 1, 1, none⟩) (by show _ < _; simp; omega)).trans (e2 1)
  have hbw2 : Below w.heap.size w w2 := hbwU.trans (hb2.mono (by omega))
  clear hb2 hoU d2 d3 d4 d5 e1 e2 hbwU hg2 hsU
  go_wp2
  refine bodyPost_ret (v := .agg #[.slice (some ⟨g1, 0, none⟩) ps.length ps.length, .slice (some ⟨g2, 0, none⟩) ws.length ws.length]) (by simp [results, Tryz.results29, go_sem, k4, k5]) rfl ⟨_, rfl, ⟨_, _, rfl, ?_, ?_, ?_⟩, ?_⟩
  · refine owns_mono (ownsRow_setCell_below (ownsRow_setCell_below (ownsRow_setCell_below hoP ?_ _) ?_ _) ?_ _) (by omega) <;> (show _ < _; simp; omega)
  · refine owns_mono (ownsRow_setCell_below (ownsRow_setCell_below (ownsRow_setCell_below ho2 ?_ _) ?_ _) ?_ _) (by omega) <;> (show _ < _; simp; omega)
  · intro k hk
    simp [Value.ownBlock] at hk ⊢
    omega
  · exact ((hbw2.setCell (by show _ ≤ _; simp; omega) _).setCell (by show _ ≤ _; simp) _).setCell (by show _ ≤ _; simp) _

set_option maxHeartbeats 800000 in
theorem eqChip_any (a b a' b' : Option Addr) (ps qs : List ByteArray) (ws us : List Int) (c d c' d' : Nat) (w : World) (hp : Rd w a (vsString ps)) (hw : Rd w b (vsInt ws)) (hp' : Rd w a' (vsString qs)) (hw' : Rd w b' (vsInt us)) (hl : ps.length ≤ 1048576) (hm : ws.length ≤ 1048576) (hl' : qs.length ≤ 1048576) (hm' : us.length ≤ 1048576) :
    Calls Tryz.prog 39 #[.agg #[.slice a ps.length c, .slice b ws.length d], .agg #[.slice a' qs.length c', .slice b' us.length d']] w fun e w' => e = .returned (.bool (decide (ps = qs ∧ ws = us))) ∧ Below w.heap.size w w' := by
  have hbW : Below w.heap.size w ((w.alloc (Obj.cells #[.slice a ps.length c, .slice b ws.length d] 32)).alloc (Obj.cells #[.slice a' qs.length c', .slice b' us.length d'] 32)) := ((Below.refl _ _).alloc (Nat.le_refl _) _).alloc (by simp) _
  go_enter Tryz.func39, Tryz.ntmps39
  go_wp2_with fail
  refine (eqStringS_any a a' ps qs c c' _ (hp.below hbW) (hp'.below hbW) (by omega) (by omega)).mono ?_
  rintro e w1 ⟨rfl, n, rfl⟩
  by_cases hpq : ps = qs
  · have hd : decide (ps = qs) = true := by simp [hpq]
    rw [hd]
    have HP : Hid (ps = qs) := hpq
    clear hpq hd
    go_wp2_with fail
    refine (eqIntS_any b b' ws us d d' _ (hw.below (after_drew hbW n)) (hw'.below (after_drew hbW n)) (by omega) (by omega)).mono ?_
    rintro e w2 ⟨rfl, m, rfl⟩
    by_cases hwu : ws = us
    · have hd' : decide (ws = us) = true := by simp [hwu]
      rw [hd']
      have HE : Hid (ps = qs ∧ ws = us) := ⟨HP.out, hwu⟩
      clear hwu hd' hp hw hp' hw'
      go_wp2
      go_ret
      exact ⟨ret_bool (by simp [HE.out]), after_drew hbW (n + m)⟩
    · have hd' : decide (ws = us) = false := by simp [hwu]
      rw [hd']
      have HE : Hid (¬ (ps = qs ∧ ws = us)) := fun h => hwu h.2
      clear hwu hd' hp hw hp' hw'
      go_wp2
      go_ret
      exact ⟨ret_bool (by simp only [HE.out, decide_false]), after_drew hbW (n + m)⟩
  · have hd : decide (ps = qs) = false := by simp [hpq]
    rw [hd]
    have HE : Hid (¬ (ps = qs ∧ ws = us)) := fun h => hpq h.1
    clear hpq hd hp hw hp' hw'
    go_wp2
    go_ret
    exact ⟨ret_bool (by simp only [HE.out, decide_false]), after_drew hbW n⟩

/-- Nothing old has turned but in the listed blocks. -/
structure OnlyIn (w w' : World) (L : List (Option Nat)) : Prop where
  os : w'.os = w.os
  tape : w'.tape = w.tape
  output : w'.output = w.output
  size : w.heap.size ≤ w'.heap.size
  block : ∀ i, i < w.heap.size → some i ∉ L → w'.heap[i]? = w.heap[i]?
theorem OnlyIn.of_grown {w w' : World} {r : Option Nat} (h : w.grownBy w' r) : OnlyIn w w' [r] := ⟨h.os, h.tape, h.output, h.size, fun i hi hn => h.block i hi (by simpa using hn)⟩
theorem OnlyIn.of_below {w w' : World} (h : Below w.heap.size w w') (L : List (Option Nat)) : OnlyIn w w' L := ⟨h.os, h.tape, h.output, h.size, fun i hi _ => h.block i hi⟩
theorem OnlyIn.trans {w w1 w2 : World} {L M : List (Option Nat)} (h : OnlyIn w w1 L) (k : OnlyIn w1 w2 M) : OnlyIn w w2 (L ++ M) :=
  ⟨k.os.trans h.os, k.tape.trans h.tape, k.output.trans h.output, Nat.le_trans h.size k.size, fun i hi hn => by
    simp only [List.mem_append, not_or] at hn
    exact (k.block i (Nat.lt_of_lt_of_le hi h.size) hn.2).trans (h.block i hi hn.1)⟩
theorem OnlyIn.below {w w' : World} {L : List (Option Nat)} {base : Nat} (h : OnlyIn w w' L) (hB : base ≤ w.heap.size) (hL : ∀ k, some k ∈ L → base ≤ k) : Below base w w' :=
  ⟨h.os, h.tape, h.output, h.size, fun i hi => h.block i (by omega) (fun hm => by have := hL i hm; omega)⟩
theorem OnlyIn.owns {w w' : World} {L : List (Option Nat)} {base : Nat} {e : TypeId} {size : Nat} {v : Value} {n : Nat} {xs : List Value} (ho : w.ownsRow base e size v n xs) (h : OnlyIn w w' L) (hn : ∀ k, v.ownBlock = some k → some k ∉ L) : w'.ownsRow base e size v n xs := by
  obtain ⟨h1, h2⟩ := id ho
  refine ⟨h1, ?_⟩
  rcases h2 with h2 | ⟨g, cap, cur, hv, hg, hh, r⟩
  · exact .inl h2
  · refine .inr ⟨g, cap, cur, hv, hg, ?_, r⟩
    have hlt : g < w.heap.size := (ho.lt g (by rw [hv]; rfl)).2
    rw [h.block g hlt (hn g (by rw [hv]; rfl))]
    exact hh

set_option maxHeartbeats 800000 in
theorem markChip_any (a b : Option Addr) (n m c d base q : Nat) (xs ys : List Value) (w : World) (h1 : w.ownsRow base 9 1 (.slice a n c) n xs) (h2 : w.ownsRow base 3 1 (.slice b m d) m ys)
    (hne : ∀ k, (Value.slice a n c).ownBlock = some k → (Value.slice b m d).ownBlock ≠ some k) (hl : n ≤ 1048576) (hm : m ≤ 1048576) (hq0 : 0 < q) (hq : q ≤ 1000000) :
    Calls Tryz.prog 42 #[.agg #[.slice a n c, .slice b m d], .int .i64 q] w fun e w' => e = .returned (.int .i64 ((q + n + m : Nat) : Int)) ∧ w'.ownsRow base 9 1 (.slice a n c) n (marksT q n) ∧ w'.ownsRow base 3 1 (.slice b m d) m (marksI (q + n) m) ∧
      OnlyIn w w' [(Value.slice a n c).ownBlock, (Value.slice b m d).ownBlock] := by
  have hbW : Below w.heap.size w (w.alloc (Obj.cells #[.slice a n c, .slice b m d] 32)) := (Below.refl _ _).alloc (Nat.le_refl _) _
  have cW : (w.alloc (Obj.cells #[.slice a n c, .slice b m d] 32)).cell? ⟨w.heap.size, 1, none⟩ = some (.slice b m d) := by simp
  have nW : ∀ k, (Value.slice a n c).ownBlock = some k → k < w.heap.size := fun k hk => (h1.lt k hk).2
  go_enter Tryz.func42, Tryz.ntmps42
  go_wp2_with fail
  refine (markStringS_any (.slice a n c) n xs base q _ (owns_below h1 hbW) hl (by omega) hq0).mono ?_
  rintro e w1 ⟨rfl, ho1, hg1⟩
  have c1 : w1.cell? ⟨w.heap.size, 1, none⟩ = some (.slice b m d) := hg1.cell cW (by
    intro e
    have := nW w.heap.size e.symm
    omega)
  have ho2 : w1.ownsRow base 3 1 (.slice b m d) m ys := (owns_below h2 hbW).kept hg1 (by
    cases hv : (Value.slice b m d).ownBlock with
    | none => exact .inl rfl
    | some k =>
      right
      intro e
      exact hne k e.symm hv)
  have on1 : OnlyIn w w1 [(Value.slice a n c).ownBlock] := by
    have := (OnlyIn.of_below hbW []).trans (OnlyIn.of_grown hg1)
    simpa using this
  clear cW hbW hg1 h1 h2
  go_wp2_with fail
  refine (markIntS_any (.slice b m d) m ys base (q + n) _ ho2 hm (by omega)).mono ?_
  rintro e w2 ⟨rfl, ho2', hg2⟩
  have ho1' : w2.ownsRow base 9 1 (.slice a n c) n (marksT q n) := ho1.kept hg2 (by
    cases hv : (Value.slice a n c).ownBlock with
    | none => exact .inl rfl
    | some k =>
      right
      intro e
      exact hne k hv e.symm)
  have on2 : OnlyIn w w2 [(Value.slice a n c).ownBlock, (Value.slice b m d).ownBlock] := on1.trans (OnlyIn.of_grown hg2)
  clear hg2 ho1 ho2 on1 c1
  go_wp2
  go_ret
  exact ⟨rfl, ho1', ho2', on2⟩

set_option maxHeartbeats 800000 in
theorem heldChip_any (a b : Option Addr) (n m c d base q : Nat) (w : World) (h1 : w.ownsRow base 9 1 (.slice a n c) n (marksT q n)) (h2 : w.ownsRow base 3 1 (.slice b m d) m (marksI (q + n) m)) (hl : n ≤ 1048576) (hm : m ≤ 1048576) (hq0 : 0 < q) (hq : q ≤ 1000000) :
    Calls Tryz.prog 45 #[.agg #[.slice a n c, .slice b m d], .int .i64 q] w fun e w' => e = .returned (.int .i64 ((q + n + m : Nat) : Int)) ∧ Below w.heap.size w w' := by
  have hbW : Below w.heap.size w (w.alloc (Obj.cells #[.slice a n c, .slice b m d] 32)) := (Below.refl _ _).alloc (Nat.le_refl _) _
  go_enter Tryz.func45, Tryz.ntmps45
  go_wp2_with fail
  refine (heldStringS_any (.slice a n c) n base q _ (owns_below h1 hbW) hl (by omega) hq0).mono ?_
  rintro e w1 ⟨rfl, hb1⟩
  have c1 : w1.cell? ⟨w.heap.size, 1, none⟩ = some (.slice b m d) := (hb1.cell (p := ⟨w.heap.size, 1, none⟩) (by show _ < _; simp)).trans (by simp)
  have hbw1 := after hbW hb1
  have h2' := owns_below h2 hbw1
  clear hb1 hbW h1 h2
  go_wp2_with fail
  refine (heldIntS_any (.slice b m d) m base (q + n) _ h2' hm (by omega)).mono ?_
  rintro e u ⟨rfl, hu⟩
  have hu' := hu.symm
  subst hu'
  clear h2' c1
  go_wp2
  go_ret
  exact ⟨rfl, hbw1⟩

set_option maxHeartbeats 800000 in
theorem szStringS_any (a : Option Addr) (ps : List ByteArray) (c : Nat) (l : Nat) (w : World) (hp : Rd w a (vsString ps)) (hm : ps.length ≤ maxLen) (hs : ∀ s ∈ ps, s.size ≤ maxLen) (hl : l ≤ 1048576) :
    Calls Tryz.prog 50 #[.slice a ps.length c, .int .i64 l] w fun e w' => (∃ r : Int, e = .returned (.int .i64 r) ∧ -1 ≤ r ∧ r ≤ l ∧ (0 ≤ r → ps.length ≤ l ∧ ∀ s ∈ ps, s.size ≤ l)) ∧ w' = w := by
  unfold maxLen at hm hs
  by_cases hbig : (l : Int) - ps.length < 0
  · clear hp
    go_enter Tryz.func50, Tryz.ntmps50
    go_wp2
    go_ret
    exact ⟨⟨-1, rfl, by omega, by omega, by omega⟩, rfl⟩
  · go_enter Tryz.func50, Tryz.ntmps50
    go_wp2
    go_loop [1, 5] (fun q i => ∃ (k : Nat) (r : Int), k ≤ ps.length ∧ i = .int .i64 k ∧ q = .int .i64 r ∧ 0 ≤ r ∧ r ≤ l ∧ Hid (∀ s ∈ ps.take k, s.size ≤ l)) (fun _ i => ps.length - (intOf i).toNat)
    case atStart => exact ⟨0, _, Nat.zero_le _, rfl, rfl, by omega, by omega, by show ∀ _, _; simp⟩
    case round =>
      obtain ⟨k, r, hk, rfl, rfl, hr0, hr1, hall⟩ := hrel
      by_cases hlt : k < ps.length
      · obtain ⟨b, off, x, rfl, hck, HX⟩ := rdString_at hp hlt
        have hx : x.size ≤ 9223372036854775807 := by
          have := hs x (List.mem_of_getElem? HX.out)
          omega
        clear hp
        by_cases hneg : r - (x.size : Int) < 0
        · go_wp2
          go_ret
          exact ⟨⟨-1, rfl, by omega, by omega, by omega⟩, rfl⟩
        · have hall' : Hid (∀ s ∈ ps.take (k + 1), s.size ≤ l) := by
            show ∀ _, _
            intro s hs'
            rw [List.take_add_one, HX.out] at hs'
            simp only [Option.toList_some, List.mem_append, List.mem_singleton] at hs'
            rcases hs' with h | rfl
            · exact hall.out s h
            · omega
          go_wp2
          go_round
          case rel => exact ⟨k + 1, _, by omega, by go_num, rfl, by omega, by omega, hall'⟩
          case measure => simp [intOf]; omega
      · have hall' : Hid (∀ s ∈ ps, s.size ≤ l) := by
          have := hall.out
          rw [List.take_of_length_le (by omega)] at this
          exact this
        clear hp
        go_wp2
        go_ret
        exact ⟨⟨r, rfl, by omega, hr1, fun _ => ⟨by omega, hall'.out⟩⟩, rfl⟩

theorem szIntS_any (a : Option Addr) (n c : Nat) (l : Nat) (w : World) (hm : n ≤ maxLen) (hl : l ≤ 1048576) :
    Calls Tryz.prog 22 #[.slice a n c, .int .i64 l] w fun e w' => (∃ r : Int, e = .returned (.int .i64 r) ∧ -1 ≤ r ∧ r ≤ l ∧ (0 ≤ r → n ≤ l)) ∧ w' = w := by
  unfold maxLen at hm
  by_cases hbig : (l : Int) - n < 0
  · go_enter Tryz.func22, Tryz.ntmps22
    go_wp2
    go_ret
    exact ⟨⟨-1, rfl, by omega, by omega, by omega⟩, rfl⟩
  · go_enter Tryz.func22, Tryz.ntmps22
    go_wp2
    go_ret
    exact ⟨⟨_, rfl, by omega, by omega, fun _ => by omega⟩, rfl⟩

set_option maxHeartbeats 800000 in
theorem szChip_any (a b : Option Addr) (ps : List ByteArray) (m c d : Nat) (l : Nat) (w : World) (hp : Rd w a (vsString ps)) (hn : ps.length ≤ maxLen) (hs : ∀ s ∈ ps, s.size ≤ maxLen) (hm : m ≤ maxLen) (hl : l ≤ 1048576) :
    Calls Tryz.prog 21 #[.agg #[.slice a ps.length c, .slice b m d], .int .i64 l] w fun e w' => (∃ r : Int, e = .returned (.int .i64 r) ∧ -1 ≤ r ∧ r ≤ l ∧ (0 ≤ r → ps.length ≤ l ∧ (∀ s ∈ ps, s.size ≤ l) ∧ m ≤ l)) ∧ Below w.heap.size w w' := by
  have hbW : Below w.heap.size w (w.alloc (Obj.cells #[.slice a ps.length c, .slice b m d] 25)) := (Below.refl _ _).alloc (Nat.le_refl _) _
  go_enter Tryz.func21, Tryz.ntmps21
  go_wp2_with fail
  refine (szStringS_any a ps c l _ (hp.below hbW) hn hs hl).mono ?_
  rintro e u ⟨⟨r, rfl, hr0, hr1, hr2⟩, hu⟩
  have hu' := hu.symm
  subst hu'
  by_cases hneg : r < 0
  · clear hp hr2
    go_wp2
    go_ret
    exact ⟨⟨-1, rfl, by omega, by omega, by omega⟩, hbW⟩
  · obtain ⟨R, rfl⟩ : ∃ R : Nat, r = R := ⟨r.toNat, by omega⟩
    have hr2' := hr2 (by omega)
    clear hr2
    go_wp2_with fail
    refine (szIntS_any b m d R _ hm (by omega)).mono ?_
    rintro e u ⟨⟨r2, rfl, hs0, hs1, hs2⟩, hu⟩
    have hu' := hu.symm
    subst hu'
    have HR : Hid _ := hr2'
    have HS : Hid _ := hs2
    clear hr2' hs2 hp hs
    by_cases hneg2 : r2 < 0
    · go_wp2
      go_ret
      exact ⟨⟨-1, rfl, by omega, by omega, by omega⟩, hbW⟩
    · go_wp2
      go_ret
      exact ⟨⟨r2, rfl, by omega, by omega, fun h => ⟨HR.out.1, HR.out.2, by have := HS.out h; omega⟩⟩, hbW⟩

end Go.Proofs.YtdicjbabnknjhaaGreat
