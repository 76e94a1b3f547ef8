/-
  Contracts of the laws' helpers over byte slices: toByteS (a new copy), eqByteS, markByteS, heldByteS.
-/
import Derived.Test.YtgalfbcolbgabaaChecked
import Derived.Test.YtgalfbcolbgabaaLib
import Derived.Deep.QuietTactic
import Derived.BigQuiet
namespace Go.Proofs.Ytgalfbcolbgabaa
open Go.RowKit

theorem info5 : (Try.prog.info? 5).map (fun i => (i.zero, i.size, i.bytes)) = some (some (.int .u8 0), 1, 1) := by kernel_rfl

/-- How far a copy has come. -/
def halfway (zs : List Int) (k : Nat) : List Value := u8s (zs.take k) ++ List.replicate (zs.length - k) (.int .u8 0)

theorem halfway_step {zs : List Int} {k : Nat} (h : k < zs.length) : (halfway zs k).set k (.int .u8 (zs[k]?.getD 0)) = halfway zs (k + 1) := by
  apply List.ext_getElem?
  intro i
  simp only [halfway, List.getElem?_set, List.getElem?_append, List.length_map, List.length_take, List.length_append, List.length_replicate, List.getElem?_map, List.getElem?_take, List.getElem?_replicate]
  have m1 : min k zs.length = k := by omega
  have m2 : min (k + 1) zs.length = k + 1 := by omega
  rw [m1, m2]
  by_cases h1 : k = i
  · subst h1
    have : k < k + (zs.length - k) := by omega
    simp [this, h]
  · by_cases h2 : i < k
    · have : i < k + 1 := by omega
      simp [h1, h2, this]
    · have h3 : ¬ i < k + 1 := by omega
      simp only [h1, h2, h3, if_false]
      by_cases h4 : i < zs.length
      · rw [if_pos (by omega), if_pos (by omega)]
      · rw [if_neg (by omega), if_neg (by omega)]
theorem halfway_all (zs : List Int) : halfway zs zs.length = u8s zs := by simp [halfway]

set_option maxHeartbeats 400000 in
theorem toByteS_any (a : Option Addr) (zs : List Int) (cap : Nat) (w : World) (hr : Rd w a (u8s zs)) (hb : IsBytes zs) (hm : zs.length ≤ 140737488351232) :
    Calls Try.prog 29 #[.slice a zs.length cap] w fun e w' => e = .returned (.slice (some ⟨w.heap.size, 0, none⟩) zs.length zs.length) ∧
      w'.ownsRow w.heap.size 5 1 (.slice (some ⟨w.heap.size, 0, none⟩) zs.length zs.length) zs.length (u8s zs) ∧ Below w.heap.size w w' := by
  obtain ⟨i0, hi, hz0, hz1, hz2⟩ := info_parts info5
  go_enter Try.func29, Try.ntmps29
  go_wp2_with (at_make; refine wpList_make_full _ rfl _ _ 22 rfl w.heap.size 5 i0 (.int .u8 0) 1 Try.underlying22 hi hz0 hz1 .i64 .i64 zs.length zs.length zs.length rfl rfl rfl rfl (by rw [hz2]; omega) (by unfold maxLen; omega) (Nat.le_refl _) ?_; intro w1 hown hgrow)
  have hb1 : Below w.heap.size w w1 := (Below.refl _ _).grown hgrow (Nat.le_refl _) (by simp)
  have hown1 : w1.ownsRow w.heap.size 5 1 (.slice (some ⟨w.heap.size, 0, none⟩) zs.length zs.length) zs.length (halfway zs 0) := by
    have e : (madeCells (Value.int IntKind.u8 0).cells (zs.length * 1)).toList = halfway zs 0 := by
      show (madeCells #[Value.int IntKind.u8 0] (zs.length * 1)).toList = _
      rw [toList_madeCells_one]; simp [halfway]
    rw [← e]; exact hown
  clear hown hgrow
  go_loopw [4] (fun i wr => ∃ k : Nat, k ≤ zs.length ∧ i = .int .i64 k ∧ wr.ownsRow w.heap.size 5 1 (.slice (some ⟨w.heap.size, 0, none⟩) zs.length zs.length) zs.length (halfway zs k) ∧ Below w.heap.size w wr) (fun i _ => zs.length - (intOf i).toNat)
  case atStart => exact ⟨0, Nat.zero_le _, rfl, hown1, hb1⟩
  case round =>
    obtain ⟨k, hk, rfl, hown, hbel⟩ := hrel
    by_cases hlt : k < zs.length
    · obtain ⟨b, off, z, rfl, hck, hz, HZ⟩ := rd_u8_at (hr.below hbel) hb hlt
      have hfz := hown.frozenAt k
      have hst := hown.stored k (.int .u8 z)
      have hcell : wr.cell? ⟨w.heap.size, k, none⟩ = some ((halfway zs k)[k]?.getD (.int .u8 0)) := by
        rw [hown.cellAt k (by omega)]
        have : k < (halfway zs k).length := by rw [hown.1]; omega
        simp [this]
      have HO : Hid ((wr.setCell ⟨w.heap.size, k, none⟩ (.int .u8 z)).ownsRow w.heap.size 5 1 (.slice (some ⟨w.heap.size, 0, none⟩) zs.length zs.length) zs.length (halfway zs (k + 1)) ∧ Below w.heap.size w (wr.setCell ⟨w.heap.size, k, none⟩ (.int .u8 z))) := by
        refine ⟨?_, hbel.setCell (Nat.le_refl _) _⟩
        rw [← halfway_step hlt, HZ.out]
        exact hst.1
      clear hr hb1 hown1 hst hown
      go_wp2
      go_roundw
      case rel => exact ⟨k + 1, by omega, by go_num, HO.out.1, HO.out.2⟩
      case measure => simp [intOf]; omega
    · have hkl : k = zs.length := by omega
      subst hkl
      rw [halfway_all] at hown
      clear hown1 hb1
      go_wp2
      go_ret
      exact ⟨rfl, hown, hbel⟩

theorem take_eq_step {zs ys : List Int} {k : Nat} (h : zs.take k = ys.take k) (hk : k < zs.length) (hl : zs.length = ys.length) (he : zs[k]?.getD 0 = ys[k]?.getD 0) : zs.take (k + 1) = ys.take (k + 1) := by
  rw [List.take_succ_eq_append_getElem hk, List.take_succ_eq_append_getElem (by omega), h]
  simp [hk, show k < ys.length by omega] at he
  rw [he]
theorem ne_of_at {zs ys : List Int} {k : Nat} (he : ¬ zs[k]?.getD 0 = ys[k]?.getD 0) : zs ≠ ys := fun e => he (by rw [e])

set_option maxHeartbeats 400000 in
theorem eqByteS_any (a b : Option Addr) (zs ys : List Int) (c d : Nat) (w : World) (hr : Rd w a (u8s zs)) (hs : Rd w b (u8s ys)) (hbz : IsBytes zs) (hby : IsBytes ys) (hm : zs.length ≤ maxLen) (_hn : ys.length ≤ maxLen) :
    Calls Try.prog 26 #[.slice a zs.length c, .slice b ys.length d] w fun e w' => e = .returned (.bool (decide (zs = ys))) ∧ ∃ n, w' = w.drewN n := by
  unfold maxLen at hm
  by_cases hl : zs.length = ys.length
  · have hl' : ((zs.length : Int) != (ys.length : Int)) = false := by simp [hl]
    have HL : Hid (zs.length = ys.length) := hl
    clear hl
    go_enter Try.func26, Try.ntmps26
    go_wp2
    go_loopw [5] (fun i wr => ∃ k : Nat, k ≤ zs.length ∧ i = .int .i64 k ∧ zs.take k = ys.take k ∧ ∃ n, wr = w.drewN n) (fun i _ => zs.length - (intOf i).toNat)
    case atStart => exact ⟨0, Nat.zero_le _, rfl, by simp, 0, rfl⟩
    case round =>
      obtain ⟨k, hk, rfl, htk, n, rfl⟩ := hrel
      by_cases hlt : k < zs.length
      · have hlt' : k < ys.length := by have := HL.out; omega
        obtain ⟨ba, oa, z, rfl, hck, hz, HZ⟩ := rd_u8_at hr hbz hlt
        obtain ⟨bb, ob, y, rfl, hcy, hy, HY⟩ := rd_u8_at hs hby hlt'
        have HT : Hid (zs.take k = ys.take k) := htk
        clear hr hs htk hl'
        by_cases hzy : z = y
        · have HE : Hid (zs.take (k + 1) = ys.take (k + 1)) := take_eq_step HT.out hlt HL.out (by rw [HZ.out, HY.out, hzy])
          have ht : (z != y) = false := by simp [hzy]
          clear hzy
          go_wp2
          go_quiet (fail)
          go_wp2
          go_roundw
          case rel => exact ⟨k + 1, by omega, by go_num, HE.out, _, rfl⟩
          case measure => simp [intOf]; omega
        · have HE : Hid (zs ≠ ys) := ne_of_at (k := k) (by rw [HZ.out, HY.out]; exact hzy)
          have ht : (z != y) = true := by simp [hzy]
          clear hzy
          go_wp2
          go_quiet (fail)
          go_wp2
          go_ret
          exact ⟨ret_bool (by simp [HE.out]), _, World.drewN_drewN _ _ _⟩
      · have HE : Hid (zs = ys) := by
          have := HL.out
          rw [List.take_of_length_le (by omega), List.take_of_length_le (by omega)] at htk; exact htk
        clear htk hl'
        go_wp2
        go_ret
        exact ⟨ret_bool (by simp [HE.out]), _, rfl⟩
  · have hl' : ((zs.length : Int) != (ys.length : Int)) = true := by simp; omega
    have HE : Hid (zs ≠ ys) := fun e => hl (by rw [e])
    clear hl
    go_enter Try.func26, Try.ntmps26
    go_wp2
    go_ret
    exact ⟨ret_bool (by simp [HE.out]), 0, rfl⟩

/-- The marks 1, 2, 3 .. as bytes. -/
def marks (n : Nat) : List Value := (List.range n).map fun (i : Nat) => .int .u8 (IntKind.u8.wrap ((i : Int) + 1))
/-- How far the marking has come. -/
def marked (xs : List Value) (k : Nat) : List Value := marks k ++ xs.drop k
theorem marked_step {xs : List Value} {k : Nat} (h : k < xs.length) : (marked xs k).set k (.int .u8 (IntKind.u8.wrap ((k : Int) + 1))) = marked xs (k + 1) := by
  unfold marked marks
  rw [List.set_append_right _ _ (by simp), List.range_succ, List.map_append]
  simp only [List.length_map, List.length_range, Nat.sub_self, List.map_cons, List.map_nil, List.append_assoc, List.singleton_append]
  rw [List.drop_eq_getElem_cons h, List.set_cons_zero]
theorem marked_all {xs : List Value} {k : Nat} (h : k = xs.length) : marked xs k = marks k := by subst h; simp [marked]

set_option maxHeartbeats 400000 in
theorem markByteS_any (v : Value) (n : Nat) (xs : List Value) (base : Nat) (w : World) (ho : w.ownsRow base 5 1 v n xs) (hm : n ≤ 140737488351232) :
    Calls Try.prog 27 #[v, .int .i64 1] w fun e w' => e = .returned (.int .i64 (n + 1)) ∧ w'.ownsRow base 5 1 v n (marks n) ∧ w.grownBy w' v.ownBlock := by
  rcases id ho with ⟨hl, ⟨rfl, rfl⟩ | ⟨g, cap, cur, rfl, hg, -⟩⟩
  · go_enter Try.func27, Try.ntmps27
    go_wp2
    go_loop [1, 5] (fun q i => q = .int .i64 1 ∧ i = .int .i64 0) (fun _ _ => 0)
    case atStart => exact ⟨rfl, rfl⟩
    case round =>
      obtain ⟨rfl, rfl⟩ := hrel
      go_wp2
      go_ret
      exact ⟨rfl, World.ownsRow_nil _ _ _ _, World.grownBy.refl _ _⟩
  · have hln : xs.length = n := by simpa using hl
    clear hl
    have HLN : Hid (xs.length = n) := hln
    clear hln
    go_enter Try.func27, Try.ntmps27
    go_wp2
    go_loopw [1, 5] (fun q i wr => ∃ k : Nat, k ≤ n ∧ i = .int .i64 k ∧ q = .int .i64 (k + 1) ∧ wr.ownsRow base 5 1 (.slice (some ⟨g, 0, none⟩) n cap) n (marked xs k) ∧ w.grownBy wr (some g)) (fun _ i _ => n - (intOf i).toNat)
    case atStart => exact ⟨0, Nat.zero_le _, rfl, rfl, ho, World.grownBy.refl _ _⟩
    case round =>
      obtain ⟨k, hk, rfl, rfl, hown, hgrow⟩ := hrel
      by_cases hlt : k < n
      · have hfz := hown.frozenAt k
        have hst := hown.stored k (.int .u8 (IntKind.u8.wrap ((k : Int) + 1)))
        have hcell : ∃ u, wr.cell? ⟨g, k, none⟩ = some u := by
          have h1 := hown.cellAt k (by omega)
          have h2 : k < (marked xs k).length := by rw [hown.1]; omega
          exact ⟨(marked xs k)[k], by rw [h1]; simp [h2]⟩
        obtain ⟨u, hcell⟩ := hcell
        have HO : Hid ((wr.setCell ⟨g, k, none⟩ (.int .u8 (IntKind.u8.wrap ((k : Int) + 1)))).ownsRow base 5 1 (.slice (some ⟨g, 0, none⟩) n cap) n (marked xs (k + 1)) ∧ w.grownBy (wr.setCell ⟨g, k, none⟩ (.int .u8 (IntKind.u8.wrap ((k : Int) + 1)))) (some g)) := by
          refine ⟨?_, ?_⟩
          · rw [← marked_step (by rw [HLN.out]; exact hlt)]; exact hst.1
          · exact grown_trans hgrow hst.2
        clear hst hown hgrow ho
        go_wp2
        go_roundw
        case rel => exact ⟨k + 1, by omega, by go_num, by go_num, HO.out.1, HO.out.2⟩
        case measure => simp [intOf]; omega
      · have hkn : k = n := by omega
        subst hkn
        rw [marked_all HLN.out.symm] at hown
        clear ho
        go_wp2
        go_ret
        exact ⟨rfl, hown, hgrow⟩

set_option maxHeartbeats 400000 in
theorem heldByteS_any (v : Value) (n : Nat) (base : Nat) (w : World) (ho : w.ownsRow base 5 1 v n (marks n)) (hm : n ≤ 140737488351232) :
    Calls Try.prog 28 #[v, .int .i64 1] w fun e w' => e = .returned (.int .i64 (n + 1)) ∧ w' = w := by
  rcases id ho with ⟨hl, ⟨rfl, rfl⟩ | ⟨g, cap, cur, rfl, hg, -⟩⟩
  · go_enter Try.func28, Try.ntmps28
    go_wp2
    go_loop [1, 5] (fun q i => q = .int .i64 1 ∧ i = .int .i64 0) (fun _ _ => 0)
    case atStart => exact ⟨rfl, rfl⟩
    case round =>
      obtain ⟨rfl, rfl⟩ := hrel
      go_wp2
      go_ret
      exact ⟨rfl, rfl⟩
  · clear hl
    go_enter Try.func28, Try.ntmps28
    go_wp2
    go_loop [1, 5] (fun q i => ∃ k : Nat, k ≤ n ∧ i = .int .i64 k ∧ q = .int .i64 (k + 1)) (fun _ i => n - (intOf i).toNat)
    case atStart => exact ⟨0, Nat.zero_le _, rfl, rfl⟩
    case round =>
      obtain ⟨k, hk, rfl, rfl⟩ := hrel
      by_cases hlt : k < n
      · have hcell : w.cell? ⟨g, k, none⟩ = some (.int .u8 (IntKind.u8.wrap ((k : Int) + 1))) := by
          rw [ho.cellAt k (by omega)]; simp [marks, hlt]
        clear ho
        go_wp2
        go_round
        case rel => exact ⟨k + 1, by omega, by go_num, by go_num⟩
        case measure => simp [intOf]; omega
      · have hkn : k = n := by omega
        subst hkn
        clear ho
        go_wp2
        go_ret
        exact ⟨rfl, rfl⟩

end Go.Proofs.Ytgalfbcolbgabaa
