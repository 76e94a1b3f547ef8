/-
  Contracts of math/bits.Mul and slices.Repeat at what the program hands them: one -1, 26 times.
-/
import Derived.Test.YtdicjbabnknjhaaSpecBurn
import Derived.Laws.MakeOwn
import Derived.Laws.CopyOwn
import Derived.Deep.RegionLaw
namespace Go.Proofs.Ytdicjbabnknjhaa
open Go.RowKit

set_option maxHeartbeats 1600000 in
theorem mul64_any (w : World) : Calls Try.prog 85 #[.int .u64 1, .int .u64 26] w fun e w' => e = .returned (.tuple #[.int .u64 0, .int .u64 26]) ∧ w' = w := by
  go_enter Try.func85, Try.ntmps85
  go_wp2
  go_ret2
  exact ⟨rfl, rfl⟩

set_option maxHeartbeats 1600000 in
theorem mul_any (w : World) : Calls Try.prog 78 #[.int .u64 1, .int .u64 26] w fun e w' => e = .returned (.tuple #[.int .u64 0, .int .u64 26]) ∧ w' = w := by
  go_enter Try.func78, Try.ntmps78
  go_wp2_with fail
  refine (mul64_any _).mono ?_
  rintro e u ⟨rfl, hu⟩
  have hu' := hu.symm
  subst hu'
  go_wp2
  go_ret2
  exact ⟨rfl, rfl⟩

/-- The row that Repeat fills: n of them are there. -/
def repL (n : Nat) : List Value := vsInt (List.replicate n (-1)) ++ List.replicate (26 - n) (Value.int .i64 0)
theorem repL_len {n : Nat} (h : n ≤ 26) : (repL n).length = 26 := by simp [repL]; omega
theorem repL_splice (n m : Nat) : splice (repL n) n (vsInt (List.replicate m (-1))) = repL (n + m) := by
  have e1 : (repL n).take n = vsInt (List.replicate n (-1)) := by
    unfold repL; rw [List.take_left' (by simp)]
  have e2 : (repL n).drop (n + m) = List.replicate (26 - (n + m)) (Value.int .i64 0) := by
    unfold repL
    rw [List.drop_append, List.drop_eq_nil_of_le (by simp), List.nil_append, List.drop_replicate]
    congr 1
    simp; omega
  have e3 : vsInt (List.replicate (n + m) (-1)) = vsInt (List.replicate n (-1)) ++ vsInt (List.replicate m (-1)) := by
    rw [← List.map_append, List.replicate_append_replicate]
  simp only [splice, List.length_map, List.length_replicate, e1, e2]
  rw [repL, e3, List.append_assoc]
theorem szInt1 : (Try.prog.info? 3).map (·.size) = some 1 := by kernel_rfl
theorem made_n (n : Nat) : madeCells (Value.int .i64 0).cells n = (List.replicate n (Value.int .i64 0)).toArray :=
  Array.ext (by simp [madeCells]) (fun i h1 h2 => by simp [madeCells, Value.cells, Nat.mod_one])
theorem made26 : madeCells (Value.int .i64 0).cells 26 = (repL 0).toArray := by
  rw [made_n]; rfl
theorem repL_at {n j : Nat} {v : Value} {m : Nat} (hm : m ≤ n) (hv : (vsInt (List.replicate m (-1)))[j]? = some v) : (repL n).toArray[j]? = some v := by
  have hj : j < m := by
    rcases Nat.lt_or_ge j m with h' | h'
    · exact h'
    · simp [h'] at hv
  have e : v = .int .i64 (-1) := by
    rw [List.getElem?_map, List.getElem?_replicate_of_lt hj] at hv; simpa using hv.symm
  subst e
  simp only [List.getElem?_toArray, repL]
  rw [List.getElem?_append_left (by simp; omega), List.getElem?_map, List.getElem?_replicate_of_lt (by omega)]
  rfl

theorem heap_cell {w : World} {g j : Nat} {C : Array Value} {t : TypeId} {v : Value} (h : w.heap[g]? = some (.cells C t (0, 0))) (hv : C[j]? = some v) : w.cell? ⟨g, j, none⟩ = some v := by
  simp [World.cell?, h, hv]

set_option maxRecDepth 100000 in
set_option maxHeartbeats 3200000 in
theorem repeat_any (b o c : Nat) (w : World) (hc : w.cell? ⟨b, o, none⟩ = some (.int .i64 (-1))) :
    Calls Try.prog 73 #[.slice (some ⟨b, o, none⟩) 1 c, .int .i64 26] w fun e w' => e = .returned (.slice (some ⟨w.heap.size, 0, none⟩) 26 26) ∧ w'.heap[w.heap.size]? = some (.cells (vsInt (List.replicate 26 (-1))).toArray 3 (0, 0)) ∧ Below w.heap.size w w' := by
  obtain ⟨i2, hi2, hz0, hz1, hz2⟩ := info_parts infoInt
  have k26 : ∀ w, (Instr.makeSlice 34 (.int .i64 26) (.int .i64 26)).run Try.prog w = .ok (.slice (some ⟨w.heap.size, 0, none⟩) 26 26) (w.alloc (.cells (repL 0).toArray 3)) := by
    intro w
    have := run_make (P := Try.prog) w 34 3 i2 _ Try.underlying34 hi2 hz0 .i64 .i64 26 26 (by decide) (by decide) (by rw [hz2]; decide) (by decide)
    rw [hz1, show Int.toNat 26 * 1 = 26 from rfl, made26] at this
    exact this
  obtain ⟨Z, hZ⟩ : ∃ Z, Z = (repL 0).toArray := ⟨_, rfl⟩
  rw [← hZ] at k26
  obtain ⟨W, hW⟩ : ∃ W, W = w.alloc (.cells Z 3) := ⟨_, rfl⟩
  have hbW : Below w.heap.size w W := by rw [hW]; exact (Below.refl _ _).alloc (Nat.le_refl _) _
  have HG : Hid (W.heap[w.heap.size]? = some (.cells (repL 0).toArray 3 (0, 0))) := by show _ = _; rw [hW, hZ]; exact Go.heap_alloc_new w _
  have HC : Hid (W.cell? ⟨b, o, none⟩ = some (.int .i64 (-1))) := (hbW.cell (p := ⟨b, o, none⟩) (lt_of_cell hc)).trans hc
  have HB := hide hbW
  clear hZ hz0 hz1 hz2 hc hbW
  go_enter Try.func73, Try.ntmps73
  go_wp2_with fail
  refine (mul_any _).mono ?_
  rintro e u ⟨rfl, hu⟩
  have hu' := hu.symm
  subst hu'
  go_wp2_with (rw [← hW]; refine wpList_copy_splice rfl (.tmp 31) (.tmp 32) 34 34 rfl 3 Try.underlying34 szInt1 _ _ _ _ _ _ rfl rfl w.heap.size 0 (repL 0) 3 HG.out (vsInt (List.replicate 1 (-1))) rfl (fun _ => ⟨rfl, _, rfl, ?q1⟩) (by decide) ?q2 w.heap.size w HB.out (Nat.le_refl _) ?_)
  case q1 =>
    intro j v hv
    match j, hv with
    | 0, hv => simp at hv; subst hv; simpa [Addr.add] using HC.out
  case q2 => intro v hv; simp at hv; subst hv; rfl
  intro w1 HG1 hB1
  have hg1 : w1.heap[w.heap.size]? = some (.cells (repL 1).toArray 3 (0, 0)) := by
    have := HG1.out
    exact (repL_splice 0 1) ▸ this
  clear HG HC HB HG1 hW k26
  go_wp2_with fail
  go_loopw [8] (fun i wr => ∃ n : Nat, 1 ≤ n ∧ n ≤ 26 ∧ i = .int .i64 n ∧ wr.heap[w.heap.size]? = some (.cells (repL n).toArray 3 (0, 0)) ∧ Below w.heap.size w wr) (fun i _ => 26 - (intOf i).toNat)
  case atStart => exact ⟨1, by omega, by omega, rfl, hg1, hB1⟩
  case round =>
    obtain ⟨n, hn1, hn2, rfl, hg, hB⟩ := hrel
    clear hg1 hB1
    by_cases hlt : n < 26
    · have HG2 : Hid (wr.drew.heap[w.heap.size]? = some (.cells (repL n).toArray 3 (0, 0))) := hg
      have HB2 : Hid (Below w.heap.size w wr.drew) := after_drew hB 1
      obtain ⟨m, hm⟩ : ∃ m, m = Nat.min n (26 - n) := ⟨_, rfl⟩
      have HN : Hid ((vsInt (List.replicate m (-1))).length = Nat.min n (26 - n)) := by show _ = _; simp [hm]
      have hm1 : 1 ≤ m ∧ m ≤ n ∧ n + m ≤ 26 := by rw [hm]; have : Nat.min n (26 - n) = min n (26 - n) := rfl; omega
      have HF : Hid (n + (vsInt (List.replicate m (-1))).length ≤ (repL n).length) := by show _ ≤ _; rw [repL_len hn2]; simp; omega
      have HC2 : Hid (∀ j v, (vsInt (List.replicate m (-1)))[j]? = some v → wr.drew.cell? ((⟨w.heap.size, 0, none⟩ : Addr).add j) = some v) := fun j v hv => by
        rw [add_at, Nat.zero_add]
        exact heap_cell HG2.out (repL_at hm1.2.1 hv)
      have HO : Hid (∀ v ∈ vsInt (List.replicate m (-1)), v.oneCell' = true) := fun v hv => by
        simp at hv; obtain ⟨_, rfl⟩ := hv; rfl
      have m1 := hm1.1
      have m2 := hm1.2.1
      have m3 := hm1.2.2
      clear hm1
      have q1 : (n : Int) ≤ 26 := by omega
      have q2 : ¬ 26 = n := by omega
      have q3 : IntKind.i64.wrap ((n : Int) + m) = n + m := by rw [IntKind.wrap_i64]; omega
      clear hm hg hB
      go_wp2_with fail
      go_region_law (refine step_copy_splice rfl (.tmp 41) (.tmp 44) 34 34 rfl 3 Try.underlying34 szInt1 _ _ _ _ _ _ (by rfl) (by rfl) w.heap.size n (repL n) 3 HG2.out (vsInt (List.replicate m (-1))) HN.out (fun _ => ⟨rfl, _, rfl, HC2.out⟩) HF.out HO.out w.heap.size w HB2.out (Nat.le_refl _) ?_; intro w4 HG4 hB4)
      have hB5 := hB4
      have HG5 : Hid (w4.heap[w.heap.size]? = some (.cells (repL (n + m)).toArray 3 (0, 0))) := by
        have := HG4.out
        rw [repL_splice n m] at this
        exact this
      clear HG4 HG2 HC2 HB2 HF HO HN hB4
      go_simp
      go_wp2
      go_roundw
      case rel => exact ⟨n + m, by omega, by omega, by go_num, HG5.out, hB5⟩
      case measure => simp [intOf]; omega
    · obtain rfl : n = 26 := by omega
      have HE : Hid (wr.heap[w.heap.size]? = some (.cells (vsInt (List.replicate 26 (-1))).toArray 3 (0, 0))) := by
        show _ = _
        rw [hg]; simp [repL]
      clear hg
      go_wp2
      go_ret
      exact ⟨rfl, HE.out, hB⟩

end Go.Proofs.Ytdicjbabnknjhaa
