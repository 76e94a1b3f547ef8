/-
  Contracts of impl.GetText and spec.GetText.
-/
import Derived.Test.YtdicjbabnknjhaaGet2
import Derived.Test.YtdicjbabnknjhaaPutText
namespace Go.Proofs.Ytdicjbabnknjhaa
open Go.RowKit

theorem getF_bd {zs : List Int} {f j : Nat} {u n m : Int} {q : Nat} (hb : IsBytes zs) (hu : 0 ≤ u) (hn : 0 ≤ n) (h : getF zs f j u n = some (m, q)) : 0 ≤ m ∧ m ≤ 1000000000 ∧ q ≤ zs.length ∧ 1 ≤ q := by
  induction f generalizing j u n with
  | zero => simp [getF] at h
  | succ f ih =>
    unfold getF at h
    have hz := hb.at j
    have hmul : 0 ≤ zs[j]?.getD 0 % 128 * u := Int.mul_nonneg (by omega) hu
    by_cases hj : j < zs.length
    · rw [if_pos hj] at h
      by_cases h1 : 128 ≤ zs[j]?.getD 0
      · rw [if_pos h1] at h
        exact ih (by omega) (by omega) h
      · rw [if_neg h1] at h
        by_cases h2 : 1000000000 < n + zs[j]?.getD 0 % 128 * u ∨ zs[j]?.getD 0 = 0 ∧ 1 < u
        · rw [if_pos h2] at h; simp at h
        · rw [if_neg h2] at h
          simp only [Option.some.injEq, Prod.mk.injEq] at h
          obtain ⟨rfl, rfl⟩ := h
          omega
    · rw [if_neg hj] at h; simp at h
theorem getN_bd {zs : List Int} {i m : Int} {q : Nat} (hb : IsBytes zs) (h : getN zs i = some (m, q)) : 0 ≤ m ∧ m ≤ 1000000000 ∧ q ≤ zs.length ∧ 1 ≤ q := by
  unfold getN at h
  by_cases h0 : 0 ≤ i
  · rw [if_pos h0] at h; exact getF_bd hb (by omega) (by omega) h
  · rw [if_neg h0] at h; simp at h

/-- What GetText tells: the text's bytes and the place behind it. -/
def getT (zs : List Int) (i : Int) : Option (List Int × Nat) :=
  match getN zs i with
  | none => none
  | some (n, j) => if 400 < n ∨ (zs.length : Int) - j < n then none else some ((zs.drop j).take n.toNat, j + n.toNat)
/-- The text that is cut out of bytes, wherever the cut lies. -/
theorem conv_cut {w : World} {b off j N c : Nat} {zs : List Int} (hb : IsBytes zs) (hc : ∀ i, i < zs.length → w.cell? ⟨b, off + i, none⟩ = some (.int .u8 (zs.getD i 0))) (h : j + N ≤ zs.length) :
    (convert 54 9 (.slice (some ⟨b, off + j, none⟩) N c)).run Try.prog w = .ok (.string (strOf ((zs.drop j).take N))) w := by
  have hl : ((zs.drop j).take N).length = N := by simp; omega
  have hb' : IsBytes ((zs.drop j).take N) := fun z hz => hb z (List.mem_of_mem_drop (List.mem_of_mem_take hz))
  have := conv_bytes (w := w) (b := b) (o := off + j) (c := c) hb' (by
    intro i hi
    rw [hl] at hi
    rw [Nat.add_assoc, hc (j + i) (by omega)]
    simp [hi, show j + i < zs.length by omega])
  rw [hl] at this
  exact this
theorem conv_none {w : World} {b o c : Nat} : (convert 54 9 (.slice (some ⟨b, o, none⟩) 0 c)).run Try.prog w = .ok (.string (strOf [])) w :=
  conv_bytes (ys := []) (fun z hz => by simp at hz) (fun i hi => by simp at hi)

set_option maxRecDepth 100000 in
set_option maxHeartbeats 1600000 in
theorem specGetText_any (a : Option Addr) (zs : List Int) (cap : Nat) (i : Int) (w : World) (hr : Rd w a (u8s zs)) (hb : IsBytes zs) (hm : zs.length ≤ 1048576) (hcap : zs.length ≤ cap) (hi : i ≤ 9223372036854775807) :
    Calls Try.prog 36 #[.slice a zs.length cap, .int .i64 i] w fun e w' => (getT zs i = none → e = .returned (.tuple #[.string ByteArray.empty, .int .i64 0, .bool false])) ∧ (∀ ys j, getT zs i = some (ys, j) → e = .returned (.tuple #[.string (strOf ys), .int .i64 (j : Nat), .bool true])) ∧ w' = w := by
  go_enter Try.func36, Try.ntmps36
  go_wp2_with fail
  refine (specGetNum_any a zs cap i _ hr hb hm hi).mono ?_
  rintro e w1 ⟨hno, hyes, rfl⟩
  cases hg : getN zs i with
  | none =>
    obtain rfl := hno hg
    have ht : Hid (getT zs i = none) := by show _ = _; unfold getT; rw [hg]
    clear hno hyes hg hr
    go_wp2
    go_ret3
    exact ⟨fun _ => rfl, fun ys j h => absurd h (by rw [ht.out]; simp), rfl⟩
  | some r =>
    obtain ⟨n, j⟩ := r
    obtain rfl := hyes n j hg
    have hbd := getN_bd hb hg
    obtain ⟨N, rfl⟩ : ∃ N : Nat, n = N := ⟨n.toNat, by omega⟩
    have hj1 : 1 ≤ j := hbd.2.2.2
    have hj2 : j ≤ zs.length := hbd.2.2.1
    clear hbd
    obtain ⟨b, off, rfl, hc⟩ := rd_u8 (k := 0) hr (by omega)
    clear hr
    by_cases h4 : (400 : Int) < (N : Int)
    · have ht : Hid (getT zs i = none) := by show _ = _; unfold getT; rw [hg]; simp only []; rw [if_pos (Or.inl h4)]
      clear hno hyes hg hc
      go_wp2
      go_ret3
      exact ⟨fun _ => rfl, fun ys j h => absurd h (by rw [ht.out]; simp), rfl⟩
    by_cases h5 : (zs.length : Int) - j < N
    · have ht : Hid (getT zs i = none) := by show _ = _; unfold getT; rw [hg]; simp only []; rw [if_pos (Or.inr h5)]
      clear hno hyes hg hc
      go_wp2
      go_ret3
      exact ⟨fun _ => rfl, fun ys j h => absurd h (by rw [ht.out]; simp), rfl⟩
    have ht : Hid (getT zs i = some ((zs.drop j).take N, j + N)) := by show _ = _; unfold getT; rw [hg]; simp only []; rw [if_neg (by omega)]; simp
    have fin : (getT zs i = none → Ending.returned (.tuple #[.string (strOf ((zs.drop j).take N)), .int .i64 ((j : Int) + N), .bool true]) = .returned (.tuple #[.string ByteArray.empty, .int .i64 0, .bool false])) ∧ (∀ ys (q : Nat), getT zs i = some (ys, q) → Ending.returned (.tuple #[.string (strOf ((zs.drop j).take N)), .int .i64 ((j : Int) + N), .bool true]) = .returned (.tuple #[.string (strOf ys), .int .i64 (q : Nat), .bool true])) := by
      refine ⟨fun h => absurd h (by rw [ht.out]; simp), fun ys q h => ?_⟩
      rw [ht.out] at h
      simp only [Option.some.injEq, Prod.mk.injEq] at h
      obtain ⟨rfl, rfl⟩ := h
      push_cast
      rfl
    have HF : Hid _ := fin
    clear fin hno hyes hg
    by_cases hcj : cap = j
    · have hN : N = 0 := by omega
      subst hN
      have hcv := @conv_none w1 b off 0
      clear hc
      go_wp2
      go_ret3
      exact ⟨by simpa using HF.out.1, by simpa using HF.out.2, rfl⟩
    · have hcv := conv_cut (c := cap - j) (j := j) (N := N) hb hc (by omega)
      clear hc
      go_wp2
      go_ret3
      exact ⟨HF.out.1, HF.out.2, rfl⟩

/-- How taking a text ends. -/
def TookT (pb : Nat) (r : Option (List Int × Nat)) (e : Ending) (w' : World) : Prop :=
  match r with
  | none => ∃ s, e = .panicked [{ v := .iface 9 (.string s), recovered := false }]
  | some (ys, j) => e = .returned (.string (strOf ys)) ∧ w'.cell? ⟨pb, 0, none⟩ = some (.int .i64 j) ∧ w'.frozen? ⟨pb, 0, none⟩ = false
theorem tookT_no {pb : Nat} {r : Option (List Int × Nat)} {e : Ending} {w' : World} {s : ByteArray} (h : r = none) (he : e = .panicked [{ v := .iface 9 (.string s), recovered := false }]) : TookT pb r e w' := by subst h; exact ⟨s, he⟩
theorem tookT_yes {pb : Nat} {r : Option (List Int × Nat)} {e : Ending} {w' : World} {ys : List Int} {j : Nat} (h : r = some (ys, j)) (he : e = .returned (.string (strOf ys))) (hc : w'.cell? ⟨pb, 0, none⟩ = some (.int .i64 j)) (hf : w'.frozen? ⟨pb, 0, none⟩ = false) : TookT pb r e w' := by subst h; exact ⟨he, hc, hf⟩

set_option maxRecDepth 100000 in
set_option maxHeartbeats 1600000 in
theorem takeText_grown (a : Option Addr) (zs : List Int) (cap pb : Nat) (i0 : Int) (w : World) (hr : ∀ w', Below pb w w' → Rd w' a (u8s zs)) (hb : IsBytes zs) (hm : zs.length ≤ 1048576) (hcap : zs.length ≤ cap) (hp : w.cell? ⟨pb, 0, none⟩ = some (.int .i64 i0)) (hf : w.frozen? ⟨pb, 0, none⟩ = false) :
    Calls Try.prog 67 #[.slice a zs.length cap, .pointer (some ⟨pb, 0, none⟩)] w fun e w' => w.grownBy w' (some pb) ∧ TookT pb (getT zs i0) e w' := by
  have hpb : pb ≤ w.heap.size := Nat.le_of_lt (lt_of_cell hp)
  go_enter Try.func67, Try.ntmps67
  go_wp2_with fail
  refine (takeNum_grown a zs cap pb i0 _ hr hb hm hp hf).mono ?_
  rintro e w1 ⟨hb1, ht⟩
  cases hg : getN zs i0 with
  | none =>
    rw [hg] at ht
    obtain ⟨s, rfl⟩ := ht
    have hT : Hid (getT zs i0 = none) := by show _ = _; unfold getT; rw [hg]
    clear hg hr hp hf
    go_wp2
    exact ⟨rfl, hb1, tookT_no hT.out rfl⟩
  | some r =>
    obtain ⟨n, j⟩ := r
    rw [hg] at ht
    obtain ⟨rfl, c4, g4⟩ := ht
    have hbd := getN_bd hb hg
    obtain ⟨N, rfl⟩ : ∃ N : Nat, n = N := ⟨n.toNat, by omega⟩
    have hj1 : 1 ≤ j := hbd.2.2.2
    have hj2 : j ≤ zs.length := hbd.2.2.1
    have hN2 : (N : Int) ≤ 1000000000 := hbd.2.1
    clear hbd hp hf
    have hr2 : Rd (w1.setCell ⟨pb, 0, none⟩ (.int .i64 ((j : Int) + N))) a (u8s zs) := hr _ (belowGrown (grownSet hb1 _ _) hpb)
    obtain ⟨b, off, rfl, hc⟩ := rd_u8 (k := 0) hr2 (by omega)
    clear hr hr2
    by_cases h4 : (400 : Int) < (N : Int)
    · have hT : Hid (getT zs i0 = none) := by show _ = _; unfold getT; rw [hg]; simp only []; rw [if_pos (Or.inl h4)]
      clear hg hc
      go_wp2
      exact ⟨rfl, hb1, tookT_no hT.out rfl⟩
    by_cases h5 : (zs.length : Int) - j < N
    · have hT : Hid (getT zs i0 = none) := by show _ = _; unfold getT; rw [hg]; simp only []; rw [if_pos (Or.inr h5)]
      clear hg hc
      go_wp2
      exact ⟨rfl, hb1, tookT_no hT.out rfl⟩
    have hT : Hid (getT zs i0 = some ((zs.drop j).take N, j + N)) := by show _ = _; unfold getT; rw [hg]; simp only []; rw [if_neg (by omega)]; simp
    have hend : Hid ((w1.setCell ⟨pb, 0, none⟩ (.int .i64 ((j : Int) + N))).cell? ⟨pb, 0, none⟩ = some (.int .i64 ((j + N : Nat) : Int)) ∧ (w1.setCell ⟨pb, 0, none⟩ (.int .i64 ((j : Int) + N))).frozen? ⟨pb, 0, none⟩ = false ∧ w.grownBy (w1.setCell ⟨pb, 0, none⟩ (.int .i64 ((j : Int) + N))) (some pb)) := by
      refine ⟨?_, ?_, grownSet hb1 _ _⟩
      · rw [World.cell?_setCell_same w1 _ _ c4]; simp
      · simp [g4]
    clear hg
    by_cases hcj : cap = j
    · have hN : N = 0 := by omega
      subst hN
      have hcv := fun w => @conv_none w b off 0
      clear hc
      go_wp2
      go_ret
      exact ⟨by simpa using hend.out.2.2, tookT_yes hT.out (by simp) (by simpa using hend.out.1) (by simpa using hend.out.2.1)⟩
    · have hcv := conv_cut (c := cap - j) (j := j) (N := N) hb hc (by omega)
      clear hc
      go_wp2
      go_ret
      exact ⟨hend.out.2.2, tookT_yes hT.out rfl hend.out.1 hend.out.2.1⟩

theorem takeText_any (a : Option Addr) (zs : List Int) (cap pb : Nat) (i0 : Int) (w : World) (hr : ∀ w', Below pb w w' → Rd w' a (u8s zs)) (hb : IsBytes zs) (hm : zs.length ≤ 1048576) (hcap : zs.length ≤ cap) (hp : w.cell? ⟨pb, 0, none⟩ = some (.int .i64 i0)) (hf : w.frozen? ⟨pb, 0, none⟩ = false) :
    Calls Try.prog 67 #[.slice a zs.length cap, .pointer (some ⟨pb, 0, none⟩)] w fun e w' => Below pb w w' ∧ TookT pb (getT zs i0) e w' :=
  (takeText_grown a zs cap pb i0 w hr hb hm hcap hp hf).mono fun _ _ h => ⟨belowGrown h.1 (Nat.le_of_lt (lt_of_cell hp)), h.2⟩

end Go.Proofs.Ytdicjbabnknjhaa
