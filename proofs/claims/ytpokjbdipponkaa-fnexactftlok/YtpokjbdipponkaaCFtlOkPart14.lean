/-
  Contract of the program's chipCopy: a chip that is right, in rows of the call's own.
  Contracts of what the program takes of the library over []int and []string: slices.Equal, Index, Contains; cmp.Compare; and of its own allClear, placeIn.
  Contract of the program's ChipOk.
-/
import Derived.Test.YtpokjbdipponkaaCFtlOkPart13
import Derived.Test.YtpokjbdipponkaaCFtlOkPart2
import Derived.Test.YtpokjbdipponkaaCFtlOkPart3
namespace Go.Proofs.Ytpokjbdipponkaa
open Go.RowKit

set_option maxHeartbeats 3200000 in
theorem chipCopy_any (a b : Option Addr) (ps : List ByteArray) (ws : List Int) (c d : Nat) (w : World) (hp : Rd w a (vsString ps)) (hw : Rd w b (vsInt ws)) (hl : ps.length = 60) (hm : ws.length = 10) :
    Calls Try.prog 46 #[.agg #[.slice a ps.length c, .slice b ws.length d]] w fun e w' => ∃ v, e = .returned v ∧ ChipOwn w' w.heap.size v ps ws ∧ Below w.heap.size w w' := by
  obtain ⟨b1, o1, rfl, -⟩ := rd_at (k := 0) hp (by simp; omega)
  obtain ⟨b2, o2, rfl, -⟩ := rd_at (k := 0) hw (by simp; omega)
  obtain ⟨A, hA⟩ : ∃ A, A = w.alloc (Obj.cells #[.slice (some ⟨b1, o1, none⟩) ps.length c, .slice (some ⟨b2, o2, none⟩) ws.length d] 27) := ⟨_, rfl⟩
  obtain ⟨W, hW⟩ : ∃ W, W = A.alloc (Obj.cells #[.slice none 0 0, .slice none 0 0] 27) := ⟨_, rfl⟩
  have hsA : A.heap.size = w.heap.size + 1 := by rw [hA]; simp
  have hbA : Below w.heap.size w A := by rw [hA]; exact (Below.refl _ _).alloc (Nat.le_refl _) _
  have hbAW : Below A.heap.size A W := by rw [hW]; exact (Below.refl _ _).alloc (Nat.le_refl _) _
  have hbW : Below w.heap.size w W := after hbA hbAW
  have x0 : W.cell? ⟨w.heap.size, 0, none⟩ = some (.slice (some ⟨b1, o1, none⟩) ps.length c) := by
    have h : A.cell? ⟨w.heap.size, 0, none⟩ = some (.slice (some ⟨b1, o1, none⟩) ps.length c) := by rw [hA]; simp
    exact (hbAW.cell (p := ⟨w.heap.size, 0, none⟩) (lt_of_cell h)).trans h
  have x1 : W.cell? ⟨w.heap.size, 1, none⟩ = some (.slice (some ⟨b2, o2, none⟩) ws.length d) := by
    have h : A.cell? ⟨w.heap.size, 1, none⟩ = some (.slice (some ⟨b2, o2, none⟩) ws.length d) := by rw [hA]; simp
    exact (hbAW.cell (p := ⟨w.heap.size, 1, none⟩) (lt_of_cell h)).trans h
  have c0 : W.cell? ⟨w.heap.size + 1, 0, none⟩ = some (.slice none 0 0) := by rw [hW, ← hsA]; simp
  have c1 : W.cell? ⟨w.heap.size + 1, 1, none⟩ = some (.slice none 0 0) := by rw [hW, ← hsA]; simp
  have f0 : W.frozen? ⟨w.heap.size + 1, 0, none⟩ = false := by rw [hW, ← hsA]; simp
  have f1 : W.frozen? ⟨w.heap.size + 1, 1, none⟩ = false := by rw [hW, ← hsA]; simp
  have hsW : w.heap.size + 1 < W.heap.size := lt_of_cell c0
  have hdr : Below W.heap.size W W.drew := after_drew (Below.refl _ _) 1
  have HP := hide ((hp.below hbW).below hdr)
  have HQ := hide ((hw.below hbW).below hdr)
  have HL := hide (And.intro hl hm)
  have hl0 : 0 < ps.length := by omega
  have hm0 : 0 < ws.length := by omega
  have HBW : Hid (Below w.heap.size w W.drew) := after hbW hdr
  have HC : Hid (∀ u, Below W.drew.heap.size W.drew u → u.cell? ⟨w.heap.size, 1, none⟩ = some (.slice (some ⟨b2, o2, none⟩) ws.length d) ∧ (u.cell? ⟨w.heap.size + 1, 0, none⟩ = some (.slice none 0 0) ∧ u.cell? ⟨w.heap.size + 1, 1, none⟩ = some (.slice none 0 0)) ∧ u.frozen? ⟨w.heap.size + 1, 0, none⟩ = false ∧ u.frozen? ⟨w.heap.size + 1, 1, none⟩ = false) := fun u hu =>
    ⟨(hu.cell (p := ⟨w.heap.size, 1, none⟩) (by show w.heap.size < W.heap.size; omega)).trans (by simpa using x1), ⟨(hu.cell (p := ⟨w.heap.size + 1, 0, none⟩) hsW).trans (by simpa using c0), (hu.cell (p := ⟨w.heap.size + 1, 1, none⟩) hsW).trans (by simpa using c1)⟩, (hu.frozen (p := ⟨w.heap.size + 1, 0, none⟩) hsW).trans (by simpa using f0), (hu.frozen (p := ⟨w.heap.size + 1, 1, none⟩) hsW).trans (by simpa using f1)⟩
  clear hp hw hbA hbAW hbW c0 c1 f0 f1 hl hm hdr hsA
  go_enter Try.func46, Try.ntmps46
  go_wp2_with fail
  rw [← hA]
  rw [← hW]
  clear hA hW
  go_region_with (first
    | (go_at_call 70; refine (cloneString_any b1 o1 c ps _ HP.out (by have := HL.out.1; omega)).mono ?_; rintro e w1 ⟨v1, rfl, ho1, hb1⟩; obtain ⟨g1, k1, hv1, hg1, hg1'⟩ := owns_form ho1 hl0; subst hv1; have HO1 := hide ho1; have HQ1 := hide (HQ.out.below hb1); have HBW1 := hide hb1; have y1 := (HC.out w1 hb1).1; clear ho1 hb1)
    | (go_at_call 71; refine (cloneInt_any b2 o2 d ws _ HQ1.out (by have := HL.out.2; omega)).mono ?_; rintro e w2 ⟨v2, rfl, ho2, hb2⟩; obtain ⟨g2, k2, hv2, hg2, hg2'⟩ := owns_form ho2 hm0; subst hv2; have HO2 := hide ho2; have HO1' := hide (owns_below HO1.out hb2); have HBW2 : Hid (Below W.drew.heap.size W.drew w2) := after HBW1.out hb2; obtain ⟨-, ⟨c0, c1⟩, f0, f1⟩ := HC.out w2 HBW2.out; clear ho2 hb2))
  all_goals go_wp2
  all_goals
    have HW2 : Hid (Below w.heap.size w w2) := HBW.out.trans (HBW2.out.mono HBW.out.size)
    refine bodyPost_ret (v := .agg #[.slice (some ⟨g1, 0, none⟩) ps.length k1, .slice (some ⟨g2, 0, none⟩) ws.length k2]) (by simp [results, Try.results46, go_sem, c0, c1]) rfl ⟨_, rfl, ⟨_, _, rfl, ?_, ?_, ?_⟩, (HW2.out.setCell (by show _ ≤ _; simp) _).setCell (by show _ ≤ _; simp) _⟩
    · exact owns_mono (ownsRow_setCell_below (ownsRow_setCell_below HO1'.out (show w.heap.size + 1 < W.drew.heap.size from hsW) _) (show w.heap.size + 1 < W.drew.heap.size from hsW) _) (show w.heap.size ≤ W.drew.heap.size from by show _ ≤ W.heap.size; omega)
    · exact owns_mono (ownsRow_setCell_below (ownsRow_setCell_below HO2.out (show w.heap.size + 1 < w1.heap.size by have := HBW1.out.size; simp at this; omega) _) (show w.heap.size + 1 < w1.heap.size by have := HBW1.out.size; simp at this; omega) _) (show w.heap.size ≤ w1.heap.size by have := HBW1.out.size; simp at this; omega)
    · intro k hk
      simp [Value.ownBlock] at hk ⊢
      omega

end Go.Proofs.Ytpokjbdipponkaa

namespace Go.Proofs.Ytpokjbdipponkaa
open Go.RowKit

set_option maxHeartbeats 400000 in
theorem equalInt_any (a b : Option Addr) (xs ys : List Int) (c d : Nat) (w : World) (hr : Rd w a (vsInt xs)) (hs : Rd w b (vsInt ys)) (hm : xs.length ≤ 1048576) (_hn : ys.length ≤ 1048576) :
    Calls Try.prog 51 #[.slice a xs.length c, .slice b ys.length d] w fun e w' => e = .returned (.bool (decide (xs = ys))) ∧ ∃ n, w' = w.drewN n := by
  by_cases hl : xs.length = ys.length
  · have hl' : ((xs.length : Int) != (ys.length : Int)) = false := by simp [hl]
    have HL : Hid (xs.length = ys.length) := hl
    clear hl
    go_enter Try.func51, Try.ntmps51
    go_wp2
    go_loopw [13] (fun i wr => ∃ k : Nat, k ≤ xs.length ∧ i = .int .i64 k ∧ xs.take k = ys.take k ∧ ∃ n, wr = w.drewN n) (fun i _ => xs.length - (intOf i).toNat)
    case atStart => exact ⟨0, Nat.zero_le _, rfl, by simp, 0, rfl⟩
    case round =>
      obtain ⟨k, hk, rfl, htk, n, rfl⟩ := hrel
      by_cases hlt : k < xs.length
      · have hlt' : k < ys.length := by have := HL.out; omega
        obtain ⟨ba, oa, z, rfl, hck, HZ⟩ := rdInt_at hr hlt
        obtain ⟨bb, ob, y, rfl, hcy, HY⟩ := rdInt_at hs hlt'
        have HT : Hid (xs.take k = ys.take k) := htk
        clear hr hs htk hl'
        by_cases hzy : z = y
        · subst hzy
          have HE : Hid (xs.take (k + 1) = ys.take (k + 1)) := takeInt_step HT.out HZ.out HY.out
          go_wp2
          go_quiet (fail)
          go_wp2
          go_roundw
          case rel => exact ⟨k + 1, by omega, by go_num, HE.out, _, rfl⟩
          case measure => simp [intOf]; omega
        · have HE : Hid (xs ≠ ys) := neInt_at HZ.out HY.out hzy
          have ht : (z != y) = true := by simpa using hzy
          clear hzy
          go_wp2
          go_quiet (fail)
          go_wp2
          go_ret
          exact ⟨ret_bool (by simp [HE.out]), _, World.drewN_drewN _ _ _⟩
      · have HE : Hid (xs = ys) := by
          have := HL.out
          rw [List.take_of_length_le (by omega), List.take_of_length_le (by omega)] at htk; exact htk
        clear htk hl'
        go_wp2
        go_ret
        exact ⟨ret_bool (by simp [HE.out]), _, rfl⟩
  · have hl' : ((xs.length : Int) != (ys.length : Int)) = true := by simp; omega
    have HE : Hid (xs ≠ ys) := fun e => hl (by rw [e])
    clear hl
    go_enter Try.func51, Try.ntmps51
    go_wp2
    go_ret
    exact ⟨ret_bool (by simp [HE.out]), 0, rfl⟩

theorem notin_step {α : Type} {xs : List α} {k : Nat} {x y : α} (h : x ∉ xs.take k) (hy : xs[k]? = some y) (hne : ¬ x = y) : x ∉ xs.take (k + 1) := by
  rw [List.take_add_one, hy]
  simp only [Option.toList_some, List.mem_append, List.mem_singleton]
  rintro (h' | h')
  · exact h h'
  · exact hne h'

/-- Where x is first, or -1. -/
def FirstAt {α : Type} (xs : List α) (x : α) (r : Int) : Prop := (r = -1 ∧ x ∉ xs) ∨ ∃ i : Nat, r = i ∧ xs[i]? = some x ∧ x ∉ xs.take i

set_option maxHeartbeats 400000 in
theorem indexInt_any (a : Option Addr) (xs : List Int) (c : Nat) (x : Int) (w : World) (hr : Rd w a (vsInt xs)) (hm : xs.length ≤ 1048576) :
    Calls Try.prog 77 #[.slice a xs.length c, .int .i64 x] w fun e w' => (∃ r : Int, e = .returned (.int .i64 r) ∧ FirstAt xs x r) ∧ w' = w := by
  go_enter Try.func77, Try.ntmps77
  go_wp2
  go_loop [8] (fun i => ∃ k : Nat, k ≤ xs.length ∧ i = .int .i64 k ∧ Hid (x ∉ xs.take k)) (fun i => xs.length - (intOf i).toNat)
  case atStart => exact ⟨0, Nat.zero_le _, rfl, (show _ ∉ _ by simp)⟩
  case round =>
    obtain ⟨k, hk, rfl, HN⟩ := hrel
    by_cases hlt : k < xs.length
    · obtain ⟨ba, oa, z, rfl, hck, HZ⟩ := rdInt_at hr hlt
      clear hr
      by_cases hzy : x = z
      · subst hzy
        go_wp2
        go_ret
        exact ⟨⟨_, rfl, .inr ⟨k, rfl, HZ.out, HN.out⟩⟩, rfl⟩
      · have HE : Hid (x ∉ xs.take (k + 1)) := notin_step HN.out HZ.out hzy
        have ht : (x == z) = false := by simpa using hzy
        clear hzy
        go_wp2
        go_round
        case rel => exact ⟨k + 1, by omega, by go_num, HE⟩
        case measure => simp [intOf]; omega
    · have HE : Hid (x ∉ xs) := by
        have := HN.out
        rw [List.take_of_length_le (by omega)] at this
        exact this
      clear hr HN
      go_wp2
      go_ret
      exact ⟨⟨_, rfl, .inl ⟨rfl, HE.out⟩⟩, rfl⟩

theorem FirstAt.mem {α : Type} {xs : List α} {x : α} {r : Int} (h : FirstAt xs x r) : (0 ≤ r ↔ x ∈ xs) ∧ -1 ≤ r ∧ r < max xs.length 1 := by
  rcases h with ⟨rfl, h⟩ | ⟨i, rfl, h, -⟩
  · exact ⟨⟨fun h => by omega, fun h' => absurd h' h⟩, by omega, by omega⟩
  · have : i < xs.length := by
      rcases Nat.lt_or_ge i xs.length with h' | h'
      · exact h'
      · simp [h'] at h
    exact ⟨⟨fun _ => List.mem_of_getElem? h, fun _ => by omega⟩, by omega, by omega⟩

set_option maxHeartbeats 400000 in
theorem containsInt_any (a : Option Addr) (xs : List Int) (c : Nat) (x : Int) (w : World) (hr : Rd w a (vsInt xs)) (hm : xs.length ≤ 1048576) :
    Calls Try.prog 64 #[.slice a xs.length c, .int .i64 x] w fun e w' => e = .returned (.bool (decide (x ∈ xs))) ∧ w' = w := by
  go_enter Try.func64, Try.ntmps64
  go_wp2_with fail
  refine (indexInt_any a xs c x w hr hm).mono ?_
  rintro e u ⟨⟨r, rfl, hf⟩, hu⟩
  have hu' := hu.symm
  subst hu'
  have hb := hf.mem
  have HF := hide hb.1
  have hb1 := hb.2.1
  clear hr hf hb
  go_wp2
  go_ret
  refine ⟨ret_bool ?_, rfl⟩
  by_cases h : x ∈ xs
  · have := HF.out.2 h; simp [h, this]
  · have : ¬ 0 ≤ r := fun h' => h (HF.out.1 h'); simp [h]; omega

set_option maxHeartbeats 400000 in
theorem indexString_any (a : Option Addr) (xs : List ByteArray) (c : Nat) (w : World) (hr : Rd w a (vsString xs)) (hm : xs.length ≤ 1048576) :
    Calls Try.prog 59 #[.slice a xs.length c, .string ⟨#[]⟩] w fun e w' => (∃ r : Int, e = .returned (.int .i64 r) ∧ FirstAt xs ByteArray.empty r) ∧ w' = w := by
  go_enter Try.func59, Try.ntmps59
  go_wp2
  go_loop [8] (fun i => ∃ k : Nat, k ≤ xs.length ∧ i = .int .i64 k ∧ Hid (ByteArray.empty ∉ xs.take k)) (fun i => xs.length - (intOf i).toNat)
  case atStart => exact ⟨0, Nat.zero_le _, rfl, (show _ ∉ _ by simp)⟩
  case round =>
    obtain ⟨k, hk, rfl, HN⟩ := hrel
    by_cases hlt : k < xs.length
    · obtain ⟨ba, oa, z, rfl, hck, HZ⟩ := rdString_at hr hlt
      clear hr
      by_cases hzy : z = ByteArray.empty
      · subst hzy
        go_wp2
        go_ret
        exact ⟨⟨_, rfl, .inr ⟨k, rfl, HZ.out, HN.out⟩⟩, rfl⟩
      · have HE : Hid (ByteArray.empty ∉ xs.take (k + 1)) := notin_step HN.out HZ.out (fun e => hzy e.symm)
        have hxi := isEmpty_str hzy
        clear hzy
        go_wp2
        go_round
        case rel => exact ⟨k + 1, by omega, by go_num, HE⟩
        case measure => simp [intOf]; omega
    · have HE : Hid (ByteArray.empty ∉ xs) := by
        have := HN.out
        rw [List.take_of_length_le (by omega)] at this
        exact this
      clear hr HN
      go_wp2
      go_ret
      exact ⟨⟨_, rfl, .inl ⟨rfl, HE.out⟩⟩, rfl⟩

/-- All of them are clear. -/
def AllClr (xs : List ByteArray) : Prop := ∀ x ∈ xs, x = ByteArray.empty
open Classical in
noncomputable def allClrB (xs : List ByteArray) : Bool := decide (AllClr xs)
theorem allClrB_true {xs : List ByteArray} (h : AllClr xs) : allClrB xs = true := by simp [allClrB, h]
theorem allClrB_false {xs : List ByteArray} (h : ¬ AllClr xs) : allClrB xs = false := by simp [allClrB, h]

set_option maxHeartbeats 400000 in
theorem allClear_any (a : Option Addr) (xs : List ByteArray) (c : Nat) (w : World) (hr : Rd w a (vsString xs)) (hm : xs.length ≤ 1048576) :
    Calls Try.prog 57 #[.slice a xs.length c] w fun e w' => e = .returned (.bool (allClrB xs)) ∧ w' = w := by
  go_enter Try.func57, Try.ntmps57
  go_wp2
  go_loop [7] (fun i => ∃ k : Nat, k ≤ xs.length ∧ i = .int .i64 k ∧ Hid (AllClr (xs.take k))) (fun i => xs.length - (intOf i).toNat)
  case atStart => exact ⟨0, Nat.zero_le _, rfl, (show AllClr _ by simp [AllClr])⟩
  case round =>
    obtain ⟨k, hk, rfl, HN⟩ := hrel
    by_cases hlt : k < xs.length
    · obtain ⟨ba, oa, z, rfl, hck, HZ⟩ := rdString_at hr hlt
      clear hr
      by_cases hzy : z = ByteArray.empty
      · have HE : Hid (AllClr (xs.take (k + 1))) := by
          show AllClr _
          intro x hx
          rw [List.take_add_one, HZ.out] at hx
          simp only [Option.toList_some, List.mem_append, List.mem_singleton] at hx
          rcases hx with hx | hx
          · exact HN.out x hx
          · rw [hx, hzy]
        subst hzy
        go_wp2
        go_round
        case rel => exact ⟨k + 1, by omega, by go_num, HE⟩
        case measure => simp [intOf]; omega
      · have HE : Hid (¬ AllClr xs) := fun h => hzy (h z (List.mem_of_getElem? HZ.out))
        have hxi := isEmpty_str hzy
        clear hzy HN
        go_wp2
        go_ret
        exact ⟨ret_bool (by first | rw [allClrB_true HE.out] | rw [allClrB_false HE.out]), rfl⟩
    · have HE : Hid (AllClr xs) := by
        have := HN.out
        rw [List.take_of_length_le (by omega)] at this
        exact this
      clear hr HN
      go_wp2
      go_ret
      exact ⟨ret_bool (by first | rw [allClrB_true HE.out] | rw [allClrB_false HE.out]), rfl⟩

set_option maxHeartbeats 400000 in
theorem placeIn_any (a : Option Addr) (n c : Nat) (w : World) : Calls Try.prog 45 #[.slice a n c] w fun e w' => e = .returned (.func (.func 69) #[] #[.pointer (some ⟨w.heap.size, 0, none⟩)]) ∧ w' = w.alloc (.cells #[.slice a n c] 23) := by
  have hmf : ∀ (fn : Fn) (first cap : Array Value) (w : World), (Instr.makeFunc fn first cap).run Try.prog w = .ok (.func fn first cap) w := fun _ _ _ _ => rfl
  go_enter Try.func45, Try.ntmps45
  go_wp2
  go_ret
  exact ⟨rfl, rfl⟩

set_option maxHeartbeats 400000 in
theorem place_in (p : Nat) (a : Option Addr) (xs : List Int) (c k : Nat) (z : Int) (w : World) (hc : w.cell? ⟨p, 0, none⟩ = some (.slice a xs.length c)) (hr : Rd w a (vsInt xs)) (_hm : xs.length ≤ 1048576) (hz : xs[k]? = some z) :
    Calls Try.prog 69 #[.int .i64 k, .pointer (some ⟨p, 0, none⟩)] w fun e w' => e = .returned (.int .i64 z) ∧ w' = w := by
  have hk : k < xs.length := by
    rcases Nat.lt_or_ge k xs.length with h' | h'
    · exact h'
    · simp [h'] at hz
  obtain ⟨ba, oa, y, rfl, hck, HZ⟩ := rdInt_at hr hk
  obtain rfl : y = z := by have := HZ.out; rw [hz] at this; simpa using this.symm
  clear hr hz
  go_enter Try.func69, Try.ntmps69
  go_wp2
  go_ret
  exact ⟨rfl, rfl⟩

set_option maxHeartbeats 400000 in
theorem place_out (p : Nat) (a : Option Addr) (xs : List Int) (c : Nat) (s : Int) (w : World) (hc : w.cell? ⟨p, 0, none⟩ = some (.slice a xs.length c)) (_hm : xs.length ≤ 1048576) (hs : s < 0 ∨ (xs.length : Int) ≤ s) :
    Calls Try.prog 69 #[.int .i64 s, .pointer (some ⟨p, 0, none⟩)] w fun e w' => e = .returned (.int .i64 (-1)) ∧ w' = w := by
  by_cases h0 : s < 0
  · clear hs
    go_enter Try.func69, Try.ntmps69
    go_wp2
    go_ret
    exact ⟨rfl, rfl⟩
  · have h1 : (xs.length : Int) ≤ s := by omega
    clear hs
    go_enter Try.func69, Try.ntmps69
    go_wp2
    go_ret
    exact ⟨rfl, rfl⟩

end Go.Proofs.Ytpokjbdipponkaa

namespace Go.Proofs.Ytpokjbdipponkaa
open Go.RowKit
attribute [local go_sem ↓] Go.wp_at_zero Go.wp_at_succ

set_option maxHeartbeats 1600000 in
theorem implChipOk_any (a b : Option Addr) (ps : List ByteArray) (ws : List Int) (c d : Nat) (w : World) (hp : Rd w a (vsString ps)) (hw : Rd w b (vsInt ws)) (hl : ps.length ≤ 1048576) (hm : ws.length ≤ 1048576) (hs : ∀ s ∈ ps, s.size ≤ 1048576) :
    Calls Try.prog 42 #[.agg #[.slice a ps.length c, .slice b ws.length d]] w fun e w' => e = .returned (.bool (chipOkB ps ws)) ∧ Below w.heap.size w w' := by
  obtain ⟨X, hX⟩ : ∃ X, X = Obj.cells #[.slice a ps.length c, .slice b ws.length d] 27 := ⟨_, rfl⟩
  have hbW : Below w.heap.size w (w.alloc X) := (Below.refl _ _).alloc (Nat.le_refl _) _
  have hp' := hp.below hbW
  have hw' := hw.below hbW
  clear hp hw
  subst hX
  by_cases hn : ps.length = 60 ∧ ws.length = 10
  · have t1 : ((ps.length : Int) != 60) = false := by simp; omega
    have t2 : ((ws.length : Int) != 10) = false := by simp; omega
    have hn1 : ps.length ≤ 60 := by omega
    have HN : Hid (ps.length = 60 ∧ ws.length = 10) := hn
    clear hn
    go_enter Try.func42, Try.ntmps42
    go_wp2
    go_loop [20] (fun i => ∃ k : Nat, k ≤ ps.length ∧ i = .int .i64 k ∧ Hid (∀ s ∈ ps.take k, s.size ≤ 800)) (fun i => ps.length - (intOf i).toNat)
    case atStart => exact ⟨0, Nat.zero_le _, rfl, by show ∀ _, _; simp⟩
    case round =>
      obtain ⟨k, hk, rfl, hall⟩ := hrel
      by_cases hlt : k < ps.length
      · obtain ⟨b1, o1, x, rfl, hck, HX⟩ := rdString_at hp' hlt
        have hx := hs x (List.mem_of_getElem? HX.out)
        clear hp' hw'
        by_cases hbig : (800 : Int) < (x.size : Int)
        · have hf : Hid (chipOkB ps ws = false) := chipOkB_false (fun h => by have := h.2.2.1 x (List.mem_of_getElem? HX.out); omega)
          clear hs
          go_wp2
          go_ret
          exact ⟨ret_bool hf.out.symm, hbW⟩
        · have hall' : Hid (∀ s ∈ ps.take (k + 1), s.size ≤ 800) := by
            show ∀ _, _
            intro s hs'
            rw [List.take_add_one, HX.out] at hs'
            simp only [Option.toList_some, List.mem_append, List.mem_singleton] at hs'
            rcases hs' with h | rfl
            · exact hall.out s h
            · omega
          clear hs
          go_wp2
          go_round
          case rel => exact ⟨k + 1, by omega, by go_num, hall'⟩
          case measure => simp [intOf]; omega
      · have hall' : Hid (∀ s ∈ ps, s.size ≤ 800) := by
          have := hall.out
          rw [List.take_of_length_le (by omega)] at this
          exact this
        clear hs hp' hall
        go_wp2
        go_loop [31] (fun i => ∃ k : Nat, k ≤ ws.length ∧ i = .int .i64 k ∧ Hid (∀ x ∈ ws.take k, 0 ≤ x ∧ x ≤ 1000000000)) (fun i => ws.length - (intOf i).toNat)
        case atStart => exact ⟨0, Nat.zero_le _, rfl, by show ∀ _, _; simp⟩
        case round =>
          obtain ⟨j, hj, rfl, hallw⟩ := hrel
          by_cases hlj : j < ws.length
          · obtain ⟨b2, o2, x, rfl, hck, HX⟩ := rdInt_at hw' hlj
            clear hw'
            by_cases hin : 0 ≤ x ∧ x ≤ 1000000000
            · have hallw' : Hid (∀ y ∈ ws.take (j + 1), 0 ≤ y ∧ y ≤ 1000000000) := by
                show ∀ _, _
                intro s hs'
                rw [List.take_add_one, HX.out] at hs'
                simp only [Option.toList_some, List.mem_append, List.mem_singleton] at hs'
                rcases hs' with h | rfl
                · exact hallw.out s h
                · exact hin
              have q1 : ¬ x < 0 := by omega
              have q2 : ¬ 1000000000 < x := by omega
              clear hin
              go_wp2
              go_round
              case rel => exact ⟨j + 1, by omega, by go_num, hallw'⟩
              case measure => simp [intOf]; omega
            · have hf : Hid (chipOkB ps ws = false) := chipOkB_false (fun h => hin (h.2.2.2 x (List.mem_of_getElem? HX.out)))
              by_cases q1 : x < 0
              · clear hin
                go_wp2
                go_ret
                exact ⟨ret_bool hf.out.symm, hbW⟩
              · have q2 : 1000000000 < x := by omega
                clear hin
                go_wp2
                go_ret
                exact ⟨ret_bool hf.out.symm, hbW⟩
          · have ht : Hid (chipOkB ps ws = true) := chipOkB_true ⟨HN.out.1, HN.out.2, hall'.out, by
              have := hallw.out
              rw [List.take_of_length_le (by omega)] at this
              exact this⟩
            clear hw'
            go_wp2
            go_ret
            exact ⟨ret_bool ht.out.symm, hbW⟩
  · have hf : Hid (chipOkB ps ws = false) := chipOkB_false (fun h => hn ⟨h.1, h.2.1⟩)
    clear hp' hw' hs
    by_cases h60 : ps.length = 60
    · have t1 : ((ps.length : Int) != 60) = false := by simp; omega
      have t2 : ((ws.length : Int) != 10) = true := by simp; omega
      clear hn h60
      go_enter Try.func42, Try.ntmps42
      go_wp2
      go_ret
      exact ⟨ret_bool hf.out.symm, hbW⟩
    · have t1 : ((ps.length : Int) != 60) = true := by simp; omega
      clear hn h60
      go_enter Try.func42, Try.ntmps42
      go_wp2
      go_ret
      exact ⟨ret_bool hf.out.symm, hbW⟩

end Go.Proofs.Ytpokjbdipponkaa
