/-
  Contract of the draw of GetText's arguments; of the laws' helpers 'big' and 'at'.
-/
import Derived.Test.YtgalfbcolbgabaaDraw2
namespace Go.Proofs.Ytgalfbcolbgabaa
open Go.RowKit

theorem big_any (a : Option Addr) (n cap : Nat) (w : World) :
    Calls Try.prog 9 #[.slice a n cap] w fun e w' => e = .returned (.bool (decide ((1048576 : Int) < n))) ∧ w' = w := by
  go_enter Try.func9, Try.ntmps9
  go_wp2
  go_ret
  exact ⟨rfl, rfl⟩

theorem at_any (a : Option Addr) (zs : List Int) (cap : Nat) (i : Nat) (w : World) (hr : Rd w a (u8s zs)) (hb : IsBytes zs) (hm : zs.length ≤ 1048576) (hi : i ≤ 1000) :
    Calls Try.prog 14 #[.slice a zs.length cap, .int .i64 i] w fun e w' => (∃ x : Int, e = .returned (.int .i64 x) ∧ 0 ≤ x ∧ x ≤ 255) ∧ w' = w := by
  by_cases h : i < zs.length
  · obtain ⟨b, off, z, rfl, hck, hz, HZ⟩ := rd_u8_at hr hb h
    clear hr
    go_enter Try.func14, Try.ntmps14
    go_wp2
    go_ret
    exact ⟨⟨z, rfl, hz⟩, rfl⟩
  · clear hr
    go_enter Try.func14, Try.ntmps14
    go_wp2
    go_ret
    exact ⟨⟨_, rfl, by omega, by omega⟩, rfl⟩

set_option maxHeartbeats 1600000 in
theorem DrawGetText_any (a : Option Addr) (zs : List Int) (cap : Nat) (w : World) (hr : Rd w a (u8s zs)) (hb : IsBytes zs) (hm : zs.length ≤ 1048576) :
    Calls Try.prog 21 #[.slice a zs.length cap] w fun e w' => ∃ (b : Option Addr) (ys : List Int) (c : Nat) (k : Int), e = .returned (.tuple #[.slice b ys.length c, .int .i64 k]) ∧ IsBytes ys ∧ ys.length ≤ 500 ∧ ys.length ≤ c ∧ Rd w' b (u8s ys) ∧ k ≤ 9223372036854775807 ∧ Below w.heap.size w w' := by
  obtain ⟨i0, hi, hz0, hz1, hz2⟩ := info_parts info5
  go_enter Try.func21, Try.ntmps21
  go_wp2_with fail
  refine (new_any a zs cap _ hr hb hm).mono ?_
  rintro e w1 ⟨rfl, hc, hb1, hs1⟩
  go_wp2_with fail
  refine (drawText_any w.heap.size _ hc hs1).mono ?_
  rintro e w2 ⟨s, rfl, hsz, hc2, hg2⟩
  have hs2 := hg2.size
  have hb2 : Below w.heap.size w w2 := hb1.grown hg2 (by omega) (by simp)
  go_wp2_with fail
  refine (specPutText_any s _ (by unfold maxLen; omega)).mono ?_
  rintro e w3 ⟨v3, rfl, hown3, hb3⟩
  have hs3 := hb3.size
  have hl3 := textB_len s
  have hc3 := hc2.kept (hb3.mono (by omega))
  have hbw3 : Below w.heap.size w w3 := hb2.trans (hb3.mono (by omega))
  go_wp2_with fail
  refine (drawBytes_any w.heap.size _ hc3 (by omega)).mono ?_
  rintro e w4 ⟨v4, ys, rfl, hby, hl, hown4, hc4, hg4⟩
  have hs4 := hg4.size
  have hbw4 : Below w.heap.size w w4 := hbw3.grown hg4 (by omega) (by simp)
  have hown3' := owns_grown hown3 hg4 (by omega)
  clear hown3 hc hc2 hc3 hr hb1 hb2 hb3 hg2 hg4 hbw3
  go_wp2_with (first | (at_builtin; refine wpList_append_two rfl (.tmp 10) (.tmp 12) 22 rfl w2.heap.size w3.heap.size 5 i0 (.int .u8 0) 1 Try.underlying22 hi hz0 hz1 hz2 rfl _ _ _ rfl hown3' _ _ _ rfl hown4 (u8s_one _) (by omega) (by omega) (by omega) ?_; intro v5 w5 hown5 hb5))
  have hs5 := hb5.size
  have hc5 := hc4.kept (hb5.mono (by omega))
  have hbw5 : Below w.heap.size w w5 := hbw4.trans (hb5.mono (by omega))
  have hbt : IsBytes (textB s ++ ys) := by
    intro z hz
    simp only [List.mem_append] at hz
    rcases hz with hz | hz
    · exact textB_bytes s z hz
    · exact hby z hz
  obtain ⟨xs, hxs⟩ : ∃ xs, xs = textB s ++ ys := ⟨_, rfl⟩
  have hown5' : w5.ownsRow w2.heap.size 5 1 v5 xs.length (u8s xs) := by
    subst hxs; rw [List.length_append]; simpa [u8s] using hown5
  have hlx : xs.length ≤ 500 := by subst hxs; rw [List.length_append]; omega
  rw [← hxs] at hbt
  clear hown5 hxs hown3' hown4 hbw4 hb5 hc4
  obtain ⟨b5, c5, hv5, hr5, hlc5⟩ := owns_opened hown5'
  subst hv5
  have hne5 : ∀ x, b5 = some x → x.block ≠ w.heap.size := by
    intro x hx
    subst hx
    have := hown5'.lt x.block rfl
    omega
  clear hown5'
  refine (once_any w.heap.size 4 _ hc5 (by omega)).mono ?_
  rintro e w6 ⟨o, rfl, hc6, hg6⟩
  have hr6 := hr5.grown hg6 hne5
  have hs6 := hg6.size
  have hbw6 : Below w.heap.size w w6 := hbw5.grown hg6 (by omega) (by simp)
  clear hr5 hg6 hc5 hbw5
  cases o with
  | false =>
    go_wp2_with fail
    refine (pickInt_any w.heap.size _ [0, 0, 0, 1, xs.length, -1] 6 _ _ rfl (hc6.kept ((Below.refl _ _).alloc (by omega) _)) (rd_lit w6 _ _) (by intro x hx; simp at hx; subst hx; show w6.heap.size ≠ _; omega) (by simp) (by simp)).mono ?_
    rintro e w7 ⟨k, rfl, hk, hc7, hg7⟩
    have hk' : k ≤ 9223372036854775807 := by simp at hk; omega
    have hr7 : Rd w7 b5 (u8s xs) := (hr6.below ((Below.refl _ _).alloc (Nat.le_refl _) _)).grown hg7 hne5
    clear hk hc7 hc6 hr6
    go_wp2
    go_ret2
    exact ⟨b5, xs, c5, k, rfl, hbt, hlx, hlc5, hr7, hk', (hbw6.alloc (by omega) _).grown hg7 (by simp; omega) (by simp)⟩
  | true =>
    go_wp2_with fail
    refine (below_any w.heap.size ((xs.length : Int) + 1) _ hc6 (by omega)).mono ?_
    rintro e w7 ⟨n, rfl, hn0, hn1, -, hc7, hg7⟩
    have hn1 := hn1 (by omega)
    obtain ⟨N, rfl⟩ : ∃ N : Nat, n = N := ⟨n.toNat, by omega⟩
    have hr7 := hr6.grown hg7 hne5
    have hs7 := hg7.size
    have hbw7 : Below w.heap.size w w7 := hbw6.grown hg7 (by omega) (by simp)
    have hrt : Rd w7 b5 (u8s (xs.take N)) := by
      rcases hr7 with h | ⟨b, off, hb', hc'⟩
      · left; simp at h; subst h; simp
      · refine .inr ⟨b, off, hb', fun i v hv => hc' i v ?_⟩
        simp only [u8s, List.getElem?_map, List.getElem?_take] at hv ⊢
        by_cases hi' : i < N
        · simpa [hi'] using hv
        · simp [hi'] at hv
    have hlt : (xs.take N).length = N := by simp; omega
    have hbt' : IsBytes (xs.take N) := fun z hz => hbt z (List.mem_of_mem_take hz)
    clear hr6 hr7 hc6 hg7 hbw6
    have HL : Hid ((xs.take N).length = N) := hlt
    clear hlt
    cases b5
    all_goals
      go_wp2_with fail
      refine (pickInt_any w.heap.size _ [0, 0, 0, 1, N, -1] 6 _ _ rfl (hc7.kept ((Below.refl _ _).alloc (by omega) _)) (rd_lit w7 _ _) (by intro x hx; simp at hx; subst hx; show w7.heap.size ≠ _; omega) (by simp) (by simp)).mono ?_
      rintro e w8 ⟨k, rfl, hk, hc8, hg8⟩
      have hk' : k ≤ 9223372036854775807 := by simp at hk; omega
      have hr8 := (hrt.below ((Below.refl _ _).alloc (Nat.le_refl _) (Obj.cells #[.int .i64 0, .int .i64 0, .int .i64 0, .int .i64 1, .int .i64 N, .int .i64 (-1)] 3))).grown hg8 hne5
      clear hk hc8 hc7 hrt
      go_wp2
      go_ret2
      exact ⟨_, xs.take N, c5, k, by rw [HL.out]; rfl, hbt', by rw [HL.out]; omega, by rw [HL.out]; omega, hr8, hk', (hbw7.alloc (by omega) _).grown hg8 (by simp; omega) (by simp)⟩

end Go.Proofs.Ytgalfbcolbgabaa
