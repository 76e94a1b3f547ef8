/-
  Contract of slices.Delete over kids, one of them taken out; of the program's dropped.
-/
import Derived.Test.YtmolhhljodlhaabImplPlace
import Derived.Deep.RegionLaw
namespace Go.Proofs.Ytmolhhljodlhaab
open Go.RowKit Go.Deep
set_option maxRecDepth 100000
set_option linter.unusedVariables false

/-- append WITHIN THE CAPACITY, as one step of a region that draws: the row stays where it is. -/
theorem step_append_fits {P : Program} {w : World} {ops : Array Oper} {o : Oper} {a : Act} {K : Act → World → Prop} {Q : Exit → Act → World → Prop} {E : Prop} (hgd : o.guard = none) (s x : Operand) (t : TypeId)
    (ho : o.op = .call { callee := .builtin .append, args := #[s, x], argTypes := #[t, t] })
    (base : Nat) (e : TypeId) (i : TypeInfo) (size : Nat) (ht : P.underlying t = some (.slice e)) (hi : P.info? e = some i) (hsize : i.size = size)
    (g n cap : Nat) (xs : List Value) (hs : a.eval s = .slice (some ⟨g, 0, none⟩) n cap) (hown : w.ownsRow base e size (.slice (some ⟨g, 0, none⟩) n cap) n xs)
    (ad : Addr) (m c : Nat) (news : List Value) (hx : a.eval x = .slice (some ad) m c) (hl : news.length = m * size) (hnews : ∀ j u, news[j]? = some u → w.cell? (ad.add j) = some u) (h1 : ∀ u ∈ news, u.oneCell' = true)
    (hroom : n + m ≤ cap)
    (h : ∀ w', w'.ownsRow base e size (.slice (some ⟨g, 0, none⟩) (n + m) cap) (n + m) (xs ++ news) → w.grownBy w' (some g) → K (a.put o.dst (.slice (some ⟨g, 0, none⟩) (n + m) cap)) w') :
    if Region.wanted o (yielded ops a.tmps) = true then Oper.wp P o a w K Q else E := by
  have hw : Region.wanted o (yielded ops a.tmps) = true := by simp [Region.wanted, hgd]
  rw [if_pos hw]
  obtain ⟨w', hrun, r1, r2⟩ := run_append_fits (P := P) w base t o.type e i size ht hi hsize g n cap xs hown ad m c news hl hnews h1 hroom
  unfold Oper.wp
  simp [execOp, ho, resolve, invoke, builtin, hs, hx, hrun, Result.andThen]
  exact h w' r1 r2

theorem vsKid_one (xs : List (ByteArray × Int)) : ∀ u ∈ vsKid xs, u.oneCell' = true := by
  intro u hu
  simp only [vsKid, List.mem_flatMap] at hu
  obtain ⟨x, -, hx⟩ := hu
  simp at hx
  rcases hx with rfl | rfl <;> rfl
theorem vsKid_take (xs : List (ByteArray × Int)) (k : Nat) : (vsKid xs).take (k * 2) = vsKid (xs.take k) := by
  induction xs generalizing k with
  | nil => simp [vsKid]
  | cons y ys ih =>
    have e : vsKid (y :: ys) = .string y.1 :: .int .i64 y.2 :: vsKid ys := rfl
    cases k with
    | zero => simp [vsKid]
    | succ k =>
      have h1 : (k + 1) * 2 = (k * 2) + 1 + 1 := by omega
      rw [e, h1, List.take_succ_cons, List.take_succ_cons, ih, List.take_succ_cons]; rfl
theorem vsKid_drop (xs : List (ByteArray × Int)) (k : Nat) : (vsKid xs).drop (k * 2) = vsKid (xs.drop k) := by
  induction xs generalizing k with
  | nil => simp [vsKid]
  | cons y ys ih =>
    have e : vsKid (y :: ys) = .string y.1 :: .int .i64 y.2 :: vsKid ys := rfl
    cases k with
    | zero => simp
    | succ k =>
      have h1 : (k + 1) * 2 = (k * 2) + 1 + 1 := by omega
      rw [e, h1, List.drop_succ_cons, List.drop_succ_cons, ih, List.drop_succ_cons]

/-- The head of a row of the call's own. -/
theorem own_head {w : World} {base g n cap k : Nat} {e : TypeId} {size : Nat} {xs : List Value} (h : w.ownsRow base e size (.slice (some ⟨g, 0, none⟩) n cap) n xs) (hk : k ≤ n) : w.ownsRow base e size (.slice (some ⟨g, 0, none⟩) k cap) k (xs.take (k * size)) := by
  rcases id h with ⟨hl, ⟨h0, _⟩ | ⟨g', cap', cur, h0, hb, hg, hn, hm, hs, ht⟩⟩
  · simp at h0
  · simp only [Value.slice.injEq, Option.some.injEq, Addr.mk.injEq, and_true, true_and] at h0
    obtain ⟨rfl, rfl⟩ := h0
    have hks : k * size ≤ n * size := Nat.mul_le_mul_right _ hk
    refine ⟨by rw [List.length_take]; omega, .inr ⟨g, cap, cur, rfl, hb, hg, by omega, hm, hs, ?_⟩⟩
    rw [← ht, List.take_take, Nat.min_eq_left hks]
/-- Where one behind a row's end is cleared, the row stays. -/
theorem clear_own {w : World} {base g n cap : Nat} {xs : List Value} (h : w.ownsRow base 45 2 (.slice (some ⟨g, 0, none⟩) n cap) n xs) (hc : n + 1 ≤ cap) :
    ∃ W2, (∀ ty c, (Builtin.clear_ #[39] ty #[.slice (some ⟨g, n * 2, none⟩) 1 c]).run Try.prog w = .ok (.tuple #[]) W2) ∧ W2.ownsRow base 45 2 (.slice (some ⟨g, 0, none⟩) n cap) n xs ∧ w.grownBy W2 (some g) := by
  rcases id h with ⟨hl, ⟨h0, _⟩ | ⟨g', cap', cur, h0, hb, hg, hn, hm, hs, ht⟩⟩
  · simp at h0
  · simp only [Value.slice.injEq, Option.some.injEq, Addr.mk.injEq, and_true, true_and] at h0
    obtain ⟨rfl, rfl⟩ := h0
    have hfit : n * 2 + ([.string ⟨#[]⟩, .int .i64 0] : List Value).length ≤ cur.size := by simp; omega
    have hst := run_storeCells_at Try.prog g (n * 2) 45 [.string ⟨#[]⟩, .int .i64 0] 0 cur w hg (by simpa using hfit) (by intro u hu; simp at hu; rcases hu with rfl | rfl <;> rfl)
    simp only [Nat.add_zero] at hst
    refine ⟨w.setRow g (cur.toList.take (n * 2) ++ ([.string ⟨#[]⟩, .int .i64 0] : List Value) ++ cur.toList.drop (n * 2 + 2)).toArray, fun ty c => ?_, ⟨hl, .inr ⟨g, cap, _, rfl, hb, setRow_heap w g cur _ _ _ hg, hn, hm, ?_, ?_⟩⟩, ⟨rfl, rfl, rfl, by simp, fun k _ hk => setRow_other w g k _ (fun e => hk (by simp [e]))⟩⟩
    · have hzc : (Builtin.zeroCells (Value.agg #[.string ⟨#[]⟩, .int .i64 0]).cells 1).toList = [.string ⟨#[]⟩, .int .i64 0] := by
        simp only [Builtin.zeroCells, Value.cells, Array.toList_map, Array.toList_range]
        rfl
      simp [Builtin.clear_, run_underlying Try.underlying39, hzc, hst]
    · simp only [List.size_toArray, List.length_append, List.length_take, List.length_drop, Array.length_toList]
      simp; omega
    · have e : (List.take (n * 2) cur.toList).length = n * 2 := by simp; omega
      simp only [List.append_assoc]
      rw [List.take_append_of_le_length (by rw [e]; exact Nat.le_refl _), List.take_take, Nat.min_self]; exact ht

theorem vsKid_erase (K : List (ByteArray × Int)) (k : Nat) : (vsKid K).take (k * 2) ++ vsKid (K.drop (k + 1)) = vsKid (K.eraseIdx k) := by
  rw [vsKid_take, ← vsKid_app, List.eraseIdx_eq_take_drop_succ]

set_option maxHeartbeats 3200000 in
theorem delete_any (base g cap k : Nat) (K : List (ByteArray × Int)) (w : World) (hown : KidsOwn w base (.slice (some ⟨g, 0, none⟩) K.length cap) K) (hk : k < K.length) (hl : K.length ≤ 2097152) (hb : base ≤ w.heap.size) :
    Calls Try.prog 26 #[.slice (some ⟨g, 0, none⟩) K.length cap, .int .i64 k, .int .i64 ((k : Int) + 1)] w fun e w' => e = .returned (.slice (some ⟨g, 0, none⟩) (K.length - 1) cap) ∧ KidsOwn w' base (.slice (some ⟨g, 0, none⟩) (K.length - 1) cap) (K.eraseIdx k) ∧ Below base w w' := by
  obtain ⟨i0, hi, hz0, hz1, hz2⟩ := info_parts infoKid
  obtain ⟨N, hN⟩ : ∃ N, N = K.length := ⟨_, rfl⟩
  have hcap : N ≤ cap := by
    rcases hown.2 with ⟨h0, _⟩ | ⟨g', cap', cur, h0, hb', hg, hn, hm, hs, ht⟩
    · simp at h0
    · simp only [Value.slice.injEq, Option.some.injEq, Addr.mk.injEq, and_true, true_and] at h0
      omega
  have hcapm : cap ≤ 9223372036854775807 := by
    rcases hown.2 with ⟨h0, _⟩ | ⟨g', cap', cur, h0, hb', hg, hn, hm, hs, ht⟩
    · simp at h0
    · simp only [Value.slice.injEq, Option.some.injEq, Addr.mk.injEq, and_true, true_and] at h0
      unfold maxLen at hm; omega
  rw [← hN]
  have hkN : k < N := by omega
  have hNl : N ≤ 2097152 := by omega
  have HOWN := hide hown
  have HN := hide hN
  obtain ⟨m, hm⟩ : ∃ m, m = N - (k + 1) := ⟨_, rfl⟩
  have hdl : (K.drop (k + 1)).length = m := by rw [List.length_drop, hm, hN]
  obtain ⟨news, hnews⟩ : ∃ news, news = vsKid (K.drop (k + 1)) := ⟨_, rfl⟩
  have hnl : Hid (news.length = m * 2) := by show _ = _; rw [hnews, vsKid_len, hdl]
  have hn1 : Hid (∀ u ∈ news, u.oneCell' = true) := by rw [hnews]; exact vsKid_one _
  have hhead : w.drew.ownsRow base 45 2 (.slice (some ⟨g, 0, none⟩) k cap) k ((vsKid K).take (k * 2)) := (own_head (n := K.length) hown (by omega)).drew
  have HHEAD := hide hhead
  obtain ⟨A, hA, hsrc⟩ : ∃ A : Addr, (if cap = k + 1 then some (⟨g, 0, none⟩ : Addr) else some ⟨g, (k + 1) * 2, none⟩) = some A ∧ Hid (∀ t u, news[t]? = some u → w.drew.cell? (A.add t) = some u) := by
    by_cases h : cap = k + 1
    · refine ⟨⟨g, 0, none⟩, by simp [h], fun t u hu => ?_⟩
      have h0 : news.length = 0 := by have := hnl.out; omega
      rw [List.length_eq_zero_iff.1 h0] at hu
      simp at hu
    · refine ⟨⟨g, (k + 1) * 2, none⟩, by simp [h], fun t u hu => ?_⟩
      rw [hnews, ← vsKid_drop, List.getElem?_drop] at hu
      rw [Addr.add_lit]
      have hlt : (k + 1) * 2 + t < K.length * 2 := by
        rcases Nat.lt_or_ge ((k + 1) * 2 + t) (vsKid K).length with h' | h'
        · rw [vsKid_len] at h'; exact h'
        · simp [h'] at hu
      have := hown.cellAt ((k + 1) * 2 + t) hlt
      exact this.trans hu
  have HNEWS := hide hnews
  have hkc : k ≤ cap := by omega
  have hjc : k + 1 ≤ cap := by omega
  have hk0 : (0 : Int) ≤ (k : Int) + 1 := by omega
  have hsub : N - (k + 1) = m := hm.symm
  have hsub2 : N - (k + m) = 1 := by omega
  have hkm : k + m ≤ cap := by omega
  have hkm1 : k + m + 1 ≤ cap := by omega
  have hkmN : k + m ≤ N := by omega
  have hkmI : (k : Int) + (m : Int) ≤ (N : Int) := by omega
  have hnc : ¬ cap = k + m := by omega
  have hnk : ¬ (k : Int) = (k : Int) + 1 := by omega
  have HM : Hid (N = k + m + 1) := by show _ = _; omega
  have hk1 : (k : Int) + 1 ≤ (N : Int) := by omega
  clear hnews hown hN hdl hhead hm
  go_enter Try.func26, Try.ntmps26
  go_wp2_with fail
  go_region_law (refine step_append_fits rfl (.tmp 22) (.tmp 25) 39 rfl base 45 i0 2 Try.underlying39 hi hz1 g k cap _ (by simp [Act.eval, Act.put]) HHEAD.out A m (cap - (k + 1)) news (by simp [Act.eval, Act.put]) hnl.out hsrc.out hn1.out (by omega) ?_; intro W1 hown1 hg1; obtain ⟨W2, hcl, hown2, hg2⟩ := clear_own hown1 hkm1; have HO2 := hide hown2; have HG1 := hide hg1; have HG2 := hide hg2; have hcl1 := hcl 0; clear hown1 hown2 hg1 hg2)
  have hgb : base ≤ g := by
    rcases HOWN.out.2 with ⟨h0, _⟩ | ⟨g', cap', cur, h0, hb', hg, hn, hm, hs, ht⟩
    · simp at h0
    · simp only [Value.slice.injEq, Option.some.injEq, Addr.mk.injEq, and_true, true_and] at h0
      omega
  have HBF : Hid (Below base w W2) := by
    have h1 : Below base w w.drew := (Below.refl _ _).drew
    have h2 := h1.grown HG1.out (by simpa using hb) (fun k hk => by cases hk; exact hgb)
    exact h2.grown HG2.out (by have := HG1.out.size; simp at this; omega) (fun k hk => by cases hk; exact hgb)
  have HKF : Hid (KidsOwn W2 base (.slice (some ⟨g, 0, none⟩) (N - 1) cap) (K.eraseIdx k)) := by
    have := HO2.out
    rw [HNEWS.out, vsKid_erase] at this
    have e1 : N - 1 = k + m := by have := HM.out; omega
    have e2 : (K.eraseIdx k).length = k + m := by rw [List.length_eraseIdx_of_lt (by have := HN.out; omega), ← HN.out, e1]
    show W2.ownsRow _ _ _ _ _ _
    rw [e1, e2]; exact this
  have HE : Hid (N - 1 = k + m) := by show _ = _; have := HM.out; omega
  clear hcl hsub
  go_wp2

  go_ret
  exact ⟨by rw [HE.out]; rfl, HKF.out, HBF.out⟩
end Go.Proofs.Ytmolhhljodlhaab
