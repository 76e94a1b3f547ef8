/-
  The plain mathematics of NextPage: which block is begun, and which free one was cleared the least often.
  Contracts of cmp.Compare at int, of NextPage's closure, and of slices.MinFunc with it.
  Contract of the program's FreeBlocks; what the two answer: the same.
-/
import Derived.Test.YtdicjbabnknjhaaGreatJRecover14
import Derived.Test.YtdicjbabnknjhaaGreatJRecover10
import Derived.RangeFuncCalls
import Derived.RangeFuncBound
namespace Go.Proofs.YtdicjbabnknjhaaGreat
open Go.RowKit

/-- A page of a block is clear. -/
def Emp (ps : List ByteArray) (B j : Nat) : Prop := ps[B * 6 + j]?.getD ByteArray.empty = ByteArray.empty

theorem clr_zero (ps : List ByteArray) (B : Nat) : ∀ i, ((clr ps B i).1 = 0 ↔ ∀ j, j < i → ¬ Emp ps B j) := by
  intro i
  induction i with
  | zero => simp [clr]
  | succ i ih =>
    have hb := clr_bd ps B i
    unfold clr
    split
    · rename_i h
      simp only []
      constructor
      · intro he; omega
      · intro hall; exact absurd h (hall i (by omega))
    · rename_i h
      simp only []
      rw [ih]
      constructor
      · intro hall j hj
        by_cases hji : j = i
        · rw [hji]; exact h
        · exact hall j (by omega)
      · intro hall j hj; exact hall j (by omega)

theorem clr_tail (ps : List ByteArray) (B : Nat) : ∀ i, ∃ t : Nat, (clr ps B i).2 = t ∧ t ≤ i ∧ (∀ j, i - t ≤ j → j < i → Emp ps B j) ∧ (t < i → ¬ Emp ps B (i - t - 1)) ∧ ((clr ps B i).1 = t ↔ ∀ j, j < i - t → ¬ Emp ps B j) := by
  intro i
  induction i with
  | zero => exact ⟨0, by simp [clr], by omega, fun j h1 h2 => by omega, fun h => by omega, by simp [clr]⟩
  | succ i ih =>
    obtain ⟨t, h1, h2, h3, h4, h5⟩ := ih
    unfold clr
    split
    · rename_i h
      refine ⟨t + 1, by simp only []; omega, by omega, fun j hj1 hj2 => ?_, fun hlt => ?_, ?_⟩
      · by_cases hji : j = i
        · rw [hji]; exact h
        · exact h3 j (by omega) (by omega)
      · rw [show i + 1 - (t + 1) - 1 = i - t - 1 by omega]; exact h4 (by omega)
      · simp only []
        rw [show i + 1 - (t + 1) = i - t by omega, ← h5]
        omega
    · rename_i h
      refine ⟨0, rfl, by omega, fun j hj1 hj2 => by omega, fun _ => h, ?_⟩
      have := clr_zero ps B i
      simp only [Int.ofNat_zero, Nat.sub_zero] at *
      rw [this]
      constructor
      · intro hall j hj
        by_cases hji : j = i
        · rw [hji]; exact h
        · exact hall j (by omega)
      · intro hall j hj; exact hall j (by omega)

/-- A block that is begun: it has clear pages, and others, all clear ones at its end. -/
def hitP (ps : List ByteArray) (B : Nat) : Prop := 0 < (clr ps B 6).1 ∧ (clr ps B 6).1 < 6 ∧ (clr ps B 6).2 = (clr ps B 6).1

theorem pages_emp {ps : List ByteArray} {B j : Nat} (hl : ps.length = 60) (hB : B < 10) (hj : j < 6) : (pagesOf ps B)[j]? = some ByteArray.empty ↔ Emp ps B j := by
  rw [pagesOf_at hj]
  have hlt : B * 6 + j < ps.length := by omega
  have e : ps[B * 6 + j]? = some ps[B * 6 + j] := by simp [hlt]
  unfold Emp
  rw [e]
  simp

/-- The first clear page of a block that is begun. -/
theorem hit_of {ps : List ByteArray} {B i : Nat} (hi : 0 < i) (h6 : i < 6) (he : ∀ j, i ≤ j → j < 6 → Emp ps B j) (hn : ∀ j, j < i → ¬ Emp ps B j) : hitP ps B ∧ (B : Int) * 6 + 6 - (clr ps B 6).1 = (B : Int) * 6 + i := by
  obtain ⟨t, h1, h2, h3, h4, h5⟩ := clr_tail ps B 6
  have ht : t = 6 - i := by
    rcases Nat.lt_trichotomy t (6 - i) with h | h | h
    · exact absurd (he (6 - t - 1) (by omega) (by omega)) (h4 (by omega))
    · exact h
    · exact absurd (h3 (i - 1) (by omega) (by omega)) (hn (i - 1) (by omega))
  have hN : (clr ps B 6).1 = t := h5.2 (fun j hj => hn j (by omega))
  refine ⟨⟨?_, ?_, ?_⟩, ?_⟩ <;> omega
theorem hit_not {ps : List ByteArray} {B : Nat} (h : hitP ps B) : ∃ i : Nat, 0 < i ∧ i < 6 ∧ (∀ j, i ≤ j → j < 6 → Emp ps B j) ∧ ∀ j, j < i → ¬ Emp ps B j := by
  obtain ⟨t, h1, h2, h3, h4, h5⟩ := clr_tail ps B 6
  obtain ⟨k1, k2, k3⟩ := h
  refine ⟨6 - t, by omega, by omega, fun j hj1 hj2 => h3 j (by omega) hj2, h5.1 (by omega)⟩

/-- What the program sees of a block: where its first clear page is, and whether all behind it are clear. -/
theorem hit_yes {ps : List ByteArray} {B i : Nat} (hl : ps.length = 60) (hB : B < 10) (hi : 0 < i) (hf : FirstAt (pagesOf ps B) ByteArray.empty (i : Int)) (hc : AllClr ((pagesOf ps B).drop i)) : hitP ps B ∧ (B : Int) * 6 + 6 - (clr ps B 6).1 = (B : Int) * 6 + i := by
  rcases hf with ⟨h, -⟩ | ⟨i', h, hat, hnot⟩
  · omega
  obtain rfl : i' = i := by omega
  have hi6 : i' < 6 := by
    rcases Nat.lt_or_ge i' 6 with h' | h'
    · exact h'
    · rw [List.getElem?_eq_none (by rw [pagesOf_len hl hB]; exact h')] at hat; cases hat
  refine hit_of hi hi6 (fun j hj1 hj2 => ?_) (fun j hj he => ?_)
  · have hm : (pagesOf ps B)[j]? = some ((pagesOf ps B)[j]?.getD ByteArray.empty) := by
      rw [pagesOf_at hj2]; simp [show B * 6 + j < ps.length by omega]
    have : (pagesOf ps B)[j]?.getD ByteArray.empty = ByteArray.empty := by
      refine hc _ (List.mem_iff_getElem?.2 ⟨j - i', ?_⟩)
      rw [List.getElem?_drop, show i' + (j - i') = j by omega]; exact hm
    rw [this] at hm
    exact (pages_emp hl hB hj2).1 hm
  · refine hnot (List.mem_iff_getElem?.2 ⟨j, ?_⟩)
    rw [List.getElem?_take_of_lt hj]
    exact (pages_emp hl hB (by omega)).2 he
theorem hit_no {ps : List ByteArray} {B : Nat} {r : Int} (hl : ps.length = 60) (hB : B < 10) (hf : FirstAt (pagesOf ps B) ByteArray.empty r) (hc : r ≤ 0 ∨ ¬ AllClr ((pagesOf ps B).drop r.toNat)) : ¬ hitP ps B := by
  intro hh
  obtain ⟨i, hi, hi6, he, hn⟩ := hit_not hh
  have hat : (pagesOf ps B)[i]? = some ByteArray.empty := (pages_emp hl hB hi6).2 (he i (Nat.le_refl _) hi6)
  rcases hf with ⟨rfl, hno⟩ | ⟨k, rfl, hk, hknot⟩
  · exact hno (List.mem_of_getElem? hat)
  · have hk6 : k < 6 := by
      rcases Nat.lt_or_ge k 6 with h' | h'
      · exact h'
      · rw [List.getElem?_eq_none (by rw [pagesOf_len hl hB]; exact h')] at hk; cases hk
    have hki : k = i := by
      rcases Nat.lt_trichotomy k i with h | h | h
      · exact absurd ((pages_emp hl hB hk6).1 hk) (hn k h)
      · exact h
      · exact absurd (List.mem_iff_getElem?.2 ⟨i, by rw [List.getElem?_take_of_lt h]; exact hat⟩) hknot
    subst hki
    rcases hc with hc | hc
    · omega
    · refine hc (fun x hx => ?_)
      rw [Int.toNat_natCast] at hx
      obtain ⟨j, hj⟩ := List.mem_iff_getElem?.1 hx
      rw [List.getElem?_drop] at hj
      have hkj : k + j < 6 := by
        rcases Nat.lt_or_ge (k + j) 6 with h' | h'
        · exact h'
        · rw [List.getElem?_eq_none (by rw [pagesOf_len hl hB]; exact h')] at hj; cases hj
      have := (pages_emp hl hB hkj).2 (he (k + j) (by omega) hkj)
      rw [this] at hj
      exact (Option.some.inj hj).symm

/-- The best free block of the first k. -/
noncomputable def bestU (ps : List ByteArray) (ws : List Int) : Nat → Int
  | 0 => -1
  | k + 1 => if (clr ps k 6).1 = 6 ∧ (bestU ps ws k < 0 ∨ ws[k]?.getD 0 < ws[(bestU ps ws k).toNat]?.getD 0) then (k : Int) else bestU ps ws k

theorem nxt_hit {ps : List ByteArray} {ws : List Int} {B : Nat} (hh : hitP ps B) : ∀ (f b : Nat) (best : Int), b ≤ B → B < b + f → (∀ b', b ≤ b' → b' < B → ¬ hitP ps b') → nxt ps ws f b best = (B : Int) * 6 + 6 - (clr ps B 6).1 := by
  intro f
  induction f with
  | zero => intro b best h1 h2; omega
  | succ f ih =>
    intro b best h1 h2 hno
    by_cases hb : b = B
    · subst hb
      exact nxt_here rfl rfl hh
    · have hnb := hno b (Nat.le_refl _) (by omega)
      by_cases h2' : (clr ps b 6).1 = 6 ∧ (best < 0 ∨ ws[b]?.getD 0 < ws[best.toNat]?.getD 0)
      · rw [nxt_take rfl rfl hnb h2']
        exact ih (b + 1) _ (by omega) (by omega) (fun b' h h' => hno b' (by omega) h')
      · rw [nxt_pass rfl rfl hnb h2']
        exact ih (b + 1) _ (by omega) (by omega) (fun b' h h' => hno b' (by omega) h')

theorem nxt_none {ps : List ByteArray} {ws : List Int} (hno : ∀ b, b < 10 → ¬ hitP ps b) : ∀ (f k : Nat), k + f = 10 → nxt ps ws f k (bestU ps ws k) = if bestU ps ws 10 < 0 then -1 else bestU ps ws 10 * 6 := by
  intro f
  induction f with
  | zero => intro k hk; obtain rfl : k = 10 := by omega
            rfl
  | succ f ih =>
    intro k hk
    have hnb := hno k (by omega)
    by_cases h2 : (clr ps k 6).1 = 6 ∧ (bestU ps ws k < 0 ∨ ws[k]?.getD 0 < ws[(bestU ps ws k).toNat]?.getD 0)
    · rw [nxt_take rfl rfl hnb h2, ← ih (k + 1) (by omega), bestU, if_pos h2]
    · rw [nxt_pass rfl rfl hnb h2, ← ih (k + 1) (by omega), bestU, if_neg h2]

/-- One more free block. -/
def minS (ws : List Int) (m x : Int) : Int := if m < 0 ∨ ws[x.toNat]?.getD 0 < ws[m.toNat]?.getD 0 then x else m
def minF (ws : List Int) (L : List Int) : Int := L.foldl (minS ws) (-1)
theorem minF_snoc (ws : List Int) (L : List Int) (x : Int) : minF ws (L ++ [x]) = minS ws (minF ws L) x := by simp [minF]
theorem bestU_min (ps : List ByteArray) (ws : List Int) : ∀ k, bestU ps ws k = minF ws (freeB ps k) := by
  intro k
  induction k with
  | zero => rfl
  | succ k ih =>
    unfold bestU freeB
    by_cases h : (clr ps k 6).1 = 6
    · rw [if_pos h, minF_snoc, ← ih]
      unfold minS
      simp only [h, true_and, Int.toNat_natCast]
    · rw [if_neg h, if_neg (fun h' => h h'.1), ih]
theorem freeB_bd (ps : List ByteArray) : ∀ k, ∀ x ∈ freeB ps k, 0 ≤ x ∧ x < k := by
  intro k
  induction k with
  | zero => simp [freeB]
  | succ k ih =>
    intro x hx
    unfold freeB at hx
    split at hx
    · rw [List.mem_append] at hx
      rcases hx with hx | hx
      · have := ih x hx; omega
      · simp at hx; omega
    · have := ih x hx; omega
theorem minF_take {ws L : List Int} {k : Nat} {x : Int} (h : L[k]? = some x) : minF ws (L.take (k + 1)) = minS ws (minF ws (L.take k)) x := by
  rw [List.take_add_one, h]
  exact minF_snoc ws _ x
theorem minF_mem {ws : List Int} : ∀ (L : List Int), (∀ x ∈ L, 0 ≤ x ∧ x < 10) → L ≠ [] → 0 ≤ minF ws L ∧ minF ws L < 10 := by
  intro L hL hne
  have key : ∀ (L : List Int) (m : Int), (∀ x ∈ L, 0 ≤ x ∧ x < 10) → ((0 ≤ m ∧ m < 10) ∨ L ≠ []) → (m < 0 ∨ (0 ≤ m ∧ m < 10)) → 0 ≤ L.foldl (minS ws) m ∧ L.foldl (minS ws) m < 10 := by
    intro L
    induction L with
    | nil => intro m _ h _; rcases h with h | h; exact h; exact absurd rfl h
    | cons y ys ih =>
      intro m hy h hm
      rw [List.foldl_cons]
      have hyb := hy y (by simp)
      have : 0 ≤ minS ws m y ∧ minS ws m y < 10 := by
        unfold minS
        split
        · exact hyb
        · rename_i hh
          rcases hm with hm | hm
          · exact absurd (Or.inl hm) hh
          · exact hm
      exact ih _ (fun x hx => hy x (by simp [hx])) (.inl this) (.inr this)
  exact key L (-1) hL (.inr hne) (.inl (by omega))

theorem nextP_hit {ps : List ByteArray} {ws : List Int} {B : Nat} (hB : B < 10) (hh : hitP ps B) (hno : ∀ b, b < B → ¬ hitP ps b) : nextP ps ws = (B : Int) * 6 + 6 - (clr ps B 6).1 :=
  nxt_hit hh 10 0 (-1) (by omega) (by omega) (fun b' _ h => hno b' h)
theorem nextP_none {ps : List ByteArray} {ws : List Int} (hno : ∀ b, b < 10 → ¬ hitP ps b) : nextP ps ws = if freeB ps 10 = [] then -1 else minF ws (freeB ps 10) * 6 := by
  have := nxt_none (ws := ws) hno 10 0 rfl
  rw [bestU_min ps ws 10] at this
  show nxt ps ws 10 0 (bestU ps ws 0) = _
  rw [this]
  by_cases h : freeB ps 10 = []
  · rw [if_pos h, h]; rfl
  · have := minF_mem (ws := ws) (freeB ps 10) (fun x hx => by have := freeB_bd ps 10 x hx; omega) h
    rw [if_neg h, if_neg (by omega)]

end Go.Proofs.YtdicjbabnknjhaaGreat

namespace Go.Proofs.YtdicjbabnknjhaaGreat
open Go.RowKit

/-- As cmp.Compare has it. -/
def cmpI (x y : Int) : Int := if x < y then -1 else if y < x then 1 else 0

set_option maxHeartbeats 400000 in
theorem isNaN_any (x : Int) (w : World) : Calls Tryz.prog 136 #[.int .i64 x] w fun e w' => e = .returned (.bool false) ∧ w' = w := by
  have ht : (x != x) = false := by simp
  go_enter Tryz.func136, Tryz.ntmps136
  go_wp2
  go_ret
  exact ⟨rfl, rfl⟩

set_option maxHeartbeats 400000 in
theorem compare_any (x y : Int) (w : World) : Calls Tryz.prog 122 #[.int .i64 x, .int .i64 y] w fun e w' => e = .returned (.int .i64 (cmpI x y)) ∧ w' = w := by
  obtain ⟨R, hR⟩ : ∃ R, R = cmpI x y := ⟨_, rfl⟩
  rw [← hR]
  by_cases h1 : x < y
  · have HR : Hid (R = -1) := by show _ = _; rw [hR, cmpI, if_pos h1]
    clear hR
    go_enter Tryz.func122, Tryz.ntmps122
    go_wp2_with (go_at_call 136; refine (isNaN_any _ _).mono ?_; rintro e u ⟨rfl, hu⟩; have hu' := hu.symm; subst hu')
    go_ret
    exact ⟨by rw [HR.out]; rfl, rfl⟩
  · by_cases h2 : y < x
    · have HR : Hid (R = 1) := by show _ = _; rw [hR, cmpI, if_neg h1, if_pos h2]
      clear hR
      go_enter Tryz.func122, Tryz.ntmps122
      go_wp2_with (go_at_call 136; refine (isNaN_any _ _).mono ?_; rintro e u ⟨rfl, hu⟩; have hu' := hu.symm; subst hu')
      go_ret
      exact ⟨by rw [HR.out]; rfl, rfl⟩
    · have HR : Hid (R = 0) := by show _ = _; rw [hR, cmpI, if_neg h1, if_neg h2]
      clear hR
      go_enter Tryz.func122, Tryz.ntmps122
      go_wp2_with (go_at_call 136; refine (isNaN_any _ _).mono ?_; rintro e u ⟨rfl, hu⟩; have hu' := hu.symm; subst hu')
      go_ret
      exact ⟨by rw [HR.out]; rfl, rfl⟩

set_option maxHeartbeats 800000 in
theorem wearCmp_any (p : Nat) (b : Option Addr) (ws : List Int) (d A B : Nat) (w : World) (hc : w.cell? ⟨p, 1, none⟩ = some (.slice b ws.length d)) (hw : Rd w b (vsInt ws)) (_hm : ws.length ≤ 1048576) (hA : A < ws.length) (hB : B < ws.length) :
    Calls Tryz.prog 132 #[.int .i64 A, .int .i64 B, .pointer (some ⟨p, 0, none⟩)] w fun e w' => e = .returned (.int .i64 (cmpI (ws[A]?.getD 0) (ws[B]?.getD 0))) ∧ ∃ n, w' = w.drewN n := by
  obtain ⟨bb, ob, x, rfl, hcx, HX⟩ := rdInt_at hw hA
  obtain ⟨bb', ob', y, hb', hcy, HY⟩ := rdInt_at hw hB
  simp at hb'
  obtain ⟨rfl, rfl⟩ := hb'
  rw [HX.out, HY.out]
  simp only [Option.getD_some]
  have HC := hide (compare_any x y)
  clear hw
  go_enter Tryz.func132, Tryz.ntmps132
  go_wp2
  go_quiet ((go_at_call 122; exact Calls.quiet_of_same (HC.out _)))
  go_wp2
  go_ret
  exact ⟨rfl, _, rfl⟩

set_option maxRecDepth 100000 in
set_option maxHeartbeats 1600000 in
theorem minFunc_any (p : Nat) (a b : Option Addr) (L ws : List Int) (c d : Nat) (w : World) (hL : Rd w a (vsInt L)) (hc : w.cell? ⟨p, 1, none⟩ = some (.slice b ws.length d)) (hw : Rd w b (vsInt ws)) (hm : ws.length = 10) (hl : L.length ≤ 1048576) (hb : ∀ x ∈ L, 0 ≤ x ∧ x < 10) (hne : L ≠ []) :
    Calls Tryz.prog 119 #[.slice a L.length c, .func (.func 132) #[] #[.pointer (some ⟨p, 0, none⟩)]] w fun e w' => e = .returned (.int .i64 (minF ws L)) ∧ ∃ n, w' = w.drewN n := by
  have hpos : 0 < L.length := List.length_pos_iff.2 hne
  have HB := hide hb
  have HCW := hide (And.intro hc hw)
  have HM := hide hm
  obtain ⟨ba, oa, z, rfl, hck, HZ⟩ := rdInt_at hL hpos
  have hz := hb z (List.mem_of_getElem? HZ.out)
  rw [Nat.add_zero] at hck
  have HS1 : Hid (minF ws (L.take 1) = z) := by
    show _ = _
    have := minF_take (ws := ws) (k := 0) HZ.out
    rw [show (0 : Nat) + 1 = 1 from rfl] at this
    rw [this]
    simp [minF, minS]
  have hlen1 : ¬ ((L.length : Int) < 1) := by omega
  clear hb hne hc hw hm
  go_enter Tryz.func119, Tryz.ntmps119
  go_wp2
  go_loopw [5, 6] (fun m i wr => ∃ k : Nat, 1 ≤ k ∧ k ≤ L.length ∧ i = .int .i64 k ∧ m = .int .i64 (minF ws (L.take k)) ∧ ∃ n, wr = w.drewN n) (fun _ i _ => L.length - (intOf i).toNat)
  case atStart => exact ⟨1, by omega, by omega, rfl, by rw [HS1.out], 0, rfl⟩
  case round =>
    obtain ⟨k, hk1, hk, rfl, rfl, n, rfl⟩ := hrel
    by_cases hlt : k < L.length
    · obtain ⟨ba', oa', x, hb', hcx, HX⟩ := rdInt_at hL hlt
      simp at hb'
      obtain ⟨rfl, rfl⟩ := hb'
      have hx := HB.out x (List.mem_of_getElem? HX.out)
      have hmm := minF_mem (ws := ws) (L.take k) (fun x hx => HB.out x (List.mem_of_mem_take hx)) (List.ne_nil_of_length_pos (by rw [List.length_take]; omega))
      have HE := hide (minF_take (ws := ws) HX.out)
      obtain ⟨M, hM⟩ : ∃ M, M = minF ws (L.take k) := ⟨_, rfl⟩
      rw [← hM] at hmm HE ⊢
      obtain ⟨X, rfl⟩ : ∃ X : Nat, x = X := ⟨x.toNat, by omega⟩
      obtain ⟨M', rfl⟩ : ∃ M' : Nat, M = M' := ⟨M.toNat, by omega⟩
      have HW := hide (wearCmp_any p b ws d X M' (w.drewN n) (by simpa using HCW.out.1) (HCW.out.2.below (after_drew (Below.refl _ _) n)) (by rw [HM.out]; decide) (by have := HM.out; omega) (by have := HM.out; omega))
      clear hM hL
      by_cases hcmp : ws[X]?.getD 0 < ws[M']?.getD 0
      · have e1 : cmpI (ws[X]?.getD 0) (ws[M']?.getD 0) = -1 := by rw [cmpI, if_pos hcmp]
        rw [e1] at HW
        have HE2 : Hid (minF ws (L.take (k + 1)) = X) := by show _ = _; rw [HE.out, minS, if_pos (.inr (by simpa using hcmp))]
        clear e1 hcmp
        go_wp2_with (refine HW.out.mono ?_; rintro e u ⟨rfl, n2, hu⟩; rw [World.drewN_drewN] at hu; have hcx' : u.cell? ⟨ba, oa + k, none⟩ = some (.int .i64 X) := by rw [hu]; exact hcx)
        exact ⟨⟨k + 1, by omega, by omega, by go_num, by rw [HE2.out], _, rfl⟩, by simp [intOf]; omega⟩
      · have HE2 : Hid (minF ws (L.take (k + 1)) = M') := by show _ = _; rw [HE.out, minS, if_neg (by simp; omega)]
        obtain ⟨z1, hz1, hz2⟩ : ∃ z1, z1 = cmpI (ws[X]?.getD 0) (ws[M']?.getD 0) ∧ ¬ z1 < 0 := ⟨_, rfl, by unfold cmpI; rw [if_neg hcmp]; split <;> omega⟩
        rw [← hz1] at HW
        clear hz1 hcmp
        go_wp2_with (refine HW.out.mono ?_; rintro e u ⟨rfl, n2, hu⟩; rw [World.drewN_drewN] at hu)
        exact ⟨⟨k + 1, by omega, by omega, by go_num, by rw [HE2.out], _, rfl⟩, by simp [intOf]; omega⟩
    · have HE : Hid (L.take k = L) := List.take_of_length_le (by omega)
      clear hL
      go_wp2
      go_ret
      exact ⟨by rw [HE.out]; rfl, _, rfl⟩

end Go.Proofs.YtdicjbabnknjhaaGreat

namespace Go.Proofs.YtdicjbabnknjhaaGreat
open Go.RowKit Go.Shelf

attribute [local go_sem] Oper.semAt_some

theorem boxed2_row {W : World} {Bn : Nat} {x y : Value} {t e : TypeId} {base size k : Nat} {v : Value} {xs : List Value} (h : W.heap[Bn]? = some (.cells #[x, y] t (0, 0))) (hte : t ≠ e) (hr : W.ownsRow base e size v k xs) : some Bn ≠ v.ownBlock := by
  rcases hr.2 with ⟨rfl, _⟩ | ⟨g, cap, cur, rfl, _, hgb, _⟩
  · simp [Value.ownBlock]
  · intro e'
    obtain rfl : Bn = g := by simpa [Value.ownBlock] using e'
    have := h.symm.trans hgb
    simp at this
    exact hte this.2

theorem bn_kept {W w1 : World} {Bf Bn : Nat} {x y v v' : Value} {t e : TypeId} {base size k : Nat} {xs : List Value} {tmp : Obj} (h : W.heap[Bn]? = some (.cells #[x, y] t (0, 0))) (hte : t ≠ e) (hr : W.ownsRow base e size v k xs) (hgrow : (W.alloc tmp).grownBy w1 v.ownBlock) (hne : Bf ≠ Bn) : (w1.setCell ⟨Bf, 0, none⟩ v').heap[Bn]? = W.heap[Bn]? := by
  have hl := (Array.getElem?_eq_some_iff.1 h).1
  rw [heap_setCell_other w1 ⟨Bf, 0, none⟩ Bn v' (fun e => hne e.symm), hgrow.block Bn (by simp; omega) (boxed2_row h hte hr), Below.heap_alloc W _ Bn hl]

/-- What holds between two blocks: the variable 'free' at block Bf, the chip's box at Bn. -/
def FreeI (ps : List ByteArray) (w : World) (Bf Bn : Nat) (x y : Value) (pre : List (Fin 10)) (W : World) : Prop :=
  ((∃ v, Boxed W Bf 23 v ∧ W.ownsRow w.heap.size 3 1 v (freeL ps pre).length (vsInt (freeL ps pre)) ∧ True) ∧ W.heap[Bn]? = some (.cells #[x, y] 32 (0, 0))) ∧ Below w.heap.size w W

theorem freeI_own (ps : List ByteArray) (w : World) (Bf Bn : Nat) (x y : Value) (B : Nat) (hB : w.heap.size ≤ B) : OwnFrom B (FreeI ps w Bf Bn x y) := by
  refine OwnFrom.and (Own.from ?_ _) (ownFrom_below (Nat.le_refl _) hB)
  intro s A C row hs hg hr
  refine ⟨(holdsRow_own w.heap.size Bf 23 3 1 (fun pre => (freeL ps pre).length) (fun pre => vsInt (freeL ps pre)) (fun _ _ => True)) s A C row hs.1 hg hr, (hg.block Bn (Array.getElem?_eq_some_iff.1 hs.2).1 (fun e => ?_)).trans hs.2⟩
  obtain ⟨o, ho, hc⟩ := hr Bn e.symm
  rw [hs.2] at ho; cases ho; cases hc

set_option maxRecDepth 100000 in
set_option maxHeartbeats 6000000 in
theorem implFree_ok (a b : Option Addr) (ps : List ByteArray) (ws : List Int) (c d : Nat) (w : World) (hp : Rd w a (vsString ps)) (hw : Rd w b (vsInt ws)) (hok : chipOkP ps ws) (hcap : 60 ≤ c) :
    Calls Tryz.prog 111 #[.agg #[.slice a ps.length c, .slice b ws.length d]] w fun e w' => ∃ v, e = .returned v ∧ IntsOwn w' w.heap.size v (freeB ps 10) ∧ Below w.heap.size w w' := by
  obtain ⟨i0, hi, hz0, hz1, hz2⟩ := info_parts infoInt
  obtain ⟨ba, oa, rfl, -⟩ := rd_at (k := 0) hp (by have := hok.1; simp; omega)
  obtain ⟨W0, hW0⟩ : ∃ W0, W0 = (w.alloc (Obj.cells #[.slice (some ⟨ba, oa, none⟩) ps.length c, .slice b ws.length d] 32)).alloc (Obj.cells #[.slice none 0 0] 23) := ⟨_, rfl⟩
  obtain ⟨V, hV⟩ : ∃ V, V = W0.alloc (Obj.cells #[.slice (some ⟨ba, oa, none⟩) ps.length c, .slice b ws.length d] 32) := ⟨_, rfl⟩
  have hs0 : W0.heap.size = w.heap.size + 1 + 1 := by rw [hW0]; simp
  have hsV : V.heap.size = w.heap.size + 1 + 1 + 1 := by rw [hV]; simp [hs0]
  have hb0 : Below w.heap.size w W0 := by rw [hW0]; exact ((Below.refl _ _).alloc (Nat.le_refl _) _).alloc (by simp) _
  have hbV : Below w.heap.size w V := by rw [hV]; exact hb0.alloc hb0.size _
  have bF : Boxed V (w.heap.size + 1) 23 (.slice none 0 0) := by
    have := Boxed.new (w.alloc (Obj.cells #[.slice (some ⟨ba, oa, none⟩) ps.length c, .slice b ws.length d] 32)) 23 (.slice none 0 0)
    rw [World.size_alloc, ← hW0] at this
    rw [hV]; exact this.alloc _
  have bN : V.heap[w.heap.size + 1 + 1]? = some (.cells #[.slice (some ⟨ba, oa, none⟩) ps.length c, .slice b ws.length d] 32 (0, 0)) := by
    have := World.alloc_heap_new W0 (Obj.cells #[.slice (some ⟨ba, oa, none⟩) ps.length c, .slice b ws.length d] 32)
    rw [hs0, ← hV] at this; exact this
  have y0 : W0.cell? ⟨w.heap.size, 0, none⟩ = some (.slice (some ⟨ba, oa, none⟩) ps.length c) := by rw [hW0]; simp [go_sem]
  have y1 : W0.cell? ⟨w.heap.size, 1, none⟩ = some (.slice b ws.length d) := by rw [hW0]; simp [go_sem]
  have HST := hide (blocks_stops (3 - 1) (by decide) (w.heap.size + 1 + 1) w.heap.size ba oa b ps ws c d V bN (hp.below hbV) (hw.below hbV) hok hcap)
  have HBO := hide (blocksOf_any (some ⟨ba, oa, none⟩) b ps.length ws.length c d W0)
  rw [← hV, hs0] at HBO
  have HP := hide hp
  have HL := hide hok.1
  have hl60 : ps.length ≤ 60 := by have := hok.1; omega
  clear hp hw hok
  refine (callsIn_wide (n := 3)).1 ?_
  refine callsIn_of_wp_marks Tryz.func111 rfl trivial ?_ rfl
  simp only [Tryz.ntmps111, List.size_toArray, List.length_cons, List.length_nil, Nat.reduceAdd, Nat.reduceSub, Array.replicate_succ, Array.replicate_zero, List.push_toArray, List.append_toArray, List.nil_append, List.cons_append]
  gi_wp2_with (first | (rw [← hW0]; clear hW0) | (refine ⟨trivial, ?_⟩; gi_at_call 117; refine (callsIn_wide.2 HBO.out).mono ?_; rintro e u ⟨rfl, hu⟩; have hu' := hu.symm; subst hu') | (gi_at_call 117; refine (callsIn_wide.2 HBO.out).mono ?_; rintro e u ⟨rfl, hu⟩; have hu' := hu.symm; subst hu'))
  rw [← hV]
  clear hV HBO hu y0 y1
  refine wpIn_rangeFunc_ownG (F := Fence.wide) (n := 3) rfl (by decide) (gf := 135) (lb := #[.pointer (some ⟨w.heap.size + 1 + 1, 0, none⟩)]) rfl trivial (enters_of Tryz.func135 (by kernel_rfl) rfl)
    HST.out kpB_t (kpB_b (by omega) (by omega)) (Below.refl _ _) (fun _ => rfl)
    (FreeI ps w (w.heap.size + 1) (w.heap.size + 1 + 1) (.slice (some ⟨ba, oa, none⟩) ps.length c) (.slice b ws.length d)) (fun _ _ _ => False)
    (freeI_own ps w _ _ _ _ _ (by omega)) (fun _ _ _ _ _ hs _ _ => hs)
    ⟨⟨⟨_, bF, World.ownsRow_nil _ _ _ _, trivial⟩, bN⟩, hbV⟩
    (fun x => { tmps := #[.agg #[.slice (some ⟨ba, oa, none⟩) ps.length c, .slice b ws.length d], .pointer (some ⟨w.heap.size, 0, none⟩), .slice none 0 0, .pointer (some ⟨w.heap.size + 1, 0, none⟩), .int .i64 ((x.val : Nat) : Int), .slice (some ⟨ba, oa + x.val * 6, none⟩) 6 (c - x.val * 6), .agg #[.slice (some ⟨ba, oa, none⟩) ps.length c, .slice b ws.length d], .func (.func 135) #[] #[.pointer (some ⟨w.heap.size + 1 + 1, 0, none⟩)], .int .i64 ((x.val : Nat) : Int), .slice (some ⟨ba, oa + x.val * 6, none⟩) 6 (c - x.val * 6), undef, undef, undef, undef, undef, undef, undef], defers := [] }) ?assign ?body ?done ?stop
  case assign =>
    intro l x W K hK
    simp only [encB]
    gi_wp2
    exact hK
  case body =>
    rintro l pre x W ⟨⟨⟨v, hv, hrow, -⟩, hbn⟩, hB⟩ hlt
    have hc := hv.cell
    have hpl := freeL_len ps pre
    have HAC := hide (allClear_any (some ⟨ba, oa + x.val * 6, none⟩) (pagesOf ps x.val) (c - x.val * 6) W (rd_pages x.val (HP.out.below hB)) (by rw [pagesOf_len HL.out x.isLt]; decide))
    rw [pagesOf_len HL.out x.isLt] at HAC
    have hx10 := x.isLt
    have HBN := hide hbn
    clear bF bN HST hbn
    cases hcl : allClrB (pagesOf ps x.val) with
    | true =>
      rw [hcl] at HAC
      have HE := hide (freeL_hit pre hcl)
      clear hcl
      gi_wp2_with (first
        | (refine ⟨trivial, ?_⟩; gi_at_call 118; refine (CallsIn.inRound l (callsIn_wide.2 HAC.out)).mono ?_; rintro e u ⟨rfl, hu⟩; have hu' := hu.symm; subst hu'; clear HAC)
        | (gi_at_call 118; refine (CallsIn.inRound l (callsIn_wide.2 HAC.out)).mono ?_; rintro e u ⟨rfl, hu⟩; have hu' := hu.symm; subst hu'; clear HAC)
        | (gi_at_builtin; refine wpListIn_append_own _ rfl _ _ 23 rfl w.heap.size 3 i0 (.int .i64 0) 1 8 Tryz.underlying23 hi hz0 hz1 hz2 rfl (by decide) _ _ _ rfl (hrow.alloc _) ⟨W.heap.size, 0, none⟩ 1 1 [.int .i64 ((x.val : Nat) : Int)] rfl rfl (cell_one_new _ _ _) (by simp [Value.oneCell']) (by unfold maxLen; omega) (by omega) (by have := hB.size; simp; omega) ?_; intro v' w1 hown' hgrow _; obtain ⟨g', cap', rfl⟩ := ownsRow_succ hown'; obtain ⟨hv1, hv2, hr2, hk2, hb2⟩ := hv.appended (by decide) hrow hB.size (by omega) hown' hgrow; have hc1 := hv1.cell; have hf1 := hv1.frozen))
      have hbk := bn_kept (Bf := w.heap.size + 1) (v' := .slice (some ⟨g', 0, none⟩) ((freeL ps pre).length + 1) cap') HBN.out (by decide) hrow hgrow (by omega)
      exact ⟨hk2.from _, ⟨hb2, hbk⟩, ⟨⟨_, hv2, by rw [HE.out]; simpa using hr2, trivial⟩, hbk.trans HBN.out⟩, hB.trans hb2⟩
    | false =>
      rw [hcl] at HAC
      have HE := hide (freeL_miss pre hcl)
      clear hcl
      gi_wp2_with (first
        | (refine ⟨trivial, ?_⟩; gi_at_call 118; refine (CallsIn.inRound l (callsIn_wide.2 HAC.out)).mono ?_; rintro e u ⟨rfl, hu⟩; have hu' := hu.symm; subst hu'; clear HAC)
        | (gi_at_call 118; refine (CallsIn.inRound l (callsIn_wide.2 HAC.out)).mono ?_; rintro e u ⟨rfl, hu⟩; have hu' := hu.symm; subst hu'; clear HAC))
      exact ⟨KeepsFrom.refl _ _, KpB.refl _ _ _, ⟨⟨v, hv, by rw [HE.out]; exact hrow, trivial⟩, HBN.out⟩, hB⟩
  case done =>
    rintro D ys W hD rfl ⟨⟨⟨v, hv, hrow, -⟩, hbn⟩, hB⟩ hK
    have hc := hv.cell
    rw [freeL_blk HL.out 10 (Nat.le_refl _)] at hrow
    clear bF bN HST
    gi_wp2
    refine ⟨by simp, .inl ⟨_, _, rfl, run_takeDeferred hK, ?_⟩⟩
    exact ⟨_, results_tmp rfl _ _ _, v, rfl, ownsRow_putObj hrow _ hK rfl, hB.trans (belowK_b (w := w) (Nat.le_refl _) W D _ _ (by omega) hK rfl rfl)⟩
  case stop =>
    rintro D c pre W _ _ h _
    exact h.elim

set_option maxRecDepth 100000 in
set_option maxHeartbeats 6000000 in
theorem implFree_bad (a b : Option Addr) (ps : List ByteArray) (ws : List Int) (c d : Nat) (w : World) (hp : Rd w a (vsString ps)) (hw : Rd w b (vsInt ws)) (hl : ps.length ≤ 1048576) (hm : ws.length ≤ 1048576) (hs : ∀ s ∈ ps, s.size ≤ 1048576) (hok : ¬ chipOkP ps ws) :
    Calls Tryz.prog 111 #[.agg #[.slice a ps.length c, .slice b ws.length d]] w fun e w' => ∃ v, e = .returned v ∧ IntsOwn w' w.heap.size v [] ∧ Below w.heap.size w w' := by
  obtain ⟨W0, hW0⟩ : ∃ W0, W0 = (w.alloc (Obj.cells #[.slice a ps.length c, .slice b ws.length d] 32)).alloc (Obj.cells #[.slice none 0 0] 23) := ⟨_, rfl⟩
  obtain ⟨V, hV⟩ : ∃ V, V = W0.alloc (Obj.cells #[.slice a ps.length c, .slice b ws.length d] 32) := ⟨_, rfl⟩
  have hs0 : W0.heap.size = w.heap.size + 1 + 1 := by rw [hW0]; simp
  have hsV : V.heap.size = w.heap.size + 1 + 1 + 1 := by rw [hV]; simp [hs0]
  have hb0 : Below w.heap.size w W0 := by rw [hW0]; exact ((Below.refl _ _).alloc (Nat.le_refl _) _).alloc (by simp) _
  have hbV : Below w.heap.size w V := by rw [hV]; exact hb0.alloc hb0.size _
  have bF : Boxed V (w.heap.size + 1) 23 (.slice none 0 0) := by
    have := Boxed.new (w.alloc (Obj.cells #[.slice a ps.length c, .slice b ws.length d] 32)) 23 (.slice none 0 0)
    rw [World.size_alloc, ← hW0] at this
    rw [hV]; exact this.alloc _
  have bN : V.heap[w.heap.size + 1 + 1]? = some (.cells #[.slice a ps.length c, .slice b ws.length d] 32 (0, 0)) := by
    have := World.alloc_heap_new W0 (Obj.cells #[.slice a ps.length c, .slice b ws.length d] 32)
    rw [hs0, ← hV] at this; exact this
  have y0 : W0.cell? ⟨w.heap.size, 0, none⟩ = some (.slice a ps.length c) := by rw [hW0]; simp [go_sem]
  have y1 : W0.cell? ⟨w.heap.size, 1, none⟩ = some (.slice b ws.length d) := by rw [hW0]; simp [go_sem]
  have HST := hide (blocks_none (3 - 1) (by decide) (w.heap.size + 1 + 1) w.heap.size 0 0 a b ps ws c d V bN (hp.below hbV) (hw.below hbV) hl hm hs hok)
  have HBO := hide (blocksOf_any a b ps.length ws.length c d W0)
  rw [← hV, hs0] at HBO
  clear hp hw hok hs
  refine (callsIn_wide (n := 3)).1 ?_
  refine callsIn_of_wp_marks Tryz.func111 rfl trivial ?_ rfl
  simp only [Tryz.ntmps111, List.size_toArray, List.length_cons, List.length_nil, Nat.reduceAdd, Nat.reduceSub, Array.replicate_succ, Array.replicate_zero, List.push_toArray, List.append_toArray, List.nil_append, List.cons_append]
  gi_wp2_with (first | (rw [← hW0]; clear hW0) | (refine ⟨trivial, ?_⟩; gi_at_call 117; refine (callsIn_wide.2 HBO.out).mono ?_; rintro e u ⟨rfl, hu⟩; have hu' := hu.symm; subst hu') | (gi_at_call 117; refine (callsIn_wide.2 HBO.out).mono ?_; rintro e u ⟨rfl, hu⟩; have hu' := hu.symm; subst hu'))
  rw [← hV]
  clear hV HBO hu y0 y1
  refine wpIn_rangeFunc_ownG (F := Fence.wide) (n := 3) rfl (by decide) (gf := 135) (lb := #[.pointer (some ⟨w.heap.size + 1 + 1, 0, none⟩)]) rfl trivial (enters_of Tryz.func135 (by kernel_rfl) rfl)
    HST.out kpB_t (kpB_b (by omega) (by omega)) (Below.refl _ _) (fun _ => rfl)
    (FreeI ps w (w.heap.size + 1) (w.heap.size + 1 + 1) (.slice a ps.length c) (.slice b ws.length d)) (fun _ _ _ => False)
    (freeI_own ps w _ _ _ _ _ (by omega)) (fun _ _ _ _ _ hs _ _ => hs)
    ⟨⟨⟨_, bF, World.ownsRow_nil _ _ _ _, trivial⟩, bN⟩, hbV⟩
    (fun x => { tmps := #[.agg #[.slice a ps.length c, .slice b ws.length d], .pointer (some ⟨w.heap.size, 0, none⟩), .slice none 0 0, .pointer (some ⟨w.heap.size + 1, 0, none⟩), .int .i64 ((x.val : Nat) : Int), .slice (some ⟨0, 0 + x.val * 6, none⟩) 6 (c - x.val * 6), .agg #[.slice a ps.length c, .slice b ws.length d], .func (.func 135) #[] #[.pointer (some ⟨w.heap.size + 1 + 1, 0, none⟩)], .int .i64 ((x.val : Nat) : Int), .slice (some ⟨0, 0 + x.val * 6, none⟩) 6 (c - x.val * 6), undef, undef, undef, undef, undef, undef, undef], defers := [] }) ?assign ?body ?done ?stop
  case assign =>
    intro l x W K hK
    simp only [encB]
    gi_wp2
    simpa using hK
  case body =>
    intro l pre x W _ hlt
    exact absurd hlt (by omega)
  case done =>
    rintro D ys W hD rfl ⟨⟨⟨v, hv, hrow, -⟩, hbn⟩, hB⟩ hK
    have hc := hv.cell
    clear bF bN HST
    gi_wp2
    refine ⟨by simp, .inl ⟨_, _, rfl, run_takeDeferred hK, ?_⟩⟩
    exact ⟨_, results_tmp rfl _ _ _, v, rfl, ownsRow_putObj hrow _ hK rfl, hB.trans (belowK_b (w := w) (Nat.le_refl _) W D _ _ (by omega) hK rfl rfl)⟩
  case stop =>
    rintro D c pre W _ _ h _
    exact h.elim

end Go.Proofs.YtdicjbabnknjhaaGreat
