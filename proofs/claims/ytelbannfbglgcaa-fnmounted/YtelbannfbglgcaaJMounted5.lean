/-
  Rows of bytes of the call's own: appended to one another, made into a text.
  Contracts of the specification's records: RecOk, RecText.
  Contract of the specification's RecRead.
-/
import Derived.Test.YtelbannfbglgcaaJMounted2
import Derived.Laws.AppendOwnNone
import Derived.Test.YtelbannfbglgcaaJMounted3
import Derived.Deep.RegionHeldLaw
namespace Go.Proofs.Ytelbannfbglgcaa
open Go.RowKit

/-- 'append(out, more...)', both being rows of the call's own: the walk goes on with both behind one another; below 'base' nothing has turned. -/
theorem wpList_append_two {P : Program} {w : World} {ops : Array Oper} {rest : List Oper} {o : Oper} {a : Act} {Q : Exit → Act → World → Prop} (hgd : o.guard = none) (s x : Operand) (t : TypeId)
    (ho : o.op = .call { callee := .builtin .append, args := #[s, x], argTypes := #[t, t] })
    (base base' : Nat) (e : TypeId) (i : TypeInfo) (z : Value) (bytes : Nat) (ht : P.underlying t = some (.slice e)) (hi : P.info? e = some i) (hz : i.zero = some z)
    (hsize : i.size = 1) (hby : i.bytes = bytes) (hzs : z.cells.size = 1)
    (v : Value) (n : Nat) (xs : List Value) (hs : a.eval s = v) (hown : w.ownsRow base e 1 v n xs)
    (v2 : Value) (m : Nat) (news : List Value) (hx : a.eval x = v2) (hown2 : w.ownsRow base' e 1 v2 m news) (h1 : ∀ u ∈ news, u.oneCell' = true)
    (hbytes : (n + m) * bytes ≤ 140737488355328) (hn : n + m ≤ 140737488355328) (hbase : base ≤ w.heap.size)
    (h : ∀ v' w', w'.ownsRow base e 1 v' (n + m) (xs ++ news) → Below base w w' → wpList P ops Q rest (a.put o.dst v') w') : wpList P ops Q (o :: rest) a w := by
  rcases id hown2 with ⟨hl, ⟨rfl, rfl⟩ | ⟨g, cap, cur, rfl, -⟩⟩
  · have hnil : news = [] := List.eq_nil_of_length_eq_zero (by simpa using hl)
    subst hnil
    refine wpList_append_own_none hgd s x t ho base e i 1 ht hi v n xs hs hown hx ?_
    exact h v w (by simpa using hown) (Below.refl _ _)
  · refine wpList_append_own _ hgd s x t ho base e i z 1 bytes ht hi hz hsize hby hzs (by decide) v n xs hs hown ⟨g, 0, none⟩ m cap news hx hl (hown2.cells (g := g) rfl) h1 (by unfold maxLen; omega) hbytes hbase ?_
    intro v' w' h2 h3 _
    exact h v' w' h2 (grown_below hown h3 hbase)

theorem u8s_one (zs : List Int) : ∀ u ∈ u8s zs, u.oneCell' = true := ints_oneCell _ _
/-- The same as one step of a region that draws its order; what is appended is not empty. -/
theorem step_append_two {P : Program} {w : World} {ops : Array Oper} {o : Oper} {a : Act} {K : Act → World → Prop} {Q : Exit → Act → World → Prop} {E : Prop} (hgd : o.guard = none) (s x : Operand) (t : TypeId)
    (ho : o.op = .call { callee := .builtin .append, args := #[s, x], argTypes := #[t, t] })
    (base base' : Nat) (e : TypeId) (i : TypeInfo) (z : Value) (bytes : Nat) (ht : P.underlying t = some (.slice e)) (hi : P.info? e = some i) (hz : i.zero = some z)
    (hsize : i.size = 1) (hby : i.bytes = bytes) (hzs : z.cells.size = 1)
    (v : Value) (n : Nat) (xs : List Value) (hs : a.eval s = v) (hown : w.ownsRow base e 1 v n xs)
    (v2 : Value) (m : Nat) (news : List Value) (hx : a.eval x = v2) (hown2 : w.ownsRow base' e 1 v2 m news) (h1 : ∀ u ∈ news, u.oneCell' = true) (hm : 0 < m)
    (hbytes : (n + m) * bytes ≤ 140737488355328) (hn : n + m ≤ 140737488355328) (hbase : base ≤ w.heap.size)
    (h : ∀ v' w', w'.ownsRow base e 1 v' (n + m) (xs ++ news) → Below base w w' → K (a.put o.dst v') w') :
    if Region.wanted o (yielded ops a.tmps) = true then Oper.wp P o a w K Q else E := by
  have hw : Region.wanted o (yielded ops a.tmps) = true := by simp [Region.wanted, hgd]
  rw [if_pos hw]
  rcases id hown2 with ⟨hl, ⟨_, h0⟩ | ⟨g, cap, cur, rfl, -⟩⟩
  · omega
  · refine wp_append_own w s x t ho base e i z 1 bytes ht hi hz hsize hby hzs (by decide) v n xs hs hown ⟨g, 0, none⟩ m cap news hx hl (hown2.cells (g := g) rfl) h1 (by unfold maxLen; omega) hbytes hbase ?_
    intro v' w' h2 h3 _
    exact h v' w' h2 (grown_below hown h3 hbase)

/-- A row of bytes of the call's own as a text. -/
theorem conv_owned {w : World} {base : Nat} {a : Option Addr} {zs : List Int} {c : Nat} (hb : IsBytes zs) (h : w.ownsRow base 5 1 (.slice a zs.length c) zs.length (u8s zs)) :
    (convert 22 9 (.slice a zs.length c)).run Try.prog w = .ok (.string (strOf zs)) w := by
  rcases id h with ⟨_, ⟨he, h0⟩ | ⟨g, cap, cur, he, -⟩⟩
  · have : zs = [] := List.eq_nil_of_length_eq_zero h0
    subst this
    simp at he
    obtain ⟨rfl, rfl⟩ := he
    show (convert 22 9 (.slice none 0 0)).run Try.prog w = _
    rw [run_convert_bytes_string w 22 9 5 none 0 0 Try.underlying22 Try.underlying5 Try.underlying9]
    rfl
  · simp at he
    obtain ⟨rfl, rfl⟩ := he
    refine conv_bytes hb (fun i hi => ?_)
    rw [Nat.zero_add, h.cellAt i (by omega)]
    simp [hi]


end Go.Proofs.Ytelbannfbglgcaa

namespace Go.Proofs.Ytelbannfbglgcaa
open Go.RowKit

set_option maxRecDepth 100000 in
set_option maxHeartbeats 1600000 in
theorem specRecOk_any (s q : Int) (d : ByteArray) (w : World) (hd : d.size ≤ maxLen) :
    Calls Try.prog 128 #[.agg #[.int .i64 s, .int .i64 q, .string d]] w fun e w' => e = .returned (.bool (recOkB s q d)) ∧ Below w.heap.size w w' := by
  unfold maxLen at hd
  obtain ⟨W, hW⟩ : ∃ W, W = w.alloc (Obj.cells #[.int .i64 s, .int .i64 q, .string d] 50) := ⟨_, rfl⟩
  have hbW : Below w.heap.size w W := by subst hW; exact (Below.refl _ _).alloc (Nat.le_refl _) _
  have c1 : W.cell? ⟨w.heap.size, 1, none⟩ = some (.int .i64 q) := by subst hW; simp
  have c2 : W.cell? ⟨w.heap.size, 2, none⟩ = some (.string d) := by subst hW; simp
  obtain ⟨B1, hB1⟩ : ∃ B, B = decide (0 ≤ s ∧ s ≤ 25) := ⟨_, rfl⟩
  obtain ⟨B2, hB2⟩ : ∃ B, B = decide (1 ≤ q ∧ q ≤ 1000000000) := ⟨_, rfl⟩
  have HR : Hid (recOkB s q d = (B1 && B2 && decide (d.size ≤ 400))) := by rw [hB1, hB2]; rfl
  go_enter Try.func128, Try.ntmps128
  go_wp2_with fail
  rw [← hW]
  clear hW
  refine (in_any _ _ _ _).mono ?_
  rw [← hB1]
  clear hB1
  rintro e u ⟨rfl, hu⟩
  have hu' := hu.symm
  subst hu'
  cases B1 with
  | false =>
    go_wp2
    go_ret
    exact ⟨ret_bool (by rw [HR.out]; rfl), hbW⟩
  | true =>
    go_wp2_with fail
    refine (in_any _ _ _ _).mono ?_
    rw [← hB2]
    clear hB2
    rintro e u ⟨rfl, hu⟩
    have hu' := hu.symm
    subst hu'
    cases B2 with
    | false =>
      go_wp2
      go_ret
      exact ⟨ret_bool (by rw [HR.out]; rfl), hbW⟩
    | true =>
      by_cases h4 : (d.size : Int) ≤ 400
      · have hd4 : Hid (decide (d.size ≤ 400) = true) := by show _ = _; simp; omega
        go_wp2
        go_ret
        exact ⟨ret_bool (by rw [HR.out, hd4.out]; rfl), hbW⟩
      · have hd4 : Hid (decide (d.size ≤ 400) = false) := by show _ = _; simp; omega
        go_wp2
        go_ret
        exact ⟨ret_bool (by rw [HR.out, hd4.out]; simp; omega), hbW⟩

theorem putB_pos {x : Int} (h0 : 0 ≤ x) (h1 : x ≤ 1000000000) : 0 < (putB x).length := by
  unfold putB
  rw [if_pos ⟨h0, h1⟩]
  exact (numF_len 4 x).1
theorem u8s_app (a b : List Int) : u8s a ++ u8s b = u8s (a ++ b) := by simp [u8s]

set_option maxRecDepth 100000 in
set_option maxHeartbeats 3200000 in
theorem specRecText_any (s q : Int) (d : ByteArray) (w : World) (hd : d.size ≤ maxLen) (hs0 : -9223372036854775808 ≤ s) (hs1 : s ≤ 9223372036854775807) (hq0 : -9223372036854775808 ≤ q) (hq1 : q ≤ 9223372036854775807) :
    Calls Try.prog 110 #[.agg #[.int .i64 s, .int .i64 q, .string d]] w fun e w' => e = .returned (.string (recT s q d)) ∧ Below w.heap.size w w' := by
  obtain ⟨W, hW⟩ : ∃ W, W = w.alloc (Obj.cells #[.int .i64 s, .int .i64 q, .string d] 50) := ⟨_, rfl⟩
  have hbW : Below w.heap.size w W := by subst hW; exact (Below.refl _ _).alloc (Nat.le_refl _) _
  have cW : W.cell? ⟨w.heap.size, 0, none⟩ = some (.int .i64 s) ∧ W.cell? ⟨w.heap.size, 1, none⟩ = some (.int .i64 q) ∧ W.cell? ⟨w.heap.size, 2, none⟩ = some (.string d) := by
    subst hW; refine ⟨?_, ?_, ?_⟩ <;> simp
  have hsW : w.heap.size < W.heap.size := by subst hW; simp
  obtain ⟨R, hR⟩ : ∃ R, R = recT s q d := ⟨_, rfl⟩
  rw [← hR]
  go_enter Try.func110, Try.ntmps110
  go_wp2_with fail
  rw [← hW]
  clear hW
  refine (specRecOk_any s q d W hd).mono ?_
  rintro e w1 ⟨rfl, hb1⟩
  have hbw1 := after hbW hb1
  have hs1' := hb1.size
  cases hok : recOkB s q d with
  | false =>
    have HR : Hid (R = ByteArray.empty) := by show _ = _; rw [hR, recT, recB, hok]; rfl
    clear hR hok hb1 hbW cW
    go_wp2
    go_ret
    exact ⟨by rw [HR.out]; rfl, hbw1⟩
  | true =>
    obtain ⟨⟨a0, a1⟩, ⟨b0, b1⟩, d4⟩ := recOkB_iff.1 hok
    have HR : Hid (R = strOf (putB (sumOf (restB s q d)) ++ restB s q d)) := by show _ = _; rw [hR, recT, recB, if_pos hok]
    have HC : Hid (∀ u, Below w1.heap.size w1 u → u.cell? ⟨w.heap.size, 0, none⟩ = some (.int .i64 s) ∧ u.cell? ⟨w.heap.size, 1, none⟩ = some (.int .i64 q) ∧ u.cell? ⟨w.heap.size, 2, none⟩ = some (.string d)) := by
      intro u hu
      have h := after hb1 hu
      exact ⟨(h.cell (p := ⟨w.heap.size, 0, none⟩) (by show _ < _; exact hsW)).trans cW.1, (h.cell (p := ⟨w.heap.size, 1, none⟩) (by show _ < _; exact hsW)).trans cW.2.1, (h.cell (p := ⟨w.heap.size, 2, none⟩) (by show _ < _; exact hsW)).trans cW.2.2⟩
    obtain ⟨i0, hi, hz0, hz1, hz2⟩ := info_parts info5
    have hdr : Below w1.heap.size w1 w1.drew := after_drew (Below.refl _ _) 1
    obtain ⟨c0, c1, c2⟩ := HC.out w1 (Below.refl _ _)
    have hps := putB_len s
    have hpq := putB_len q
    have hpd := textB_len d
    have hpp := putB_pos (x := q) (by omega) b1
    have HD := hide d4
    obtain ⟨L, hL⟩ : ∃ L, L = putB s ++ putB q := ⟨_, rfl⟩
    have HLQ := hide hL
    have hLl : L.length ≤ 10 := by rw [hL]; simp; omega
    obtain ⟨T, hT⟩ : ∃ T, T = L ++ textB d := ⟨_, rfl⟩
    have HTQ := hide hT
    have hTl : T.length ≤ 415 := by rw [hT]; simp; omega
    have HTR : Hid (T = restB s q d) := by show _ = _; rw [hT, hL]; rfl
    have hTb : IsBytes T := by rw [HTR.out]; exact restB_bytes s q d
    have hsum := sumOf_bd T
    obtain ⟨Z, hZ⟩ : ∃ Z, Z = sumOf T := ⟨_, rfl⟩
    rw [← hZ] at hsum
    have HZ := hide hZ
    have hpz := putB_len Z
    obtain ⟨F, hF⟩ : ∃ F, F = putB Z ++ T := ⟨_, rfl⟩
    have HFQ := hide hF
    have hFb : IsBytes F := by rw [hF]; exact (putB_bytes Z).app hTb
    have hFl : F.length ≤ 420 := by rw [hF]; simp; omega
    have HRF : Hid (R = strOf F) := by show _ = _; rw [HR.out, hF, hZ, HTR.out]
    have HTB := hide hTb
    have HFB := hide hFb
    clear hL hT hZ hF hTb hFb HR
    clear hR hok hb1 hbW cW d4
    go_wp2_with fail
    go_region_held_law (fun w' => w'.cell? ⟨w.heap.size, 0, none⟩ = some (.int .i64 s) ∧ w'.cell? ⟨w.heap.size, 1, none⟩ = some (.int .i64 q) ∧ w'.cell? ⟨w.heap.size, 2, none⟩ = some (.string d))
      (first | assumption | go_keep)
      ((first
        | (refine step_append_two rfl (.tmp 9) (.tmp 12) 22 rfl w1.heap.size w2.heap.size 5 i0 (.int .u8 0) 1 Try.underlying22 hi hz0 hz1 hz2 rfl _ _ _ (by rfl) HO2'.out _ _ _ (by rfl) HO3.out (u8s_one _) hpp (by omega) (by omega) HS3.out.size ?_; intro v4 w4 ho4 hb4; have HS4 : Hid (Below w1.heap.size w1 w4) := HS3.out.trans hb4; have hS4 := HC.out w4 HS4.out; rw [u8s_app, ← List.length_append, ← HLQ.out] at ho4; obtain ⟨a4, k4, hv4, -⟩ := owns_open ho4; subst hv4; have HO4 := hide ho4; clear ho4 hb4)
        | (go_at_call_of 129 (Value.int IntKind.i64 s); refine (specPutNum_any s _ hs0 hs1).mono ?_; rintro e w2 ⟨v2, rfl, ho2, hb2⟩; obtain ⟨a2, k2, hv2, -⟩ := owns_open ho2; subst hv2; have HS2 : Hid (Below w1.heap.size w1 w2) := after hdr hb2; have hS2 := HC.out w2 HS2.out; have HO2 := hide ho2; clear ho2 hb2)
        | (go_at_call_of 129 (Value.int IntKind.i64 q); refine (specPutNum_any q _ hq0 hq1).mono ?_; rintro e w3 ⟨v3, rfl, ho3, hb3⟩; obtain ⟨a3, k3, hv3, -⟩ := owns_open ho3; subst hv3; have HS3 : Hid (Below w1.heap.size w1 w3) := after HS2.out hb3; have hS3 := HC.out w3 HS3.out; have HO2' := hide (owns_below HO2.out hb3); have HO3 := hide ho3; clear ho3 hb3)))
    have hbw4 := after hbw1 HS4.out
    have hs4 : w1.heap.size ≤ w4.heap.size := HS4.out.size
    obtain ⟨-, -, e2⟩ := id hS4
    clear c0 c1 c2 hS2 hS3 hS4 HC HO2 HO2' HO3 HS2 HS3 hdr
    go_wp2_with fail
    refine (specPutText_any d w4 hd).mono ?_
    rintro e w5 ⟨v5, rfl, ho5, hb5⟩
    obtain ⟨a5, k5, rfl, -⟩ := owns_open ho5
    have HO4' := hide (owns_below HO4.out hb5)
    have HO5 := hide ho5
    have hs5 := hb5.size
    have hbw5 := after hbw4 hb5
    clear ho5 hb5 HO4
    go_wp2_with (at_builtin; refine wpList_append_two rfl (.tmp 14) (.tmp 17) 22 rfl w1.heap.size w4.heap.size 5 i0 (.int .u8 0) 1 Try.underlying22 hi hz0 hz1 hz2 rfl _ _ _ rfl HO4'.out _ _ _ rfl HO5.out (u8s_one _) (by omega) (by omega) (by omega) ?_; intro v6 w6 ho6 hb6; rw [u8s_app, ← List.length_append, ← HTQ.out] at ho6; obtain ⟨a6, k6, hv6, hr6⟩ := owns_open ho6; subst hv6; have HO6 := hide ho6; have HR6 := hide hr6; clear ho6 hr6)
    have hbw6 : Below w.heap.size w w6 := hbw5.trans (hb6.mono (by have := hbw1.size; omega))
    have hs6 := hb6.size
    clear hb6 HO4' HO5
    refine (specSum_any a6 T k6 w6 HR6.out HTB.out (by unfold maxLen; omega)).mono ?_
    rw [← HZ.out]
    rintro e u ⟨rfl, hu⟩
    have hu' := hu.symm
    subst hu'
    go_wp2_with fail
    refine (specPutNum_any Z w6 (by omega) (by omega)).mono ?_
    rintro e w7 ⟨v7, rfl, ho7, hb7⟩
    obtain ⟨a7, k7, rfl, -⟩ := owns_open ho7
    have HO6' := hide (owns_below HO6.out hb7)
    have HO7 := hide ho7
    have hs7 := hb7.size
    have hbw7 := after hbw6 hb7
    clear ho7 hb7 HO6 HR6
    go_wp2_with (at_builtin; refine wpList_append_two rfl (.tmp 21) (.tmp 22) 22 rfl w6.heap.size w1.heap.size 5 i0 (.int .u8 0) 1 Try.underlying22 hi hz0 hz1 hz2 rfl _ _ _ rfl HO7.out _ _ _ rfl HO6'.out (u8s_one _) (by omega) (by omega) (by omega) ?_; intro v8 w8 ho8 hb8; rw [u8s_app, ← List.length_append, ← HFQ.out] at ho8; obtain ⟨a8, k8, hv8, -⟩ := owns_open ho8; subst hv8; have hcv := conv_owned HFB.out ho8; clear ho8)
    go_ret
    exact ⟨by rw [HRF.out]; rfl, hbw7.trans (hb8.mono hbw6.size)⟩

end Go.Proofs.Ytelbannfbglgcaa

namespace Go.Proofs.Ytelbannfbglgcaa
open Go.RowKit

/-- The bytes of a text, as '[]byte(s)' has laid them. -/
theorem rd_bytes (t : ByteArray) (w : World) (c : Nat) : Rd (w.alloc (Obj.cells (bytesRow t c) 5 ((bytesRow t c).size, (bytesRow t c).size + 1))).drew (some ⟨w.heap.size, 0, none⟩) (u8s (strB t)) := by
  refine .inr ⟨_, 0, rfl, fun i v hv => ?_⟩
  rw [strB_cells] at hv
  have := bytes_lie t w c i v hv
  rw [add_at] at this
  exact this

theorem text_inj {x y : ByteArray} (h : x.toList = y.toList) : x = y := by
  rw [ByteArray.toList_eq, ByteArray.toList_eq] at h
  cases x; cases y
  simpa using h
theorem getT_len {zs : List Int} {i : Int} {ys : List Int} {q : Nat} (h : getT zs i = some (ys, q)) : ys.length ≤ 400 := by
  unfold getT at h
  cases hg : getN zs i with
  | none => rw [hg] at h; simp at h
  | some r =>
    obtain ⟨n, j⟩ := r
    rw [hg] at h
    simp only [] at h
    by_cases hc : 400 < n ∨ (zs.length : Int) - j < n
    · rw [if_pos hc] at h; simp at h
    · rw [if_neg hc] at h
      simp only [Option.some.injEq, Prod.mk.injEq] at h
      obtain ⟨rfl, rfl⟩ := h
      simp; omega

set_option maxRecDepth 100000 in
set_option maxHeartbeats 6400000 in
theorem specRecRead_any (t : ByteArray) (w : World) (ht : t.size ≤ 1048576) :
    Calls Try.prog 75 #[.string t] w fun e w' => (∀ s q d, recR t = some (s, q, d) → e = .returned (.tuple #[.agg #[.int .i64 s, .int .i64 q, .string d], .bool true])) ∧
      (recR t = none → e = .returned (.tuple #[.agg #[.int .i64 0, .int .i64 0, .string ByteArray.empty], .bool false])) ∧ Below w.heap.size w w' := by
  have hcv := fun w => run_bytes_of_string (P := Try.prog) w 9 22 5 t Try.underlying9 Try.underlying22 Try.underlying5
  obtain ⟨A, hA⟩ : ∃ A, A = w.alloc (Obj.cells #[.int .i64 0, .int .i64 0, .string ⟨#[]⟩] 50) := ⟨_, rfl⟩
  have hsA : A.heap.size = w.heap.size + 1 := by rw [hA]; simp
  obtain ⟨C, hC⟩ : ∃ C, C = grownCap A t.size 0 5 := ⟨_, rfl⟩
  have hcap : t.size ≤ C := by rw [hC]; exact grownCap_ge _ _ _ _
  obtain ⟨X, hX⟩ : ∃ X, X = Obj.cells (bytesRow t C) 5 ((bytesRow t C).size, (bytesRow t C).size + 1) := ⟨_, rfl⟩
  obtain ⟨W, hW⟩ : ∃ W, W = ((A.alloc X).alloc (Obj.cells #[.int .i64 0, .int .i64 0, .string ⟨#[]⟩] 50)).drew := ⟨_, rfl⟩
  have hbA : Below w.heap.size w A := by rw [hA]; exact (Below.refl _ _).alloc (Nat.le_refl _) _
  have hbX : Below A.heap.size A (A.alloc X).drew := after_drew ((Below.refl _ _).alloc (Nat.le_refl _) _) 1
  have hbZ : Below (A.alloc X).drew.heap.size (A.alloc X).drew W := by rw [hW]; exact ((Below.refl _ _).alloc (Nat.le_refl _) _)
  have hbW : Below w.heap.size w W := after (after hbA hbX) hbZ
  have hrd : Rd W (some ⟨w.heap.size + 1, 0, none⟩) (u8s (strB t)) := by
    have := (rd_bytes t A C)
    rw [← hX, hsA] at this
    exact this.below hbZ
  have cA : A.cell? ⟨w.heap.size, 0, none⟩ = some (.int .i64 0) ∧ A.cell? ⟨w.heap.size, 1, none⟩ = some (.int .i64 0) ∧ A.cell? ⟨w.heap.size, 2, none⟩ = some (.string ⟨#[]⟩) ∧ ∀ j, A.frozen? ⟨w.heap.size, j, none⟩ = false := by
    rw [hA]; refine ⟨?_, ?_, ?_, fun j => ?_⟩ <;> simp
  have hbAW := after hbX hbZ
  have hltA : w.heap.size < A.heap.size := by omega
  have c0 := (hbAW.cell (p := ⟨w.heap.size, 0, none⟩) hltA).trans cA.1
  have c1 := (hbAW.cell (p := ⟨w.heap.size, 1, none⟩) hltA).trans cA.2.1
  have c2 := (hbAW.cell (p := ⟨w.heap.size, 2, none⟩) hltA).trans cA.2.2.1
  have f0 := (hbAW.frozen (p := ⟨w.heap.size, 0, none⟩) hltA).trans (cA.2.2.2 0)
  have f1 := (hbAW.frozen (p := ⟨w.heap.size, 1, none⟩) hltA).trans (cA.2.2.2 1)
  have f2 := (hbAW.frozen (p := ⟨w.heap.size, 2, none⟩) hltA).trans (cA.2.2.2 2)
  have dW : W.cell? ⟨w.heap.size + 1 + 1, 0, none⟩ = some (.int .i64 0) ∧ W.cell? ⟨w.heap.size + 1 + 1, 1, none⟩ = some (.int .i64 0) ∧ W.cell? ⟨w.heap.size + 1 + 1, 2, none⟩ = some (.string ⟨#[]⟩) ∧ (∀ j, W.frozen? ⟨w.heap.size + 1 + 1, j, none⟩ = false) ∧ w.heap.size + 1 + 1 < W.heap.size := by
    have e : w.heap.size + 1 + 1 = (A.alloc X).heap.size := by simp [hsA]
    rw [hW, e]
    refine ⟨?_, ?_, ?_, fun j => ?_, ?_⟩
    · show ((A.alloc X).alloc _).cell? _ = _; simp
    · show ((A.alloc X).alloc _).cell? _ = _; simp
    · show ((A.alloc X).alloc _).cell? _ = _; simp
    · show ((A.alloc X).alloc _).frozen? _ = _; simp
    · show _ < ((A.alloc X).alloc _).heap.size; simp
  obtain ⟨d0, d1, d2, df, hsW⟩ := dW
  have g0 := df 0
  have g1 := df 1
  have g2 := df 2
  have GN : Hid (∀ i : Int, i ≤ 1048576 → Calls Try.prog 108 #[.slice (some ⟨w.heap.size + 1, 0, none⟩) t.size C, .int .i64 i] W fun e w' => (getN (strB t) i = none → e = .returned (.tuple #[.int .i64 0, .int .i64 0, .bool false])) ∧ (∀ n j, getN (strB t) i = some (n, j) → e = .returned (.tuple #[.int .i64 n, .int .i64 (j : Nat), .bool true])) ∧ w' = W) := by
    intro i hi
    have := specGetNum_any (some ⟨w.heap.size + 1, 0, none⟩) (strB t) C i W hrd (strB_bytes t) (by rw [strB_len]; exact ht) (by omega)
    rw [strB_len] at this
    exact this
  have GT : Hid (∀ i : Int, i ≤ 1048576 → Calls Try.prog 109 #[.slice (some ⟨w.heap.size + 1, 0, none⟩) t.size C, .int .i64 i] W fun e w' => (getT (strB t) i = none → e = .returned (.tuple #[.string ByteArray.empty, .int .i64 0, .bool false])) ∧ (∀ ys j, getT (strB t) i = some (ys, j) → e = .returned (.tuple #[.string (strOf ys), .int .i64 (j : Nat), .bool true])) ∧ w' = W) := by
    intro i hi
    have := specGetText_any (some ⟨w.heap.size + 1, 0, none⟩) (strB t) C i W hrd (strB_bytes t) (by rw [strB_len]; exact ht) (by rw [strB_len]; exact hcap) (by omega)
    rw [strB_len] at this
    exact this
  have hzl := strB_len t
  clear df cA hbA hbX hbZ hbAW hrd hsA hltA
  go_enter Try.func75, Try.ntmps75
  go_wp2_with fail
  rw [← hA]
  rw [← hC]
  rw [← hX]
  rw [← hW]
  clear hA hC hX hW hcv
  refine (GN.out 0 (by decide)).mono ?_
  rintro e u ⟨hno, hyes, hu⟩
  have hu' := hu.symm
  subst hu'
  cases hg0 : getN (strB t) 0 with
  | none =>
    obtain rfl := hno hg0
    have HN : Hid (recR t = none) := by show _ = _; unfold recR; simp [hg0]
    clear hno hyes hg0 GN GT
    go_wp2
    exact bodyPost_ret (v := .tuple #[.agg #[.int .i64 0, .int .i64 0, .string ⟨#[]⟩], .bool false]) (by simp [results, Try.results75, go_sem, c0, c1, c2]) rfl ⟨fun s q d h => (by rw [HN.out] at h; cases h), fun _ => rfl, ((hbW.setCell (by show _ ≤ _; simp) _).setCell (by show _ ≤ _; simp) _).setCell (by show _ ≤ _; simp) _⟩
  | some r0 =>
    obtain ⟨x0, i0⟩ := r0
    obtain rfl := hyes x0 i0 hg0
    have b0 := getN_bd (strB_bytes t) hg0
    have H0 := hide hg0
    clear hno hyes hg0
    go_wp2_with fail
    refine (GN.out (i0 : Int) (by omega)).mono ?_
    rintro e u ⟨hno, hyes, hu⟩
    have hu' := hu.symm
    subst hu'
    cases hg1 : getN (strB t) (i0 : Int) with
    | none =>
      obtain rfl := hno hg1
      have HN : Hid (recR t = none) := by show _ = _; unfold recR; simp [H0.out, hg1]
      clear hno hyes hg1 GN GT
      go_wp2
      exact bodyPost_ret (v := .tuple #[.agg #[.int .i64 0, .int .i64 0, .string ⟨#[]⟩], .bool false]) (by simp [results, Try.results75, go_sem, c0, c1, c2]) rfl ⟨fun s q d h => (by rw [HN.out] at h; cases h), fun _ => rfl, ((hbW.setCell (by show _ ≤ _; simp) _).setCell (by show _ ≤ _; simp) _).setCell (by show _ ≤ _; simp) _⟩
    | some r1 =>
      obtain ⟨x1, i1⟩ := r1
      obtain rfl := hyes x1 i1 hg1
      have b1 := getN_bd (strB_bytes t) hg1
      have H1 := hide hg1
      clear hno hyes hg1
      go_wp2_with fail
      refine (GN.out (i1 : Int) (by omega)).mono ?_
      rintro e u ⟨hno, hyes, hu⟩
      have hu' := hu.symm
      subst hu'
      cases hg2 : getN (strB t) (i1 : Int) with
      | none =>
        obtain rfl := hno hg2
        have HN : Hid (recR t = none) := by show _ = _; unfold recR; simp [H0.out, H1.out, hg2]
        clear hno hyes hg2 GN GT
        go_wp2
        exact bodyPost_ret (v := .tuple #[.agg #[.int .i64 0, .int .i64 0, .string ⟨#[]⟩], .bool false]) (by simp [results, Try.results75, go_sem, c0, c1, c2]) rfl ⟨fun s q d h => (by rw [HN.out] at h; cases h), fun _ => rfl, ((hbW.setCell (by show _ ≤ _; simp) _).setCell (by show _ ≤ _; simp) _).setCell (by show _ ≤ _; simp) _⟩
      | some r2 =>
        obtain ⟨x2, i2⟩ := r2
        obtain rfl := hyes x2 i2 hg2
        have b2 := getN_bd (strB_bytes t) hg2
        have H2 := hide hg2
        clear hno hyes hg2
        go_wp2_with fail
        refine (GT.out (i2 : Int) (by omega)).mono ?_
        rintro e u ⟨hno, hyes, hu⟩
        have hu' := hu.symm
        subst hu'
        cases hg3 : getT (strB t) (i2 : Int) with
        | none =>
          obtain rfl := hno hg3
          have HN : Hid (recR t = none) := by show _ = _; unfold recR; simp [H0.out, H1.out, H2.out, hg3]
          clear hno hyes hg3 GN GT
          go_wp2
          exact bodyPost_ret (v := .tuple #[.agg #[.int .i64 0, .int .i64 0, .string ⟨#[]⟩], .bool false]) (by simp [results, Try.results75, go_sem, c0, c1, c2]) rfl ⟨fun s q d h => (by rw [HN.out] at h; cases h), fun _ => rfl, (((((hbW.setCell (by show _ ≤ _; simp; omega) _).setCell (by show _ ≤ _; simp; omega) _).setCell (by show _ ≤ _; simp; omega) _).setCell (by show _ ≤ _; simp) _).setCell (by show _ ≤ _; simp) _).setCell (by show _ ≤ _; simp) _⟩
        | some r3 =>
          obtain ⟨ys, i3⟩ := r3
          obtain rfl := hyes ys i3 hg3
          have H3 := hide hg3
          clear hno hyes hg3 GN GT
          have hyl : (strOf ys).size ≤ 1048576 := by
            rw [strOf_size]
            have h6 := getT_len H3.out
            omega
          obtain ⟨V, hV⟩ : ∃ V, V = ((W.setCell ⟨w.heap.size + 1 + 1, 0, none⟩ (.int .i64 x1)).setCell ⟨w.heap.size + 1 + 1, 1, none⟩ (.int .i64 x2)).setCell ⟨w.heap.size + 1 + 1, 2, none⟩ (.string (strOf ys)) := ⟨_, rfl⟩
          have hbV : Below w.heap.size w V := by rw [hV]; exact ((hbW.setCell (by show _ ≤ _; simp; omega) _).setCell (by show _ ≤ _; simp; omega) _).setCell (by show _ ≤ _; simp; omega) _
          have hsV : w.heap.size + 1 + 1 < V.heap.size := by rw [hV]; simpa [World.setCell] using hsW
          have cV : V.cell? ⟨w.heap.size, 0, none⟩ = some (.int .i64 0) ∧ V.cell? ⟨w.heap.size, 1, none⟩ = some (.int .i64 0) ∧ V.cell? ⟨w.heap.size, 2, none⟩ = some (.string ⟨#[]⟩) ∧ V.cell? ⟨w.heap.size + 1 + 1, 0, none⟩ = some (.int .i64 x1) ∧ V.cell? ⟨w.heap.size + 1 + 1, 1, none⟩ = some (.int .i64 x2) ∧ V.cell? ⟨w.heap.size + 1 + 1, 2, none⟩ = some (.string (strOf ys)) ∧
              V.frozen? ⟨w.heap.size, 0, none⟩ = false ∧ V.frozen? ⟨w.heap.size, 1, none⟩ = false ∧ V.frozen? ⟨w.heap.size, 2, none⟩ = false := by
            rw [hV]; refine ⟨?_, ?_, ?_, ?_, ?_, ?_, ?_, ?_, ?_⟩ <;> simp [go_sem, c0, c1, c2, d0, d1, d2, f0, f1, f2]
          go_wp2_with fail
          rw [← hV]
          clear hV c0 c1 c2 d0 d1 d2 f0 f1 f2 g0 g1 g2
          refine (specRecText_any x1 x2 (strOf ys) V (by unfold maxLen; omega) (by omega) (by omega) (by omega) (by omega)).mono ?_
          rintro e w1 ⟨rfl, hb1⟩
          have hl0 : w.heap.size < V.heap.size := by omega
          have c0 := (hb1.cell (p := ⟨w.heap.size, 0, none⟩) hl0).trans cV.1
          have c1 := (hb1.cell (p := ⟨w.heap.size, 1, none⟩) hl0).trans cV.2.1
          have c2 := (hb1.cell (p := ⟨w.heap.size, 2, none⟩) hl0).trans cV.2.2.1
          have d0 := (hb1.cell (p := ⟨w.heap.size + 1 + 1, 0, none⟩) hsV).trans cV.2.2.2.1
          have d1 := (hb1.cell (p := ⟨w.heap.size + 1 + 1, 1, none⟩) hsV).trans cV.2.2.2.2.1
          have d2 := (hb1.cell (p := ⟨w.heap.size + 1 + 1, 2, none⟩) hsV).trans cV.2.2.2.2.2.1
          have f0 := (hb1.frozen (p := ⟨w.heap.size, 0, none⟩) hl0).trans cV.2.2.2.2.2.2.1
          have f1 := (hb1.frozen (p := ⟨w.heap.size, 1, none⟩) hl0).trans cV.2.2.2.2.2.2.2.1
          have f2 := (hb1.frozen (p := ⟨w.heap.size, 2, none⟩) hl0).trans cV.2.2.2.2.2.2.2.2
          have hbw1 := after hbV hb1
          obtain ⟨R, hR⟩ : ∃ R, R = recT x1 x2 (strOf ys) := ⟨_, rfl⟩
          rw [← hR]
          clear cV hb1 hbV
          by_cases heq : R = t
          · have HY : Hid (recR t = some (x1, x2, strOf ys)) := by show _ = _; unfold recR; simp [H0.out, H1.out, H2.out, H3.out, ← hR, heq]
            clear hR
            subst heq
            go_wp2
            exact bodyPost_ret (v := .tuple #[.agg #[.int .i64 x1, .int .i64 x2, .string (strOf ys)], .bool true]) (by simp [results, Try.results75, go_sem, c0, c1, c2]) rfl ⟨fun s q d h => (by rw [HY.out] at h; simp at h; obtain ⟨rfl, rfl, rfl⟩ := h; rfl), fun h => (by rw [HY.out] at h; cases h), ((hbw1.setCell (by show _ ≤ _; simp) _).setCell (by show _ ≤ _; simp) _).setCell (by show _ ≤ _; simp) _⟩
          · have HN : Hid (recR t = none) := by show _ = _; unfold recR; simp [H0.out, H1.out, H2.out, H3.out, ← hR, heq]
            have hne : (R.toList == t.toList) = false := by simpa using fun h => heq (text_inj h)
            clear hR heq
            go_wp2
            exact bodyPost_ret (v := .tuple #[.agg #[.int .i64 0, .int .i64 0, .string ⟨#[]⟩], .bool false]) (by simp [results, Try.results75, go_sem, c0, c1, c2]) rfl ⟨fun s q d h => (by rw [HN.out] at h; cases h), fun _ => rfl, ((hbw1.setCell (by show _ ≤ _; simp) _).setCell (by show _ ≤ _; simp) _).setCell (by show _ ≤ _; simp) _⟩

end Go.Proofs.Ytelbannfbglgcaa
