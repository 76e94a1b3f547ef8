/-
  Contracts of the draws of chapter 1: each hands back SOME value of its kind; old memory is as it was.
-/
import Derived.Test.YtgalfbcolbgabaaDraw
import Derived.Test.YtgalfbcolbgabaaPutText
import Derived.Laws.AppendOwnNone
namespace Go.Proofs.Ytgalfbcolbgabaa
open Go.RowKit

theorem rd_lit (w : World) (cs : Array Value) (e : TypeId) : Rd (w.alloc (.cells cs e)) (some ⟨w.heap.size, 0, none⟩) cs.toList := by
  refine .inr ⟨_, 0, rfl, fun i v hv => ?_⟩
  rw [Nat.zero_add, World.cell?_alloc_mark]
  simpa using hv

/-- 'append(out, more...)', both being rows of the call's own: the walk goes on with both behind one another; below 'base' nothing has turned. -/
theorem wpList_append_two {P : Program} {w : World} {ops : Array Oper} {rest : List Oper} {o : Oper} {a : Act} {Q : Exit → Act → World → Prop} (hgd : o.guard = none) (s x : Operand) (t : TypeId)
    (ho : o.op = .call { callee := .builtin .append, args := #[s, x], argTypes := #[t, t] })
    (base base' : Nat) (e : TypeId) (i : TypeInfo) (z : Value) (bytes : Nat) (ht : P.underlying t = some (.slice e)) (hi : P.info? e = some i) (hz : i.zero = some z)
    (hsize : i.size = 1) (hby : i.bytes = bytes) (hzs : z.cells.size = 1)
    (v : Value) (n : Nat) (xs : List Value) (hs : a.eval s = v) (hown : w.ownsRow base e 1 v n xs)
    (v2 : Value) (m : Nat) (news : List Value) (hx : a.eval x = v2) (hown2 : w.ownsRow base' e 1 v2 m news) (h1 : ∀ u ∈ news, u.oneCell' = true)
    (hbytes : (n + m) * bytes ≤ 140737488355328) (hn : n + m ≤ 140737488355328) (hbase : base ≤ w.heap.size)
    (h : ∀ v' w', w'.ownsRow base e 1 v' (n + m) (xs ++ news) → Below base w w' → wpList P ops Q rest (a.put o.dst v') w') : wpList P ops Q (o :: rest) a w := by
  rcases id hown2 with ⟨hl, ⟨rfl, rfl⟩ | ⟨g, cap, cur, rfl, -⟩⟩
  · have hnil : news = [] := List.eq_nil_of_length_eq_zero (by simpa using hl)
    subst hnil
    refine wpList_append_own_none hgd s x t ho base e i 1 ht hi v n xs hs hown hx ?_
    exact h v w (by simpa using hown) (Below.refl _ _)
  · refine wpList_append_own _ hgd s x t ho base e i z 1 bytes ht hi hz hsize hby hzs (by decide) v n xs hs hown ⟨g, 0, none⟩ m cap news hx hl (hown2.cells (g := g) rfl) h1 (by unfold maxLen; omega) hbytes hbase ?_
    intro v' w' h2 h3 _
    exact h v' w' h2 (grown_below hown h3 hbase)

theorem u8s_one (zs : List Int) : ∀ u ∈ u8s zs, u.oneCell' = true := ints_oneCell _ _
theorem owns_grown {w w' : World} {base : Nat} {e : TypeId} {size : Nat} {v : Value} {n : Nat} {xs : List Value} {p : Nat} (h : w.ownsRow base e size v n xs) (hg : w.grownBy w' (some p)) (hp : p < base) : w'.ownsRow base e size v n xs := by
  refine h.kept hg ?_
  cases hv : v.ownBlock with
  | none => exact .inl rfl
  | some k =>
    right
    have := (h.lt k hv).1
    intro e; injection e with e; omega
theorem grown_then {w w1 w2 : World} {p B : Nat} (h : w.grownBy w1 (some p)) (k : Below B w1 w2) (hB : w.heap.size ≤ B) : w.grownBy w2 (some p) :=
  ⟨k.os.trans h.os, k.tape.trans h.tape, k.output.trans h.output, Nat.le_trans h.size k.size, fun i hi hne => (k.block i (by omega)).trans (h.block i hi hne)⟩

theorem putB_range {x : Int} (_h : 0 ≤ x) : (putB x).length ≤ 5 := putB_len x

set_option maxHeartbeats 1600000 in
theorem drawBytes_any (p : Nat) (w : World) (hc : Cur w p) (hp : p < w.heap.size) :
    Calls Try.prog 35 #[.pointer (some ⟨p, 0, none⟩)] w fun e w' => ∃ v zs, e = .returned v ∧ IsBytes zs ∧ zs.length ≤ 30 ∧ w'.ownsRow w.heap.size 5 1 v zs.length (u8s zs) ∧ Cur w' p ∧ w.grownBy w' (some p) := by
  obtain ⟨i0, hi, hz0, hz1, hz2⟩ := info_parts info5
  have hown0 : (w.alloc (Obj.cells #[] 5)).ownsRow w.heap.size 5 1 (.slice (some ⟨w.heap.size, 0, none⟩) 0 0) 0 [] := World.ownsRow_lit w #[] 0 (Nat.le_refl _) (by unfold maxLen; omega) rfl
  have hb0 : Below w.heap.size w (w.alloc (Obj.cells #[] 5)) := (Below.refl _ _).alloc (Nat.le_refl _) _
  go_enter Try.func35, Try.ntmps35
  go_wp2_with fail
  go_loopw [3, 4] (fun v i wr => ∃ (k : Nat) (zs : List Int), k ≤ 4 ∧ i = .int .i64 k ∧ IsBytes zs ∧ zs.length ≤ 5 * k ∧ wr.ownsRow w.heap.size 5 1 v zs.length (u8s zs) ∧ Cur wr p ∧ w.grownBy wr (some p) ∧ w.heap.size ≤ wr.heap.size) (fun _ i _ => 5 - (intOf i).toNat)
  case atStart => exact ⟨0, [], by omega, rfl, fun z hz => by simp at hz, by simp, hown0, hc.kept (hb0.mono (by omega)), grown_then (World.grownBy.refl _ _) hb0 (Nat.le_refl _), by simp⟩
  case round =>
    obtain ⟨k, zs, hk, rfl, hby, hlen, hown, hcw, hg, hsz⟩ := hrel
    clear hown0 hb0
    go_wp2_with fail
    refine (below_any p 5 _ hcw (by omega)).mono ?_
    rintro e w1 ⟨x, rfl, hx0, hx1, -, hc1, hg1⟩
    have hx1 := hx1 (by omega)
    have hown1 := owns_grown hown hg1 hp
    have hgw1 := grown_trans hg hg1
    have hs1 : w.heap.size ≤ w1.heap.size := Nat.le_trans hsz hg1.size
    clear hown hcw hg hg1 hc
    by_cases hlt : (k : Int) < x
    · go_wp2_with fail
      refine (pickInt_any p _ [0, 1, 127, 128, 300, 1000000000] 6 _ _ rfl (hc1.kept ((Below.refl _ _).alloc (by omega) _)) (rd_lit w1 _ _) (by intro x hx; simp at hx; subst hx; show w1.heap.size ≠ _; omega) (by simp) (by simp)).mono ?_
      rintro e w2 ⟨y, rfl, hy, hc2, hg2⟩
      have hy' : 0 ≤ y ∧ y ≤ 1000000000 := by simp at hy; omega
      have hown2 := owns_grown (hown1.alloc _) hg2 hp
      have hgw2 := grown_trans (grown_then hgw1 ((Below.refl w1.heap.size w1).alloc (Nat.le_refl _) _) hs1) hg2
      have hs2 : w.heap.size ≤ w2.heap.size := by have := hg2.size; simp at this; omega
      clear hown1 hgw1 hg2 hc1
      go_wp2_with fail
      refine (specPutNum_any y _ (by omega) (by omega)).mono ?_
      rintro e w3 ⟨v3, rfl, hown3, hb3⟩
      have hl3 := putB_len y
      have hown2' := owns_below hown2 hb3
      have hc3 := hc2.kept (hb3.mono (by omega))
      have hgw3 := grown_then hgw2 hb3 hs2
      have hs3 : w.heap.size ≤ w3.heap.size := Nat.le_trans hs2 hb3.size
      clear hown2 hgw2 hc2 hb3
      go_wp2_with (at_builtin; go_must (refine wpList_append_two rfl _ _ 22 rfl w.heap.size w2.heap.size 5 i0 (.int .u8 0) 1 Try.underlying22 hi hz0 hz1 hz2 rfl _ _ _ rfl hown2' _ _ _ rfl hown3 (u8s_one _) (by omega) (by omega) hs3 ?_); intro v4 w4 hown4 hb4)
      go_roundw
      case rel => exact ⟨k + 1, zs ++ putB y, by omega, by go_num, by
          intro z hz
          simp only [List.mem_append] at hz
          rcases hz with hz | hz
          · exact hby z hz
          · exact putB_bytes y z hz, by rw [List.length_append]; omega, by rw [List.length_append]; simpa [u8s] using hown4, hc3.kept (hb4.mono (by omega)), grown_then hgw3 hb4 (Nat.le_refl _), Nat.le_trans hs3 hb4.size⟩
      case measure => simp [intOf]; omega
    · go_wp2_with fail
      refine (once_any p 3 _ hc1 (by omega)).mono ?_
      rintro e w2 ⟨o, rfl, hc2, hg2⟩
      have hown2 := owns_grown hown1 hg2 hp
      have hgw2 := grown_trans hgw1 hg2
      have hs2 : w.heap.size ≤ w2.heap.size := Nat.le_trans hs1 hg2.size
      clear hown1 hgw1 hg2 hc1
      cases o with
      | false =>
        go_wp2
        go_ret
        exact ⟨_, zs, rfl, hby, by omega, hown2, hc2, hgw2⟩
      | true =>
        go_wp2_with fail
        refine (pickInt_any p _ [0, 128, 255] 3 _ _ rfl (hc2.kept ((Below.refl _ _).alloc (by omega) _)) (rd_lit w2 _ _) (by intro x hx; simp at hx; subst hx; show w2.heap.size ≠ _; omega) (by simp) (by simp)).mono ?_
        rintro e w3 ⟨y, rfl, hy, hc3, hg3⟩
        have hy' : 0 ≤ y ∧ y ≤ 255 := by simp at hy; omega
        have hwy : IntKind.u8.wrap y = y := u8_small hy'.1 hy'.2
        have hown3 := owns_grown (hown2.alloc _) hg3 hp
        have hgw3 := grown_trans (grown_then hgw2 ((Below.refl w2.heap.size w2).alloc (Nat.le_refl _) _) hs2) hg3
        have hs3 : w.heap.size ≤ w3.heap.size := by have := hg3.size; simp at this; omega
        clear hown2 hgw2 hg3 hc2
        go_wp2_with fail
        refine (below_any p 3 _ hc3 (by omega)).mono ?_
        rintro e w4 ⟨q, rfl, hq0, hq1, -, hc4, hg4⟩
        have hq1 := hq1 (by omega)
        have hwq : IntKind.u8.wrap q = q := u8_small hq0 (by omega)
        have hown4 := owns_grown hown3 hg4 hp
        have hgw4 := grown_trans hgw3 hg4
        have hs4 : w.heap.size ≤ w4.heap.size := Nat.le_trans hs3 hg4.size
        clear hown3 hgw3 hg4 hc3
        have hlit : (w4.alloc (Obj.cells #[.int .u8 y, .int .u8 q] 5)).ownsRow w4.heap.size 5 1 (.slice (some ⟨w4.heap.size, 0, none⟩) 2 2) 2 (u8s [y, q]) := World.ownsRow_lit w4 #[.int .u8 y, .int .u8 q] 2 (Nat.le_refl _) (by unfold maxLen; omega) rfl
        go_wp2_with (at_builtin; go_must (refine wpList_append_two rfl _ _ 22 rfl w.heap.size w4.heap.size 5 i0 (.int .u8 0) 1 Try.underlying22 hi hz0 hz1 hz2 rfl _ _ _ rfl (hown4.alloc _) _ _ _ rfl hlit (u8s_one _) (by omega) (by omega) (by simp; omega) ?_); intro v5 w5 hown5 hb5)
        go_ret
        have hb5' : Below w.heap.size w4 w5 := ((Below.refl w.heap.size w4).alloc hs4 _).trans hb5
        refine ⟨_, zs ++ [y, q], rfl, ?_, by rw [List.length_append]; simp; omega, by rw [List.length_append]; simpa [u8s] using hown5, hc4.kept (hb5'.mono (by omega)), grown_then hgw4 hb5' (Nat.le_refl _)⟩
        intro z hz
        simp only [List.mem_append] at hz
        rcases hz with hz | hz
        · exact hby z hz
        · simp at hz; omega

theorem DrawPutNum_any (a : Option Addr) (zs : List Int) (cap : Nat) (w : World) (hr : Rd w a (u8s zs)) (hb : IsBytes zs) (hm : zs.length ≤ 1048576) :
    Calls Try.prog 10 #[.slice a zs.length cap] w fun e w' => ∃ x : Int, e = .returned (.int .i64 x) ∧ -1 ≤ x ∧ x ≤ 1000000001 ∧ Below w.heap.size w w' := by
  go_enter Try.func10, Try.ntmps10
  go_wp2_with fail
  refine (new_any a zs cap _ hr hb hm).mono ?_
  rintro e w1 ⟨rfl, hc, hb1, hs1⟩
  go_wp2_with fail
  refine (pickInt_any w.heap.size _ [0, 1, 127, 128, 300, 16383, 16384, 1000000000, 1000000001, -1] 10 _ _ rfl (hc.kept ((Below.refl _ _).alloc (by omega) _)) (rd_lit w1 _ _) (by intro x hx; simp at hx; subst hx; show w1.heap.size ≠ _; omega) (by simp) (by simp)).mono ?_
  rintro e w2 ⟨x, rfl, hx, hc2, hg2⟩
  go_wp2
  go_ret
  refine ⟨x, rfl, ?_, ?_, (hb1.alloc (by omega) _).grown hg2 (by simp; omega) (by simp)⟩
  · simp at hx; omega
  · simp at hx; omega

/-- A text's size, in a slot. -/
def strSize : Value → Nat | .string s => s.size | _ => 0
theorem q_size (s : ByteArray) : (s ++ ⟨#[113]⟩ : ByteArray).size = s.size + 1 := by
  rw [ByteArray.size_append]; rfl

set_option maxHeartbeats 1600000 in
theorem drawText_any (p : Nat) (w : World) (hc : Cur w p) (hp : p < w.heap.size) :
    Calls Try.prog 36 #[.pointer (some ⟨p, 0, none⟩)] w fun e w' => ∃ s : ByteArray, e = .returned (.string s) ∧ s.size ≤ 401 ∧ Cur w' p ∧ w.grownBy w' (some p) := by
  go_enter Try.func36, Try.ntmps36
  go_wp2_with fail
  refine (once_any p 20 _ hc (by omega)).mono ?_
  rintro e w1 ⟨o, rfl, hc1, hg1⟩
  have hs1 := hg1.size
  cases o with
  | false =>
    go_wp2_with fail
    refine (pick_any p _ [⟨#[]⟩, ⟨#[97]⟩, ⟨#[104, 101, 108, 108, 111]⟩, ⟨#[116, 119, 111, 32, 119, 111, 114, 100, 115]⟩, ⟨#[0, 255]⟩, ⟨#[100]⟩, ⟨#[102, 100, 97, 116, 97]⟩] 7 _ _ rfl (hc1.kept ((Below.refl _ _).alloc (by omega) _)) (rd_lit w1 _ _) (by intro x hx; simp at hx; subst hx; show w1.heap.size ≠ _; omega) (by simp) (by simp)).mono ?_
    rintro e w2 ⟨s, rfl, hs, hc2, hg2⟩
    have hsz : s.size ≤ 401 := by
      simp only [List.mem_cons, List.not_mem_nil, or_false] at hs
      rcases hs with rfl | rfl | rfl | rfl | rfl | rfl | rfl <;> decide
    have hgw2 := grown_trans (grown_then hg1 ((Below.refl w1.heap.size w1).alloc (Nat.le_refl _) _) hs1) hg2
    clear hs hg2 hg1 hc1 hc
    go_wp2
    go_ret
    exact ⟨s, rfl, hsz, hc2, hgw2⟩
  | true =>
    go_wp2_with fail
    go_loopw [3] (fun v wr => ∃ s : ByteArray, v = .string s ∧ s.size ≤ 401 ∧ Cur wr p ∧ w.grownBy wr (some p)) (fun v _ => 402 - strSize v)
    case atStart => exact ⟨_, rfl, by decide, hc1, hg1⟩
    case round =>
      obtain ⟨s, rfl, hsz, hcw, hg⟩ := hrel
      go_wp2_with fail
      refine (below_any p 2 _ hcw (by omega)).mono ?_
      rintro e w2 ⟨x, rfl, hx0, hx1, -, hc2, hg2⟩
      have hx1 := hx1 (by omega)
      have hgw := grown_trans hg hg2
      clear hg hg2 hcw hc1 hg1 hc
      by_cases hlt : (s.size : Int) < 400 + x
      · have hq := q_size s
        have HQ : Hid ((s ++ ⟨#[113]⟩ : ByteArray).size = s.size + 1) := hq
        clear hq
        go_wp2_with fail
        go_roundw
        case rel => exact ⟨_, rfl, by rw [HQ.out]; omega, hc2, hgw⟩
        case measure => simp only [strSize]; rw [HQ.out]; omega
      · go_wp2
        go_ret
        exact ⟨_, rfl, hsz, hc2, hgw⟩

theorem owns_mono {w : World} {base base' : Nat} {e : TypeId} {size : Nat} {v : Value} {n : Nat} {xs : List Value} (h : w.ownsRow base' e size v n xs) (hb : base ≤ base') : w.ownsRow base e size v n xs := by
  obtain ⟨h1, h2⟩ := h
  refine ⟨h1, ?_⟩
  rcases h2 with h2 | ⟨g, cap, cur, hv, hg, r⟩
  · exact .inl h2
  · exact .inr ⟨g, cap, cur, hv, by omega, r⟩
theorem owns_opened {w : World} {base : Nat} {v : Value} {zs : List Int} (h : w.ownsRow base 5 1 v zs.length (u8s zs)) : ∃ a cap, v = .slice a zs.length cap ∧ Rd w a (u8s zs) ∧ zs.length ≤ cap := by
  rcases id h with ⟨_, ⟨rfl, h0⟩ | ⟨g, cap, cur, rfl, -, -, hn, -⟩⟩
  · have : zs = [] := List.eq_nil_of_length_eq_zero h0
    subst this
    exact ⟨none, 0, rfl, .inl rfl, Nat.le_refl _⟩
  · exact ⟨some ⟨g, 0, none⟩, cap, rfl, Rd.of_owns h, hn⟩

set_option maxHeartbeats 800000 in
theorem DrawGetNum_any (a : Option Addr) (zs : List Int) (cap : Nat) (w : World) (hr : Rd w a (u8s zs)) (hb : IsBytes zs) (hm : zs.length ≤ 1048576) :
    Calls Try.prog 15 #[.slice a zs.length cap] w fun e w' => ∃ (b : Option Addr) (ys : List Int) (c : Nat) (k : Int), e = .returned (.tuple #[.slice b ys.length c, .int .i64 k]) ∧ IsBytes ys ∧ ys.length ≤ 30 ∧ ys.length ≤ c ∧ Rd w' b (u8s ys) ∧ k ≤ 9223372036854775807 ∧ Below w.heap.size w w' := by
  go_enter Try.func15, Try.ntmps15
  go_wp2_with fail
  refine (new_any a zs cap _ hr hb hm).mono ?_
  rintro e w1 ⟨rfl, hc, hb1, hs1⟩
  go_wp2_with fail
  refine (drawBytes_any w.heap.size _ hc hs1).mono ?_
  rintro e w2 ⟨v, ys, rfl, hby, hl, hown, hc2, hg2⟩
  obtain ⟨b, c, hv, hr2, hlc⟩ := owns_opened hown
  subst hv
  have hs2 := hg2.size
  have hb2 : Below w.heap.size w w2 := hb1.grown hg2 (by omega) (by simp)
  go_wp2_with fail
  refine (pickInt_any w.heap.size _ [0, 0, 1, ys.length, (ys.length : Int) - 1, -1, 9223372036854775807] 7 _ _ rfl (hc2.kept ((Below.refl _ _).alloc (by omega) _)) (rd_lit w2 _ _) (by intro x hx; simp at hx; subst hx; show w2.heap.size ≠ _; omega) (by simp) (by simp)).mono ?_
  rintro e w3 ⟨k, rfl, hk, hc3, hg3⟩
  have hk' : k ≤ 9223372036854775807 := by simp at hk; omega
  have hr3 : Rd w3 b (u8s ys) := by
    refine (hr2.below ((Below.refl _ _).alloc (Nat.le_refl _) _)).grown hg3 ?_
    intro x hx
    subst hx
    have := hown.lt x.block rfl
    omega
  clear hk hc3 hc2 hown hr2 hc hr
  go_wp2
  go_ret2
  exact ⟨b, ys, c, k, rfl, hby, hl, hlc, hr3, hk', (hb2.alloc (by omega) _).grown hg3 (by simp; omega) (by simp)⟩

theorem DrawPutText_any (a : Option Addr) (zs : List Int) (cap : Nat) (w : World) (hr : Rd w a (u8s zs)) (hb : IsBytes zs) (hm : zs.length ≤ 1048576) :
    Calls Try.prog 17 #[.slice a zs.length cap] w fun e w' => ∃ s : ByteArray, e = .returned (.string s) ∧ s.size ≤ 401 ∧ Below w.heap.size w w' := by
  go_enter Try.func17, Try.ntmps17
  go_wp2_with fail
  refine (new_any a zs cap _ hr hb hm).mono ?_
  rintro e w1 ⟨rfl, hc, hb1, hs1⟩
  go_wp2_with fail
  refine (drawText_any w.heap.size _ hc hs1).mono ?_
  rintro e w2 ⟨s, rfl, hsz, hc2, hg2⟩
  go_wp2
  go_ret
  exact ⟨s, rfl, hsz, hb1.grown hg2 (by omega) (by simp)⟩

set_option maxHeartbeats 800000 in
theorem DrawSum_any (a : Option Addr) (zs : List Int) (cap : Nat) (w : World) (hr : Rd w a (u8s zs)) (hb : IsBytes zs) (hm : zs.length ≤ 1048576) :
    Calls Try.prog 23 #[.slice a zs.length cap] w fun e w' => ∃ v ys, e = .returned v ∧ IsBytes ys ∧ ys.length ≤ 500 ∧ w'.ownsRow w.heap.size 5 1 v ys.length (u8s ys) ∧ Below w.heap.size w w' := by
  obtain ⟨i0, hi, hz0, hz1, hz2⟩ := info_parts info5
  go_enter Try.func23, Try.ntmps23
  go_wp2_with fail
  refine (new_any a zs cap _ hr hb hm).mono ?_
  rintro e w1 ⟨rfl, hc, hb1, hs1⟩
  go_wp2_with fail
  refine (drawBytes_any w.heap.size _ hc hs1).mono ?_
  rintro e w2 ⟨v, ys, rfl, hby, hl, hown, hc2, hg2⟩
  have hs2 := hg2.size
  have hb2 : Below w.heap.size w w2 := hb1.grown hg2 (by omega) (by simp)
  go_wp2_with fail
  refine (drawText_any w.heap.size _ hc2 (by omega)).mono ?_
  rintro e w3 ⟨s, rfl, hsz, hc3, hg3⟩
  have hs3 := hg3.size
  have hb3 : Below w.heap.size w w3 := hb2.grown hg3 (by omega) (by simp)
  have hown3 := owns_grown hown hg3 hs1
  have hcv := fun w => run_bytes_of_string (P := Try.prog) w 9 22 5 s Try.underlying9 Try.underlying22 Try.underlying5
  clear hc hc2 hc3 hown hr hg2 hg3 hb1 hb2
  go_wp2_with (at_builtin; go_must (refine wpList_append_own _ rfl _ _ 22 rfl w1.heap.size 5 i0 (.int .u8 0) 1 1 Try.underlying22 hi hz0 hz1 hz2 rfl (by decide) _ _ _ rfl (hown3.alloc _).drew ⟨w3.heap.size, 0, none⟩ s.size _ (Lib.strCells s) rfl (by rw [Lib.strCells_length, Nat.mul_one]) (bytes_lie s w3 _) (Lib.strCells_oneCell s) (by unfold maxLen; omega) (by omega) (by simp; omega) ?_); intro v' w4 ho' hg' _)
  go_ret
  refine ⟨_, ys ++ strB s, rfl, ?_, by rw [List.length_append, strB_len]; omega, ?_, hb3.trans ((below_new hown3 hg' (by omega)).mono (by omega))⟩
  · intro z hz
    simp only [List.mem_append] at hz
    rcases hz with hz | hz
    · exact hby z hz
    · exact strB_bytes s z hz
  · rw [List.length_append, strB_len]
    have e : u8s (ys ++ strB s) = u8s ys ++ Lib.strCells s := by rw [← strB_cells]; simp [u8s]
    rw [e]; exact owns_mono ho' (by omega)

end Go.Proofs.Ytgalfbcolbgabaa
