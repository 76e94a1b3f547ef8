/-
  Contracts of the cursor of the draws (l1New, l1Byte, l1Below, l1Once, l1PickInt, l1Pick): each hands back SOME value of its range, writes into the cursor's block alone, and keeps the cursor fit.
  Contracts of the draws of chapter 1: each hands back SOME value of its kind; old memory is as it was.
  Contract of the draw of a right chip with sectors (l5DrawRight): it answers with what is mounted of a right chip, in memory of its own; besides it the cursor alone turns.
-/
import Derived.Test.YtelbannfbglgcaaJMounted0
import Derived.Test.YtelbannfbglgcaaJMounted2
import Derived.Test.YtelbannfbglgcaaJMounted5
import Derived.Test.YtelbannfbglgcaaJMounted24
import Derived.Test.YtelbannfbglgcaaJMounted26
import Derived.Test.YtelbannfbglgcaaJMounted18
namespace Go.Proofs.Ytelbannfbglgcaa
open Go.RowKit

/-- The cursor in block p is fit: its bytes lie below p. -/
def Cur (w : World) (p : Nat) : Prop :=
  ∃ (a : Option Addr) (zs : List Int) (cap : Nat) (i h : Int), w.cell? ⟨p, 0, none⟩ = some (.slice a zs.length cap) ∧ w.cell? ⟨p, 1, none⟩ = some (.int .i64 i) ∧ w.cell? ⟨p, 2, none⟩ = some (.int .i64 h) ∧
    w.frozen? ⟨p, 1, none⟩ = false ∧ w.frozen? ⟨p, 2, none⟩ = false ∧ 0 ≤ i ∧ i ≤ 1048576 ∧ Rd w a (u8s zs) ∧ IsBytes zs ∧ zs.length ≤ 1048576 ∧ (zs = [] ∨ ∀ x, a = some x → x.block < p)

theorem Rd.at_below {B : Nat} {w w' : World} {a : Option Addr} {vs : List Value} (h : Rd w a vs) (hlt : vs = [] ∨ ∀ x, a = some x → x.block < B) (hb : Below B w w') : Rd w' a vs := by
  rcases hlt with hlt | hlt
  · exact .inl hlt
  rcases h with h | ⟨b, off, ha, hc⟩
  · exact .inl h
  · refine .inr ⟨b, off, ha, fun i v hv => ?_⟩
    have hl := hlt _ ha
    rw [hb.cell (p := ⟨b, off + i, none⟩) hl]
    exact hc i v hv

/-- Nothing up to the cursor's block has turned: the cursor is as it was. -/
theorem Cur.kept {w w' : World} {p : Nat} (h : Cur w p) (hb : Below (p + 1) w w') : Cur w' p := by
  obtain ⟨a, zs, cap, i, q, h0, h1, h2, f1, f2, hi, hi2, hr, hby, hl, hlt⟩ := h
  refine ⟨a, zs, cap, i, q, ?_, ?_, ?_, ?_, ?_, hi, hi2, hr.at_below (B := p + 1) (hlt.imp (fun e => by rw [e]; rfl) (fun h x hx => by have := h x hx; omega)) hb, hby, hl, hlt⟩
  · rw [hb.cell (p := ⟨p, 0, none⟩) (by show p < p + 1; omega)]; exact h0
  · rw [hb.cell (p := ⟨p, 1, none⟩) (by show p < p + 1; omega)]; exact h1
  · rw [hb.cell (p := ⟨p, 2, none⟩) (by show p < p + 1; omega)]; exact h2
  · rw [hb.frozen (p := ⟨p, 1, none⟩) (by show p < p + 1; omega)]; exact f1
  · rw [hb.frozen (p := ⟨p, 2, none⟩) (by show p < p + 1; omega)]; exact f2

theorem grown_drew {w w' : World} {row : Option Nat} (h : w.grownBy w' row) (n : Nat) : w.grownBy (w'.drewN n) row := ⟨h.os, h.tape, h.output, h.size, h.block⟩
theorem grown_set (w : World) (p o : Nat) (v : Value) : w.grownBy (w.setCell ⟨p, o, none⟩ v) (some p) :=
  ⟨rfl, rfl, rfl, by simp [World.setCell], fun k _ hk => Below.heap_setCell _ _ _ _ (fun e => hk (by rw [e]))⟩

theorem and255 (a : Int) : 0 ≤ bits .and .i64 a 255 ∧ bits .and .i64 a 255 ≤ 255 := by
  have h2 : (BitVec.ofInt 64 (255 : Int)).toNat = 255 := by decide
  have hx : (BitVec.ofInt 64 a).toNat &&& 255 ≤ 255 := Nat.and_le_right
  have e : bits .and .i64 a 255 = (((BitVec.ofInt 64 a).toNat &&& 255 : Nat) : Int) := by
    show IntKind.i64.wrap ((BitVec.ofInt 64 a &&& BitVec.ofInt 64 (255 : Int)).toNat : Int) = _
    rw [BitVec.toNat_and, h2]
    generalize (BitVec.ofInt 64 a).toNat &&& 255 = q at hx ⊢
    simp [IntKind.wrap, IntKind.bits, IntKind.signed]
    omega
  rw [e]; omega

theorem Cur.seth {w : World} {p : Nat} (hc : Cur w p) (q : Int) : Cur (w.setCell ⟨p, 2, none⟩ (.int .i64 q)) p := by
  obtain ⟨a, zs, cap, i, h, h0, h1, h2, f1, f2, hi, hi2, hr, hby, hl, hlt⟩ := hc
  have hb : Below p w (w.setCell ⟨p, 2, none⟩ (.int .i64 q)) := Below.setCell (Below.refl p w) (Nat.le_refl p) _
  refine ⟨a, zs, cap, i, q, ?_, ?_, World.cell?_setCell_same w _ _ h2, ?_, ?_, hi, hi2, hr.at_below (hlt.imp (fun e => by rw [e]; rfl) id) hb, hby, hl, hlt⟩
  · simpa [go_sem] using h0
  · simpa [go_sem] using h1
  · simpa using f1
  · simpa using f2
theorem Cur.seti {w : World} {p : Nat} (hc : Cur w p) (q : Int) (hq : 0 ≤ q ∧ q ≤ 1048576) : Cur (w.setCell ⟨p, 1, none⟩ (.int .i64 q)) p := by
  obtain ⟨a, zs, cap, i, h, h0, h1, h2, f1, f2, hi, hi2, hr, hby, hl, hlt⟩ := hc
  have hb : Below p w (w.setCell ⟨p, 1, none⟩ (.int .i64 q)) := Below.setCell (Below.refl p w) (Nat.le_refl p) _
  refine ⟨a, zs, cap, q, h, ?_, World.cell?_setCell_same w _ _ h1, ?_, ?_, ?_, hq.1, hq.2, hr.at_below (hlt.imp (fun e => by rw [e]; rfl) id) hb, hby, hl, hlt⟩
  · simpa [go_sem] using h0
  · simpa [go_sem] using h2
  · simpa using f1
  · simpa using f2
theorem Cur.drewN {w : World} {p : Nat} (hc : Cur w p) (n : Nat) : Cur (w.drewN n) p := hc

set_option maxHeartbeats 1600000 in
theorem byte_any (p : Nat) (w : World) (hc : Cur w p) :
    Calls Try.prog 103 #[.pointer (some ⟨p, 0, none⟩)] w fun e w' => ∃ x : Int, e = .returned (.int .i64 x) ∧ 0 ≤ x ∧ x ≤ 255 ∧ Cur w' p ∧ w.grownBy w' (some p) := by
  have HC : Hid (Cur w p) := hc
  obtain ⟨a, zs, cap, i, h, h0, h1, h2, f1, f2, hi, hi2, hr, hby, hl, hlt⟩ := hc
  by_cases hin : i < zs.length
  · obtain ⟨k, rfl⟩ : ∃ k : Nat, i = k := ⟨i.toNat, by omega⟩
    obtain ⟨b, off, z, rfl, hck, hz, HZ⟩ := rd_u8_at hr hby (show k < zs.length by omega)
    have hbp : ¬ b = p := by
      rcases hlt with h | h
      · subst h; simp at hin; omega
      · have := h _ rfl; simp at this; omega
    clear hr hlt
    go_enter Try.func103, Try.ntmps103
    go_wp2
    go_quiet (fail)
    go_wp2
    go_quiet (fail)
    go_wp2
    go_quiet (fail)
    go_wp2
    go_ret
    refine ⟨_, rfl, (and255 _).1, (and255 _).2, (HC.out.seth _).seti _ (by omega), ?_⟩
    exact grown_trans (grown_drew (grown_set _ _ _ _) _) (grown_set _ _ _ _)
  · clear hr
    go_enter Try.func103, Try.ntmps103
    go_wp2
    go_quiet (fail)
    go_wp2
    go_quiet (fail)
    go_wp2
    go_ret
    exact ⟨_, rfl, (and255 _).1, (and255 _).2, HC.out.seth _, grown_drew (grown_drew (grown_set _ _ _ _) _) _⟩

set_option maxHeartbeats 800000 in
theorem new_any (a : Option Addr) (zs : List Int) (cap : Nat) (w : World) (hr : Rd w a (u8s zs)) (hb : IsBytes zs) (hm : zs.length ≤ 1048576) :
    Calls Try.prog 56 #[.slice a zs.length cap] w fun e w' => e = .returned (.pointer (some ⟨w.heap.size, 0, none⟩)) ∧ Cur w' w.heap.size ∧ Below w.heap.size w w' ∧ w.heap.size < w'.heap.size := by
  go_enter Try.func56, Try.ntmps56
  go_wp2
  go_loop [3, 4] (fun h i => ∃ (k : Nat) (q : Int), k ≤ zs.length ∧ i = .int .i64 k ∧ h = .int .i64 q) (fun _ i => zs.length - (intOf i).toNat)
  case atStart => exact ⟨0, _, Nat.zero_le _, rfl, rfl⟩
  case round =>
    obtain ⟨k, q, hk, rfl, rfl⟩ := hrel
    have fin : ∀ q : Int, Hid (Cur (w.alloc (.cells #[.slice a zs.length cap, .int .i64 0, .int .i64 q] 125)) w.heap.size) := by
      intro q
      have hbel : Below w.heap.size w (w.alloc (.cells #[.slice a zs.length cap, .int .i64 0, .int .i64 q] 125)) := (Below.refl _ _).alloc (Nat.le_refl _) _
      refine ⟨a, zs, cap, 0, q, by simp [go_sem], by simp [go_sem], by simp [go_sem], by simp [go_sem], by simp [go_sem], by omega, by omega, hr.below hbel, hb, hm, ?_⟩
      rcases hr with h | ⟨b, off, rfl, hc⟩
      · left; simpa using h
      · by_cases h0 : zs = []
        · exact .inl h0
        · right
          intro x hx
          cases zs with
          | nil => exact absurd rfl h0
          | cons z r =>
            have := lt_of_cell (hc 0 (.int .u8 z) rfl)
            simp at hx; subst hx; exact this
    by_cases hlt : k < zs.length
    · by_cases h4 : (k : Int) < 4000
      · obtain ⟨b, off, z, rfl, hck, hz, HZ⟩ := rd_u8_at hr hb hlt
        clear hr fin
        go_wp2
        go_round
        case rel => exact ⟨k + 1, _, by omega, by go_num, rfl⟩
        case measure => simp [intOf]; omega
      · clear hr
        go_wp2
        go_ret
        exact ⟨rfl, (fin q).out, (Below.refl _ _).alloc (Nat.le_refl _) _, by simp⟩
    · clear hr
      go_wp2
      go_ret
      exact ⟨rfl, (fin q).out, (Below.refl _ _).alloc (Nat.le_refl _) _, by simp⟩

set_option maxHeartbeats 800000 in
theorem below_any (p : Nat) (n : Int) (w : World) (hc : Cur w p) (hn : n ≤ 9223372036854775807) :
    Calls Try.prog 64 #[.pointer (some ⟨p, 0, none⟩), .int .i64 n] w fun e w' => ∃ x : Int, e = .returned (.int .i64 x) ∧ 0 ≤ x ∧ (0 < n → x < n) ∧ (n ≤ 0 → x = 0) ∧ Cur w' p ∧ w.grownBy w' (some p) := by
  by_cases h0 : n ≤ 0
  · go_enter Try.func64, Try.ntmps64
    go_wp2
    go_ret
    exact ⟨_, rfl, by omega, by omega, fun _ => rfl, hc, World.grownBy.refl _ _⟩
  by_cases h1 : n ≤ 256
  · go_enter Try.func64, Try.ntmps64
    go_wp2_with fail
    refine (byte_any p _ hc).mono ?_
    rintro e w1 ⟨x, rfl, hx0, hx1, hc1, hg1⟩
    go_wp2
    go_ret
    exact ⟨_, rfl, Int.emod_nonneg _ (by omega), fun _ => Int.emod_lt_of_pos _ (by omega), by omega, hc1, hg1⟩
  · go_enter Try.func64, Try.ntmps64
    go_wp2_with fail
    refine (byte_any p _ hc).mono ?_
    rintro e w1 ⟨x, rfl, hx0, hx1, hc1, hg1⟩
    go_wp2_with fail
    refine (byte_any p _ hc1).mono ?_
    rintro e w2 ⟨y, rfl, hy0, hy1, hc2, hg2⟩
    go_wp2_with fail
    refine (byte_any p _ hc2).mono ?_
    rintro e w3 ⟨z, rfl, hz0, hz1, hc3, hg3⟩
    go_wp2_with fail
    refine (byte_any p _ hc3).mono ?_
    rintro e w4 ⟨u, rfl, hu0, hu1, hc4, hg4⟩
    go_wp2
    go_ret
    exact ⟨_, rfl, Int.emod_nonneg _ (by omega), fun _ => Int.emod_lt_of_pos _ (by omega), by omega, hc4, grown_trans (grown_trans (grown_trans hg1 hg2) hg3) hg4⟩

theorem once_any (p : Nat) (n : Int) (w : World) (hc : Cur w p) (hn : n ≤ 9223372036854775807) :
    Calls Try.prog 95 #[.pointer (some ⟨p, 0, none⟩), .int .i64 n] w fun e w' => ∃ x : Bool, e = .returned (.bool x) ∧ Cur w' p ∧ w.grownBy w' (some p) := by
  go_enter Try.func95, Try.ntmps95
  go_wp2_with fail
  refine (below_any p n _ hc hn).mono ?_
  rintro e w1 ⟨x, rfl, hx0, -, -, hc1, hg1⟩
  go_wp2
  go_ret
  exact ⟨_, rfl, hc1, hg1⟩

theorem Rd.grown {w w' : World} {a : Option Addr} {vs : List Value} {p : Nat} (h : Rd w a vs) (hg : w.grownBy w' (some p)) (hne : ∀ x, a = some x → x.block ≠ p) : Rd w' a vs := by
  rcases h with h | ⟨b, off, ha, hc⟩
  · exact .inl h
  · refine .inr ⟨b, off, ha, fun i v hv => ?_⟩
    exact hg.cell (hc i v hv) (by simpa using hne _ ha)

set_option maxHeartbeats 800000 in
theorem pickInt_any (p : Nat) (a : Option Addr) (ns : List Int) (len cap : Nat) (w : World) (hlen : ns.length = len) (hc : Cur w p) (hr : Rd w a (ns.map (Value.int .i64))) (hne : ∀ x, a = some x → x.block ≠ p) (hl : 0 < ns.length) (hm : ns.length ≤ 1048576) :
    Calls Try.prog 68 #[.pointer (some ⟨p, 0, none⟩), .slice a len cap] w fun e w' => ∃ x : Int, e = .returned (.int .i64 x) ∧ x ∈ ns ∧ Cur w' p ∧ w.grownBy w' (some p) := by
  subst hlen
  go_enter Try.func68, Try.ntmps68
  go_wp2_with fail
  refine (below_any p ns.length _ hc (by omega)).mono ?_
  rintro e w1 ⟨x, rfl, hx0, hx1, -, hc1, hg1⟩
  have hx1 := hx1 (by omega)
  obtain ⟨k, rfl⟩ : ∃ k : Nat, x = k := ⟨x.toNat, by omega⟩
  have hk : k < ns.length := by omega
  obtain ⟨b, off, rfl, hck⟩ := rd_at (k := k) (hr.grown hg1 hne) (by simpa using hk)
  rw [List.getElem_map] at hck
  obtain ⟨z, HZ⟩ : ∃ z, Hid (ns[k] = z) := ⟨ns[k], rfl⟩
  rw [HZ.out] at hck
  have HM : Hid (z ∈ ns) := by show z ∈ ns; rw [← HZ.out]; exact List.getElem_mem hk
  clear hr hne HZ
  go_wp2
  go_ret
  exact ⟨z, rfl, HM.out, hc1, hg1⟩

set_option maxHeartbeats 800000 in
theorem pick_any (p : Nat) (a : Option Addr) (ns : List ByteArray) (len cap : Nat) (w : World) (hlen : ns.length = len) (hc : Cur w p) (hr : Rd w a (ns.map Value.string)) (hne : ∀ x, a = some x → x.block ≠ p) (hl : 0 < ns.length) (hm : ns.length ≤ 1048576) :
    Calls Try.prog 101 #[.pointer (some ⟨p, 0, none⟩), .slice a len cap] w fun e w' => ∃ x : ByteArray, e = .returned (.string x) ∧ x ∈ ns ∧ Cur w' p ∧ w.grownBy w' (some p) := by
  subst hlen
  go_enter Try.func101, Try.ntmps101
  go_wp2_with fail
  refine (below_any p ns.length _ hc (by omega)).mono ?_
  rintro e w1 ⟨x, rfl, hx0, hx1, -, hc1, hg1⟩
  have hx1 := hx1 (by omega)
  obtain ⟨k, rfl⟩ : ∃ k : Nat, x = k := ⟨x.toNat, by omega⟩
  have hk : k < ns.length := by omega
  obtain ⟨b, off, rfl, hck⟩ := rd_at (k := k) (hr.grown hg1 hne) (by simpa using hk)
  rw [List.getElem_map] at hck
  obtain ⟨z, HZ⟩ : ∃ z, Hid (ns[k] = z) := ⟨ns[k], rfl⟩
  rw [HZ.out] at hck
  have HM : Hid (z ∈ ns) := by show z ∈ ns; rw [← HZ.out]; exact List.getElem_mem hk
  clear hr hne HZ
  go_wp2
  go_ret
  exact ⟨z, rfl, HM.out, hc1, hg1⟩

end Go.Proofs.Ytelbannfbglgcaa

namespace Go.Proofs.Ytelbannfbglgcaa
open Go.RowKit

theorem rd_lit (w : World) (cs : Array Value) (e : TypeId) : Rd (w.alloc (.cells cs e)) (some ⟨w.heap.size, 0, none⟩) cs.toList := by
  refine .inr ⟨_, 0, rfl, fun i v hv => ?_⟩
  rw [Nat.zero_add, World.cell?_alloc_mark]
  simpa using hv

theorem owns_grown {w w' : World} {base : Nat} {e : TypeId} {size : Nat} {v : Value} {n : Nat} {xs : List Value} {p : Nat} (h : w.ownsRow base e size v n xs) (hg : w.grownBy w' (some p)) (hp : p < base) : w'.ownsRow base e size v n xs := by
  refine h.kept hg ?_
  cases hv : v.ownBlock with
  | none => exact .inl rfl
  | some k =>
    right
    have := (h.lt k hv).1
    intro e; injection e with e; omega
theorem grown_then {w w1 w2 : World} {p B : Nat} (h : w.grownBy w1 (some p)) (k : Below B w1 w2) (hB : w.heap.size ≤ B) : w.grownBy w2 (some p) :=
  ⟨k.os.trans h.os, k.tape.trans h.tape, k.output.trans h.output, Nat.le_trans h.size k.size, fun i hi hne => (k.block i (by omega)).trans (h.block i hi hne)⟩

theorem putB_range {x : Int} (_h : 0 ≤ x) : (putB x).length ≤ 5 := putB_len x

/-- A text's size, in a slot. -/
def strSize : Value → Nat | .string s => s.size | _ => 0
theorem q_size (s : ByteArray) : (s ++ ⟨#[113]⟩ : ByteArray).size = s.size + 1 := by
  rw [ByteArray.size_append]; rfl

set_option maxHeartbeats 1600000 in
theorem drawText_any (p : Nat) (w : World) (hc : Cur w p) (hp : p < w.heap.size) :
    Calls Try.prog 59 #[.pointer (some ⟨p, 0, none⟩)] w fun e w' => ∃ s : ByteArray, e = .returned (.string s) ∧ s.size ≤ 401 ∧ Cur w' p ∧ w.grownBy w' (some p) := by
  go_enter Try.func59, Try.ntmps59
  go_wp2_with fail
  refine (once_any p 20 _ hc (by omega)).mono ?_
  rintro e w1 ⟨o, rfl, hc1, hg1⟩
  have hs1 := hg1.size
  cases o with
  | false =>
    go_wp2_with fail
    refine (pick_any p _ [⟨#[]⟩, ⟨#[97]⟩, ⟨#[104, 101, 108, 108, 111]⟩, ⟨#[116, 119, 111, 32, 119, 111, 114, 100, 115]⟩, ⟨#[0, 255]⟩, ⟨#[100]⟩, ⟨#[102, 100, 97, 116, 97]⟩] 7 _ _ rfl (hc1.kept ((Below.refl _ _).alloc (by omega) _)) (rd_lit w1 _ _) (by intro x hx; simp at hx; subst hx; show w1.heap.size ≠ _; omega) (by simp) (by simp)).mono ?_
    rintro e w2 ⟨s, rfl, hs, hc2, hg2⟩
    have hsz : s.size ≤ 401 := by
      simp only [List.mem_cons, List.not_mem_nil, or_false] at hs
      rcases hs with rfl | rfl | rfl | rfl | rfl | rfl | rfl <;> decide
    have hgw2 := grown_trans (grown_then hg1 ((Below.refl w1.heap.size w1).alloc (Nat.le_refl _) _) hs1) hg2
    clear hs hg2 hg1 hc1 hc
    go_wp2
    go_ret
    exact ⟨s, rfl, hsz, hc2, hgw2⟩
  | true =>
    go_wp2_with fail
    go_loopw [3] (fun v wr => ∃ s : ByteArray, v = .string s ∧ s.size ≤ 401 ∧ Cur wr p ∧ w.grownBy wr (some p)) (fun v _ => 402 - strSize v)
    case atStart => exact ⟨_, rfl, by decide, hc1, hg1⟩
    case round =>
      obtain ⟨s, rfl, hsz, hcw, hg⟩ := hrel
      go_wp2_with fail
      refine (below_any p 2 _ hcw (by omega)).mono ?_
      rintro e w2 ⟨x, rfl, hx0, hx1, -, hc2, hg2⟩
      have hx1 := hx1 (by omega)
      have hgw := grown_trans hg hg2
      clear hg hg2 hcw hc1 hg1 hc
      by_cases hlt : (s.size : Int) < 400 + x
      · have hq := q_size s
        have HQ : Hid ((s ++ ⟨#[113]⟩ : ByteArray).size = s.size + 1) := hq
        clear hq
        go_wp2_with fail
        go_roundw
        case rel => exact ⟨_, rfl, by rw [HQ.out]; omega, hc2, hgw⟩
        case measure => simp only [strSize]; rw [HQ.out]; omega
      · go_wp2
        go_ret
        exact ⟨_, rfl, hsz, hc2, hgw⟩

theorem owns_opened {w : World} {base : Nat} {v : Value} {zs : List Int} (h : w.ownsRow base 5 1 v zs.length (u8s zs)) : ∃ a cap, v = .slice a zs.length cap ∧ Rd w a (u8s zs) ∧ zs.length ≤ cap := by
  rcases id h with ⟨_, ⟨rfl, h0⟩ | ⟨g, cap, cur, rfl, -, -, hn, -⟩⟩
  · have : zs = [] := List.eq_nil_of_length_eq_zero h0
    subst this
    exact ⟨none, 0, rfl, .inl rfl, Nat.le_refl _⟩
  · exact ⟨some ⟨g, 0, none⟩, cap, rfl, Rd.of_owns h, hn⟩

end Go.Proofs.Ytelbannfbglgcaa

namespace Go.Proofs.Ytelbannfbglgcaa
open Go.RowKit

theorem C4.grown {u u' : World} {p q : Nat} {x0 x1 x2 x3 : Value} (h : C4 u q x0 x1 x2 x3) (hg : u.grownBy u' (some p)) (hne : q ≠ p) : C4 u' q x0 x1 x2 x3 := by
  have hn : ∀ j, some (⟨q, j, none⟩ : Addr).block ≠ some p := fun j e => hne (Option.some.inj e)
  exact ⟨⟨hg.cell h.1.1 (hn 0), hg.cell h.1.2.1 (hn 1), hg.cell h.1.2.2.1 (hn 2), hg.cell h.1.2.2.2 (hn 3)⟩, fun j => (frozen_far hg ⟨q, j, none⟩ h.lt (hn j)).trans (h.2 j)⟩
theorem FtlOwn.grown {u u' : World} {p base : Nat} {v : Value} {ps : List ByteArray} {ws ms : List Int} {q : Int} (h : FtlOwn u base v ps ws ms q) (hg : u.grownBy u' (some p)) (hp : p < base) : FtlOwn u' base v ps ws ms q := by
  obtain ⟨v1, v2, v3, rfl, h1, h2, h3, h4⟩ := h
  exact ⟨v1, v2, v3, rfl, owns_grown h1 hg hp, owns_grown h2 hg hp, owns_grown h3 hg hp, h4⟩
theorem ftlOwn_set {u : World} {base : Nat} {v : Value} {ps : List ByteArray} {ws ms : List Int} {q : Int} (h : FtlOwn u base v ps ws ms q) {B : Nat} (hB : B < base) (j : Nat) (x : Value) : FtlOwn (u.setCell ⟨B, j, none⟩ x) base v ps ws ms q := by
  obtain ⟨v1, v2, v3, rfl, h1, h2, h3, h4⟩ := h
  exact ⟨v1, v2, v3, rfl, ftlRows_set h1 hB x, ftlRows_set h2 hB x, ftlRows_set h3 hB x, h4⟩
theorem ftlOwn_lower {w : World} {base base' : Nat} {v : Value} {ps : List ByteArray} {ws ms : List Int} {q : Int} (h : FtlOwn w base' v ps ws ms q) (hb : base ≤ base') : FtlOwn w base v ps ws ms q := by
  obtain ⟨v1, v2, v3, hv, o1, o2, o3, hh⟩ := h
  exact ⟨v1, v2, v3, hv, owns_mono o1 hb, owns_mono o2 hb, owns_mono o3 hb, hh⟩

/-- What is drawn so far: in block F, its rows from base on; the result's block R below them. -/
def DSt (u : World) (R F base : Nat) : Prop :=
  ∃ a c b d e f ps ws ms q, C4 u F (.slice a ps.length c) (.slice b ws.length d) (.slice e ms.length f) (.int .i64 q) ∧ (∃ x0 x1 x2 x3, C4 u R x0 x1 x2 x3) ∧
    FtlOwn u base (.agg #[.slice a ps.length c, .slice b ws.length d, .slice e ms.length f, .int .i64 q]) ps ws ms q ∧ ftlOkB ps ws ms q = true ∧ R < base ∧ base ≤ F
theorem DSt.below {u u' : World} {R F base : Nat} (h : DSt u R F base) (hb : Below u.heap.size u u') : DSt u' R F base := by
  obtain ⟨a, c, b, d, e, f, ps, ws, ms, q, h1, ⟨x0, x1, x2, x3, h2⟩, h3, h4⟩ := h
  exact ⟨a, c, b, d, e, f, ps, ws, ms, q, h1.below hb, ⟨x0, x1, x2, x3, h2.below hb⟩, h3.below hb, h4⟩
theorem DSt.grown {u u' : World} {R F base p : Nat} (h : DSt u R F base) (hg : u.grownBy u' (some p)) (hp : p < R) : DSt u' R F base := by
  obtain ⟨a, c, b, d, e, f, ps, ws, ms, q, h1, ⟨x0, x1, x2, x3, h2⟩, h3, h4, h5, h6⟩ := h
  exact ⟨a, c, b, d, e, f, ps, ws, ms, q, h1.grown hg (by omega), ⟨x0, x1, x2, x3, h2.grown hg (by omega)⟩, h3.grown hg (by omega), h4, h5, h6⟩
/-- Another one is taken over. -/
theorem DSt.take {u : World} {R F base lo : Nat} {a b e : Option Addr} {c d f : Nat} {ps : List ByteArray} {ws ms : List Int} {q : Int} (h : DSt u R F base) (ho : FtlOwn u lo (.agg #[.slice a ps.length c, .slice b ws.length d, .slice e ms.length f, .int .i64 q]) ps ws ms q) (hok : ftlOkB ps ws ms q = true) (hlo : F < lo) :
    DSt ((((u.setCell ⟨F, 0, none⟩ (.slice a ps.length c)).setCell ⟨F, 1, none⟩ (.slice b ws.length d)).setCell ⟨F, 2, none⟩ (.slice e ms.length f)).setCell ⟨F, 3, none⟩ (.int .i64 q)) R F base := by
  obtain ⟨a1, c1, b1, d1, e1, f1, ps1, ws1, ms1, q1, h1, ⟨x0, x1, x2, x3, h2⟩, -, -, h5, h6⟩ := h
  have hne : F ≠ R := by omega
  refine ⟨a, c, b, d, e, f, ps, ws, ms, q, ?_, ⟨x0, x1, x2, x3, (((h2.other hne _).other hne _).other hne _).other hne _⟩, ftlOwn_lower (ftlOwn_set (ftlOwn_set (ftlOwn_set (ftlOwn_set ho hlo 0 _) hlo 1 _) hlo 2 _) hlo 3 _) (by omega), hok, h5, h6⟩
  exact (((h1.set0 _).set1 _).set2 _).set3 _

/-- One of the texts. -/
theorem pick4 (p b : Nat) (u : World) (hc : Cur u p) (hr : Rd u (some ⟨b, 0, none⟩) [Value.string ⟨#[]⟩, Value.string ⟨#[97]⟩, Value.string ⟨#[98, 98]⟩, Value.string ⟨#[104, 101, 108, 108, 111]⟩]) (hb : b ≠ p) :
    Calls Try.prog 101 #[.pointer (some ⟨p, 0, none⟩), .slice (some ⟨b, 0, none⟩) 4 4] u fun e w' => ∃ t : ByteArray, e = .returned (.string t) ∧ t.size ≤ 5 ∧ Cur w' p ∧ u.grownBy w' (some p) := by
  refine (pick_any p (some ⟨b, 0, none⟩) [⟨#[]⟩, ⟨#[97]⟩, ⟨#[98, 98]⟩, ⟨#[104, 101, 108, 108, 111]⟩] 4 4 u rfl hc hr (by intro x hx; simp at hx; subst hx; exact hb) (by simp) (by simp)).mono ?_
  rintro e w' ⟨t, rfl, ht, h1, h2⟩
  refine ⟨t, rfl, ?_, h1, h2⟩
  simp only [List.mem_cons, List.not_mem_nil, or_false] at ht
  rcases ht with rfl | rfl | rfl | rfl <;> decide
/-- What a plan of what is right leaves, as a draw takes it. -/
def PlanD (u w' : World) (ok : Bool) (a1 : Option Addr) (k1 : Nat) (cs : List (Int × Int × ByteArray)) (a : Option Addr) (c : Nat) (b : Option Addr) (d : Nat) (e : Option Addr) (f : Nat) (ps : List ByteArray) (ws ms : List Int) (q : Int) : Prop :=
  w'.ownsRow u.heap.size 68 3 (.slice a1 cs.length k1) cs.length (vsAct cs) ∧ FtlOwn w' u.heap.size (.agg #[.slice a ps.length c, .slice b ws.length d, .slice e ms.length f, .int .i64 q]) ps ws ms q ∧ ftlOkB ps ws ms q = true ∧ (ok = true → Short cs ∧ cs ≠ [] ∧ cs.length ≤ 2000)
theorem planD_any (a b e0 : Option Addr) (ps : List ByteArray) (ws ms : List Int) (c d f : Nat) (q s : Int) (t : ByteArray) (w : World) (hp : Rd w a (vsString ps)) (hw : Rd w b (vsInt ws)) (hms : Rd w e0 (vsInt ms)) (hok : ftlOkB ps ws ms q = true) (ht : t.size ≤ 5) (hs : 0 ≤ s ∧ s < 26) :
    Calls Try.prog 120 #[.agg #[.slice a ps.length c, .slice b ws.length d, .slice e0 ms.length f, .int .i64 q], .int .i64 s, .string t] w fun e w' => ∃ ok a1 k1 cs a c b d e0 f ps ws ms q, e = .returned (.tuple #[.slice a1 (List.length cs) k1, .agg #[.slice a (List.length ps) c, .slice b (List.length ws) d, .slice e0 (List.length ms) f, .int .i64 q], .bool ok]) ∧ PlanD w w' ok a1 k1 cs a c b d e0 f ps ws ms q ∧ Below w.heap.size w w' := by
  refine (specPlan_ok a b e0 ps ws ms c d f q s t w hp hw hms hok (by omega) (by omega) (by omega)).mono ?_
  rintro e w' ⟨va, vf, rfl, h1, h2, hb⟩
  obtain ⟨hch, -, -⟩ := ftlOk_parts hok
  cases hr : pPlan ps ws s t with
  | none =>
    obtain ⟨ha, hf⟩ := h2 hr
    obtain ⟨a1, k1, rfl⟩ := owns3_shape ha
    obtain ⟨a', c', b', d', e', f', rfl⟩ := hf.shape
    exact ⟨_, _, _, [], _, _, _, _, _, _, _, _, _, _, rfl, ⟨ha, hf, hok, fun h => (by cases h)⟩, hb⟩
  | some r =>
    obtain ⟨ha, hf⟩ := h1 r hr
    obtain ⟨a1, k1, rfl⟩ := owns3_shape ha
    obtain ⟨a', c', b', d', e', f', rfl⟩ := hf.shape
    have hri := pPlan_right hch hr
    have hsh := pPlan_short hr
    exact ⟨_, _, _, r.2.2, _, _, _, _, _, _, _, _, _, _, rfl, ⟨ha, hf, ftlOk_of hri.1, fun _ => ⟨hsh.1, hsh.2, by omega⟩⟩, hb⟩
end Go.Proofs.Ytelbannfbglgcaa
