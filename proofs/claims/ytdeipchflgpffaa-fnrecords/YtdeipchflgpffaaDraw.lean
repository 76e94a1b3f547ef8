/-
  Contracts of the cursor of the draws (l1New, l1Byte, l1Below, l1Once, l1PickInt, l1Pick): each hands back SOME value of its range, writes into the cursor's block alone, and keeps the cursor fit.
-/
import Derived.Test.YtdeipchflgpffaaHelp
namespace Go.Proofs.Ytdeipchflgpffaa
open Go.RowKit

/-- The cursor in block p is fit: its bytes lie below p. -/
def Cur (w : World) (p : Nat) : Prop :=
  ∃ (a : Option Addr) (zs : List Int) (cap : Nat) (i h : Int), w.cell? ⟨p, 0, none⟩ = some (.slice a zs.length cap) ∧ w.cell? ⟨p, 1, none⟩ = some (.int .i64 i) ∧ w.cell? ⟨p, 2, none⟩ = some (.int .i64 h) ∧
    w.frozen? ⟨p, 1, none⟩ = false ∧ w.frozen? ⟨p, 2, none⟩ = false ∧ 0 ≤ i ∧ i ≤ 1048576 ∧ Rd w a (u8s zs) ∧ IsBytes zs ∧ zs.length ≤ 1048576 ∧ (zs = [] ∨ ∀ x, a = some x → x.block < p)

theorem Rd.at_below {B : Nat} {w w' : World} {a : Option Addr} {vs : List Value} (h : Rd w a vs) (hlt : vs = [] ∨ ∀ x, a = some x → x.block < B) (hb : Below B w w') : Rd w' a vs := by
  rcases hlt with hlt | hlt
  · exact .inl hlt
  rcases h with h | ⟨b, off, ha, hc⟩
  · exact .inl h
  · refine .inr ⟨b, off, ha, fun i v hv => ?_⟩
    have hl := hlt _ ha
    rw [hb.cell (p := ⟨b, off + i, none⟩) hl]
    exact hc i v hv

/-- Nothing up to the cursor's block has turned: the cursor is as it was. -/
theorem Cur.kept {w w' : World} {p : Nat} (h : Cur w p) (hb : Below (p + 1) w w') : Cur w' p := by
  obtain ⟨a, zs, cap, i, q, h0, h1, h2, f1, f2, hi, hi2, hr, hby, hl, hlt⟩ := h
  refine ⟨a, zs, cap, i, q, ?_, ?_, ?_, ?_, ?_, hi, hi2, hr.at_below (B := p + 1) (hlt.imp (fun e => by rw [e]; rfl) (fun h x hx => by have := h x hx; omega)) hb, hby, hl, hlt⟩
  · rw [hb.cell (p := ⟨p, 0, none⟩) (by show p < p + 1; omega)]; exact h0
  · rw [hb.cell (p := ⟨p, 1, none⟩) (by show p < p + 1; omega)]; exact h1
  · rw [hb.cell (p := ⟨p, 2, none⟩) (by show p < p + 1; omega)]; exact h2
  · rw [hb.frozen (p := ⟨p, 1, none⟩) (by show p < p + 1; omega)]; exact f1
  · rw [hb.frozen (p := ⟨p, 2, none⟩) (by show p < p + 1; omega)]; exact f2

theorem grown_drew {w w' : World} {row : Option Nat} (h : w.grownBy w' row) (n : Nat) : w.grownBy (w'.drewN n) row := ⟨h.os, h.tape, h.output, h.size, h.block⟩
theorem grown_set (w : World) (p o : Nat) (v : Value) : w.grownBy (w.setCell ⟨p, o, none⟩ v) (some p) :=
  ⟨rfl, rfl, rfl, by simp [World.setCell], fun k _ hk => Below.heap_setCell _ _ _ _ (fun e => hk (by rw [e]))⟩

theorem and255 (a : Int) : 0 ≤ bits .and .i64 a 255 ∧ bits .and .i64 a 255 ≤ 255 := by
  have h2 : (BitVec.ofInt 64 (255 : Int)).toNat = 255 := by decide
  have hx : (BitVec.ofInt 64 a).toNat &&& 255 ≤ 255 := Nat.and_le_right
  have e : bits .and .i64 a 255 = (((BitVec.ofInt 64 a).toNat &&& 255 : Nat) : Int) := by
    show IntKind.i64.wrap ((BitVec.ofInt 64 a &&& BitVec.ofInt 64 (255 : Int)).toNat : Int) = _
    rw [BitVec.toNat_and, h2]
    generalize (BitVec.ofInt 64 a).toNat &&& 255 = q at hx ⊢
    simp [IntKind.wrap, IntKind.bits, IntKind.signed]
    omega
  rw [e]; omega

theorem Cur.seth {w : World} {p : Nat} (hc : Cur w p) (q : Int) : Cur (w.setCell ⟨p, 2, none⟩ (.int .i64 q)) p := by
  obtain ⟨a, zs, cap, i, h, h0, h1, h2, f1, f2, hi, hi2, hr, hby, hl, hlt⟩ := hc
  have hb : Below p w (w.setCell ⟨p, 2, none⟩ (.int .i64 q)) := Below.setCell (Below.refl p w) (Nat.le_refl p) _
  refine ⟨a, zs, cap, i, q, ?_, ?_, World.cell?_setCell_same w _ _ h2, ?_, ?_, hi, hi2, hr.at_below (hlt.imp (fun e => by rw [e]; rfl) id) hb, hby, hl, hlt⟩
  · simpa [go_sem] using h0
  · simpa [go_sem] using h1
  · simpa using f1
  · simpa using f2
theorem Cur.seti {w : World} {p : Nat} (hc : Cur w p) (q : Int) (hq : 0 ≤ q ∧ q ≤ 1048576) : Cur (w.setCell ⟨p, 1, none⟩ (.int .i64 q)) p := by
  obtain ⟨a, zs, cap, i, h, h0, h1, h2, f1, f2, hi, hi2, hr, hby, hl, hlt⟩ := hc
  have hb : Below p w (w.setCell ⟨p, 1, none⟩ (.int .i64 q)) := Below.setCell (Below.refl p w) (Nat.le_refl p) _
  refine ⟨a, zs, cap, q, h, ?_, World.cell?_setCell_same w _ _ h1, ?_, ?_, ?_, hq.1, hq.2, hr.at_below (hlt.imp (fun e => by rw [e]; rfl) id) hb, hby, hl, hlt⟩
  · simpa [go_sem] using h0
  · simpa [go_sem] using h2
  · simpa using f1
  · simpa using f2
theorem Cur.drewN {w : World} {p : Nat} (hc : Cur w p) (n : Nat) : Cur (w.drewN n) p := hc

set_option maxHeartbeats 1600000 in
theorem byte_any (p : Nat) (w : World) (hc : Cur w p) :
    Calls Try.prog 34 #[.pointer (some ⟨p, 0, none⟩)] w fun e w' => ∃ x : Int, e = .returned (.int .i64 x) ∧ 0 ≤ x ∧ x ≤ 255 ∧ Cur w' p ∧ w.grownBy w' (some p) := by
  have HC : Hid (Cur w p) := hc
  obtain ⟨a, zs, cap, i, h, h0, h1, h2, f1, f2, hi, hi2, hr, hby, hl, hlt⟩ := hc
  by_cases hin : i < zs.length
  · obtain ⟨k, rfl⟩ : ∃ k : Nat, i = k := ⟨i.toNat, by omega⟩
    obtain ⟨b, off, z, rfl, hck, hz, HZ⟩ := rd_u8_at hr hby (show k < zs.length by omega)
    have hbp : ¬ b = p := by
      rcases hlt with h | h
      · subst h; simp at hin; omega
      · have := h _ rfl; simp at this; omega
    clear hr hlt
    go_enter Try.func34, Try.ntmps34
    go_wp2
    go_quiet (fail)
    go_wp2
    go_quiet (fail)
    go_wp2
    go_quiet (fail)
    go_wp2
    go_ret
    refine ⟨_, rfl, (and255 _).1, (and255 _).2, (HC.out.seth _).seti _ (by omega), ?_⟩
    exact grown_trans (grown_drew (grown_set _ _ _ _) _) (grown_set _ _ _ _)
  · clear hr
    go_enter Try.func34, Try.ntmps34
    go_wp2
    go_quiet (fail)
    go_wp2
    go_quiet (fail)
    go_wp2
    go_ret
    exact ⟨_, rfl, (and255 _).1, (and255 _).2, HC.out.seth _, grown_drew (grown_drew (grown_set _ _ _ _) _) _⟩

set_option maxHeartbeats 800000 in
theorem new_any (a : Option Addr) (zs : List Int) (cap : Nat) (w : World) (hr : Rd w a (u8s zs)) (hb : IsBytes zs) (hm : zs.length ≤ 1048576) :
    Calls Try.prog 16 #[.slice a zs.length cap] w fun e w' => e = .returned (.pointer (some ⟨w.heap.size, 0, none⟩)) ∧ Cur w' w.heap.size ∧ Below w.heap.size w w' ∧ w.heap.size < w'.heap.size := by
  go_enter Try.func16, Try.ntmps16
  go_wp2
  go_loop [3, 4] (fun h i => ∃ (k : Nat) (q : Int), k ≤ zs.length ∧ i = .int .i64 k ∧ h = .int .i64 q) (fun _ i => zs.length - (intOf i).toNat)
  case atStart => exact ⟨0, _, Nat.zero_le _, rfl, rfl⟩
  case round =>
    obtain ⟨k, q, hk, rfl, rfl⟩ := hrel
    have fin : ∀ q : Int, Hid (Cur (w.alloc (.cells #[.slice a zs.length cap, .int .i64 0, .int .i64 q] 51)) w.heap.size) := by
      intro q
      have hbel : Below w.heap.size w (w.alloc (.cells #[.slice a zs.length cap, .int .i64 0, .int .i64 q] 51)) := (Below.refl _ _).alloc (Nat.le_refl _) _
      refine ⟨a, zs, cap, 0, q, by simp [go_sem], by simp [go_sem], by simp [go_sem], by simp [go_sem], by simp [go_sem], by omega, by omega, hr.below hbel, hb, hm, ?_⟩
      rcases hr with h | ⟨b, off, rfl, hc⟩
      · left; simpa using h
      · by_cases h0 : zs = []
        · exact .inl h0
        · right
          intro x hx
          cases zs with
          | nil => exact absurd rfl h0
          | cons z r =>
            have := lt_of_cell (hc 0 (.int .u8 z) rfl)
            simp at hx; subst hx; exact this
    by_cases hlt : k < zs.length
    · by_cases h4 : (k : Int) < 4000
      · obtain ⟨b, off, z, rfl, hck, hz, HZ⟩ := rd_u8_at hr hb hlt
        clear hr fin
        go_wp2
        go_round
        case rel => exact ⟨k + 1, _, by omega, by go_num, rfl⟩
        case measure => simp [intOf]; omega
      · clear hr
        go_wp2
        go_ret
        exact ⟨rfl, (fin q).out, (Below.refl _ _).alloc (Nat.le_refl _) _, by simp⟩
    · clear hr
      go_wp2
      go_ret
      exact ⟨rfl, (fin q).out, (Below.refl _ _).alloc (Nat.le_refl _) _, by simp⟩

set_option maxHeartbeats 800000 in
theorem below_any (p : Nat) (n : Int) (w : World) (hc : Cur w p) (hn : n ≤ 9223372036854775807) :
    Calls Try.prog 24 #[.pointer (some ⟨p, 0, none⟩), .int .i64 n] w fun e w' => ∃ x : Int, e = .returned (.int .i64 x) ∧ 0 ≤ x ∧ (0 < n → x < n) ∧ (n ≤ 0 → x = 0) ∧ Cur w' p ∧ w.grownBy w' (some p) := by
  by_cases h0 : n ≤ 0
  · go_enter Try.func24, Try.ntmps24
    go_wp2
    go_ret
    exact ⟨_, rfl, by omega, by omega, fun _ => rfl, hc, World.grownBy.refl _ _⟩
  by_cases h1 : n ≤ 256
  · go_enter Try.func24, Try.ntmps24
    go_wp2_with fail
    refine (byte_any p _ hc).mono ?_
    rintro e w1 ⟨x, rfl, hx0, hx1, hc1, hg1⟩
    go_wp2
    go_ret
    exact ⟨_, rfl, Int.emod_nonneg _ (by omega), fun _ => Int.emod_lt_of_pos _ (by omega), by omega, hc1, hg1⟩
  · go_enter Try.func24, Try.ntmps24
    go_wp2_with fail
    refine (byte_any p _ hc).mono ?_
    rintro e w1 ⟨x, rfl, hx0, hx1, hc1, hg1⟩
    go_wp2_with fail
    refine (byte_any p _ hc1).mono ?_
    rintro e w2 ⟨y, rfl, hy0, hy1, hc2, hg2⟩
    go_wp2_with fail
    refine (byte_any p _ hc2).mono ?_
    rintro e w3 ⟨z, rfl, hz0, hz1, hc3, hg3⟩
    go_wp2_with fail
    refine (byte_any p _ hc3).mono ?_
    rintro e w4 ⟨u, rfl, hu0, hu1, hc4, hg4⟩
    go_wp2
    go_ret
    exact ⟨_, rfl, Int.emod_nonneg _ (by omega), fun _ => Int.emod_lt_of_pos _ (by omega), by omega, hc4, grown_trans (grown_trans (grown_trans hg1 hg2) hg3) hg4⟩

theorem once_any (p : Nat) (n : Int) (w : World) (hc : Cur w p) (hn : n ≤ 9223372036854775807) :
    Calls Try.prog 35 #[.pointer (some ⟨p, 0, none⟩), .int .i64 n] w fun e w' => ∃ x : Bool, e = .returned (.bool x) ∧ Cur w' p ∧ w.grownBy w' (some p) := by
  go_enter Try.func35, Try.ntmps35
  go_wp2_with fail
  refine (below_any p n _ hc hn).mono ?_
  rintro e w1 ⟨x, rfl, hx0, -, -, hc1, hg1⟩
  go_wp2
  go_ret
  exact ⟨_, rfl, hc1, hg1⟩

theorem Rd.grown {w w' : World} {a : Option Addr} {vs : List Value} {p : Nat} (h : Rd w a vs) (hg : w.grownBy w' (some p)) (hne : ∀ x, a = some x → x.block ≠ p) : Rd w' a vs := by
  rcases h with h | ⟨b, off, ha, hc⟩
  · exact .inl h
  · refine .inr ⟨b, off, ha, fun i v hv => ?_⟩
    exact hg.cell (hc i v hv) (by simpa using hne _ ha)

set_option maxHeartbeats 800000 in
theorem pickInt_any (p : Nat) (a : Option Addr) (ns : List Int) (len cap : Nat) (w : World) (hlen : ns.length = len) (hc : Cur w p) (hr : Rd w a (ns.map (Value.int .i64))) (hne : ∀ x, a = some x → x.block ≠ p) (hl : 0 < ns.length) (hm : ns.length ≤ 1048576) :
    Calls Try.prog 30 #[.pointer (some ⟨p, 0, none⟩), .slice a len cap] w fun e w' => ∃ x : Int, e = .returned (.int .i64 x) ∧ x ∈ ns ∧ Cur w' p ∧ w.grownBy w' (some p) := by
  subst hlen
  go_enter Try.func30, Try.ntmps30
  go_wp2_with fail
  refine (below_any p ns.length _ hc (by omega)).mono ?_
  rintro e w1 ⟨x, rfl, hx0, hx1, -, hc1, hg1⟩
  have hx1 := hx1 (by omega)
  obtain ⟨k, rfl⟩ : ∃ k : Nat, x = k := ⟨x.toNat, by omega⟩
  have hk : k < ns.length := by omega
  obtain ⟨b, off, rfl, hck⟩ := rd_at (k := k) (hr.grown hg1 hne) (by simpa using hk)
  rw [List.getElem_map] at hck
  obtain ⟨z, HZ⟩ : ∃ z, Hid (ns[k] = z) := ⟨ns[k], rfl⟩
  rw [HZ.out] at hck
  have HM : Hid (z ∈ ns) := by show z ∈ ns; rw [← HZ.out]; exact List.getElem_mem hk
  clear hr hne HZ
  go_wp2
  go_ret
  exact ⟨z, rfl, HM.out, hc1, hg1⟩

set_option maxHeartbeats 800000 in
theorem pick_any (p : Nat) (a : Option Addr) (ns : List ByteArray) (len cap : Nat) (w : World) (hlen : ns.length = len) (hc : Cur w p) (hr : Rd w a (ns.map Value.string)) (hne : ∀ x, a = some x → x.block ≠ p) (hl : 0 < ns.length) (hm : ns.length ≤ 1048576) :
    Calls Try.prog 25 #[.pointer (some ⟨p, 0, none⟩), .slice a len cap] w fun e w' => ∃ x : ByteArray, e = .returned (.string x) ∧ x ∈ ns ∧ Cur w' p ∧ w.grownBy w' (some p) := by
  subst hlen
  go_enter Try.func25, Try.ntmps25
  go_wp2_with fail
  refine (below_any p ns.length _ hc (by omega)).mono ?_
  rintro e w1 ⟨x, rfl, hx0, hx1, -, hc1, hg1⟩
  have hx1 := hx1 (by omega)
  obtain ⟨k, rfl⟩ : ∃ k : Nat, x = k := ⟨x.toNat, by omega⟩
  have hk : k < ns.length := by omega
  obtain ⟨b, off, rfl, hck⟩ := rd_at (k := k) (hr.grown hg1 hne) (by simpa using hk)
  rw [List.getElem_map] at hck
  obtain ⟨z, HZ⟩ : ∃ z, Hid (ns[k] = z) := ⟨ns[k], rfl⟩
  rw [HZ.out] at hck
  have HM : Hid (z ∈ ns) := by show z ∈ ns; rw [← HZ.out]; exact List.getElem_mem hk
  clear hr hne HZ
  go_wp2
  go_ret
  exact ⟨z, rfl, HM.out, hc1, hg1⟩

end Go.Proofs.Ytdeipchflgpffaa
