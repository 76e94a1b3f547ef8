/-
  Contract of the specification's l1In.
  Contracts of impl.PutNum and spec.PutNum: each hands back a new row of the number's bytes.
  Contracts of impl.GetNum (a place behind a pointer, a panic that is recovered) and spec.GetNum.
-/
import Derived.Test.YtelbannfbglgcaaChecked
import Derived.Test.YtelbannfbglgcaaJMounted0
import Derived.Defers
import Derived.Recover
namespace Go.Proofs.Ytelbannfbglgcaa
open Go.RowKit

theorem in_any (x lo hi : Int) (w : World) : Calls Try.prog 63 #[.int .i64 x, .int .i64 lo, .int .i64 hi] w fun e w' => e = .returned (.bool (decide (lo ≤ x ∧ x ≤ hi))) ∧ w' = w := by
  by_cases h1 : lo ≤ x
  · by_cases h2 : x ≤ hi
    · go_enter Try.func63, Try.ntmps63
      go_wp2
      go_ret
      exact ⟨ret_bool (by simp [h1, h2]), rfl⟩
    · go_enter Try.func63, Try.ntmps63
      go_wp2
      go_ret
      exact ⟨ret_bool (by simp; omega), rfl⟩
  · go_enter Try.func63, Try.ntmps63
    go_wp2
    go_ret
    exact ⟨ret_bool (by simp; omega), rfl⟩

end Go.Proofs.Ytelbannfbglgcaa

namespace Go.Proofs.Ytelbannfbglgcaa
open Go.RowKit

/-- The bytes of a number, with room for f bytes ahead of the last. -/
def numF : Nat → Int → List Int
  | 0, n => [n]
  | f + 1, n => if n < 128 then [n] else (n % 128 + 128) :: numF f (n / 128)
/-- What is beyond f + 1 bytes. -/
def lim : Nat → Int
  | 0 => 128
  | f + 1 => 128 * lim f
/-- What PutNum tells. -/
def putB (n : Int) : List Int := if 0 ≤ n ∧ n ≤ 1000000000 then numF 4 n else []

theorem numF_small {f : Nat} {n : Int} (h : n < 128) : numF f n = [n] := by
  cases f <;> simp [numF, h]
theorem numF_great {f : Nat} {n : Int} (h : ¬ n < 128) : numF (f + 1) n = (n % 128 + 128) :: numF f (n / 128) := by simp [numF, h]
theorem lim_div {f : Nat} {n : Int} (h : n < lim (f + 1)) : n / 128 < lim f := by unfold lim at h; omega
theorem lim_pos {f : Nat} {n : Int} (h : n < lim f) (h1 : ¬ n < 128) : ∃ g, f = g + 1 := by
  cases f with
  | zero => simp [lim] at h; omega
  | succ g => exact ⟨g, rfl⟩
theorem numF_len (f : Nat) (n : Int) : 1 ≤ (numF f n).length ∧ (numF f n).length ≤ f + 1 := by
  induction f generalizing n with
  | zero => simp [numF]
  | succ f ih =>
    unfold numF
    split
    · simp
    · have := ih (n / 128); simp only [List.length_cons]; omega
theorem numF_bytes (f : Nat) (n : Int) (h0 : 0 ≤ n) (h : n < lim f) : IsBytes (numF f n) := by
  induction f generalizing n with
  | zero => intro z hz; simp [numF] at hz; subst hz; simp [lim] at h; omega
  | succ f ih =>
    intro z hz
    unfold numF at hz
    split at hz
    · simp at hz; subst hz; omega
    · simp only [List.mem_cons] at hz
      rcases hz with rfl | hz
      · omega
      · exact ih (n / 128) (by omega) (lim_div h) z hz
theorem putB_bytes (n : Int) : IsBytes (putB n) := by
  unfold putB
  split
  · rename_i h; exact numF_bytes 4 n h.1 (by simp [lim]; omega)
  · intro z hz; simp at hz
theorem putB_len (n : Int) : (putB n).length ≤ 5 := by
  unfold putB
  split
  · have := (numF_len 4 n).2; omega
  · simp

/-- A row of bytes that is owned, as a slice that can be read. -/
theorem owns_open {w : World} {base : Nat} {v : Value} {zs : List Int} (h : w.ownsRow base 5 1 v zs.length (u8s zs)) : ∃ a cap, v = .slice a zs.length cap ∧ Rd w a (u8s zs) := by
  rcases id h with ⟨_, ⟨rfl, h0⟩ | ⟨g, cap, cur, rfl, -⟩⟩
  · have : zs = [] := List.eq_nil_of_length_eq_zero h0
    subst this
    exact ⟨none, 0, rfl, .inl rfl⟩
  · exact ⟨some ⟨g, 0, none⟩, cap, rfl, Rd.of_owns h⟩

theorem one_byte (z : Int) : ∀ u ∈ ([.int .u8 z] : List Value), u.oneCell' = true := by intro u hu; simp at hu; subst hu; rfl

set_option maxRecDepth 100000 in
set_option maxHeartbeats 800000 in
theorem specPutNum_any (n : Int) (w : World) (_h1 : -9223372036854775808 ≤ n) (_h2 : n ≤ 9223372036854775807) :
    Calls Try.prog 129 #[.int .i64 n] w fun e w' => ∃ v, e = .returned v ∧ w'.ownsRow w.heap.size 5 1 v (putB n).length (u8s (putB n)) ∧ Below w.heap.size w w' := by
  obtain ⟨i0, hi, hz0, hz1, hz2⟩ := info_parts info5
  by_cases hin : 0 ≤ n ∧ n ≤ 1000000000
  · have hp : Hid (putB n = numF 4 n) := by show _ = _; unfold putB; rw [if_pos hin]
    have hl0 : Hid (n < lim 4) := by show _ < _; simp [lim]; omega
    go_enter Try.func129, Try.ntmps129
    go_wp2_with (go_at_call 63; refine (in_any _ _ _ _).mono ?_; rintro e w' ⟨rfl, rfl⟩)
    have hown0 : (w.alloc (Obj.cells #[] 5)).ownsRow w.heap.size 5 1 (.slice (some ⟨w.heap.size, 0, none⟩) 0 0) 0 [] := World.ownsRow_lit w #[] 0 (Nat.le_refl _) (by unfold maxLen; omega) rfl
    go_loopw [0, 3] (fun q v wr => ∃ (acc : List Int) (f : Nat) (m : Int), q = .int .i64 m ∧ 0 ≤ m ∧ m ≤ 1000000000 ∧ Hid (m < lim f) ∧ Hid (putB n = acc ++ numF f m) ∧ acc.length + f = 4 ∧ wr.ownsRow w.heap.size 5 1 v acc.length (u8s acc) ∧ Below w.heap.size w wr) (fun q _ _ => (intOf q).toNat)
    case atStart => exact ⟨[], 4, n, rfl, by omega, by omega, hl0, hp, rfl, hown0, (Below.refl _ _).alloc (Nat.le_refl _) _⟩
    case round =>
      obtain ⟨acc, f, m, rfl, hm0, hm1, hlim, hput, hlen, hown, hbel⟩ := hrel
      clear hp hl0 hown0
      by_cases hlt : m < 128
      · have e1 : Hid (putB n = acc ++ [m]) := by show _ = _; rw [hput.out, numF_small hlt]
        have hw8 : IntKind.u8.wrap m = m := u8_small hm0 (by omega)
        go_wp2_with (at_builtin; go_must (refine wpList_append_one rfl _ _ 22 rfl w.heap.size 5 i0 (.int .u8 0) 1 Try.underlying22 hi hz0 hz1 hz2 rfl _ _ _ (.int .u8 m) rfl hown rfl rfl (by omega) (by omega) hbel.size rfl ?_); intro v' w1 hown' hbel')
        go_ret
        exact ⟨_, rfl, by rw [e1.out]; simpa [u8s] using hown', hbel.trans hbel'⟩
      · obtain ⟨g, rfl⟩ := lim_pos hlim.out hlt
        have e1 : Hid (putB n = (acc ++ [m % 128 + 128]) ++ numF g (m / 128)) := by show _ = _; rw [hput.out, numF_great hlt]; simp
        have hl1 : Hid (m / 128 < lim g) := lim_div hlim.out
        have hw8 : IntKind.u8.wrap (m % 128 + 128) = m % 128 + 128 := u8_small (by omega) (by omega)
        go_wp2_with (at_builtin; go_must (refine wpList_append_one rfl _ _ 22 rfl w.heap.size 5 i0 (.int .u8 0) 1 Try.underlying22 hi hz0 hz1 hz2 rfl _ _ _ (.int .u8 (m % 128 + 128)) rfl hown rfl rfl (by omega) (by omega) hbel.size rfl ?_); intro v' w1 hown' hbel')
        go_roundw
        case rel => exact ⟨acc ++ [m % 128 + 128], g, m / 128, rfl, by omega, by omega, hl1, e1, by simp; omega, by simpa [u8s] using hown', hbel.trans hbel'⟩
        case measure => simp [intOf]; omega
  · have hp : Hid (putB n = []) := by show _ = _; unfold putB; rw [if_neg hin]
    have hown0 : (w.alloc (Obj.cells #[] 5)).ownsRow w.heap.size 5 1 (.slice (some ⟨w.heap.size, 0, none⟩) 0 0) 0 [] := World.ownsRow_lit w #[] 0 (Nat.le_refl _) (by unfold maxLen; omega) rfl
    have hd : decide (0 ≤ n ∧ n ≤ 1000000000) = false := by simp; omega
    clear hin
    go_enter Try.func129, Try.ntmps129
    go_wp2_with (go_at_call 63; refine (in_any _ _ _ _).mono ?_; rw [hd]; rintro e w' ⟨rfl, rfl⟩)
    go_ret
    exact ⟨_, rfl, by rw [hp.out]; exact hown0, (Below.refl _ _).alloc (Nat.le_refl _) _⟩

end Go.Proofs.Ytelbannfbglgcaa

namespace Go.Proofs.Ytelbannfbglgcaa
open Go.RowKit

/-- The number that begins at place j, by its bytes: so many may follow, the next one's unit, what there is. -/
def getF (zs : List Int) : Nat → Nat → Int → Int → Option (Int × Nat)
  | 0, _, _, _ => none
  | f + 1, j, u, n =>
    if j < zs.length then
      if 128 ≤ zs[j]?.getD 0 then getF zs f (j + 1) (u * 128) (n + zs[j]?.getD 0 % 128 * u)
      else if 1000000000 < n + zs[j]?.getD 0 % 128 * u ∨ zs[j]?.getD 0 = 0 ∧ 1 < u then none
      else some (n + zs[j]?.getD 0 % 128 * u, j + 1)
    else none
/-- What GetNum tells: the number and the place behind it. -/
def getN (zs : List Int) (i : Int) : Option (Int × Nat) := if 0 ≤ i then getF zs 5 i.toNat 1 0 else none

theorem takeByte_ok (a : Option Addr) (zs : List Int) (cap pb j : Nat) (w : World) (hr : Rd w a (u8s zs)) (hb : IsBytes zs) (hm : zs.length ≤ 1048576) (hj : j < zs.length) (x : Int) (hx : zs[j]?.getD 0 = x) (hp : w.cell? ⟨pb, 0, none⟩ = some (.int .i64 j)) (hf : w.frozen? ⟨pb, 0, none⟩ = false) :
    Calls Try.prog 132 #[.slice a zs.length cap, .pointer (some ⟨pb, 0, none⟩)] w fun e w' => e = .returned (.int .i64 x) ∧ w' = w.setCell ⟨pb, 0, none⟩ (.int .i64 (j + 1)) := by
  obtain ⟨b, off, z, rfl, hck, hz, HZ⟩ := rd_u8_at hr hb hj
  have HX : Hid (z = x) := by show _ = _; rw [← HZ.out]; exact hx
  clear hr hx
  go_enter Try.func132, Try.ntmps132
  go_wp2
  go_ret
  exact ⟨ret_int HX.out, rfl⟩

theorem takeByte_no (a : Option Addr) (n cap pb : Nat) (i : Int) (w : World) (hi : i < 0 ∨ (n : Int) ≤ i) (hp : w.cell? ⟨pb, 0, none⟩ = some (.int .i64 i)) :
    Calls Try.prog 132 #[.slice a n cap, .pointer (some ⟨pb, 0, none⟩)] w fun e w' => (∃ s, e = .panicked [{ v := .iface 9 (.string s), recovered := false }]) ∧ w' = w := by
  by_cases h0 : i < 0
  · go_enter Try.func132, Try.ntmps132
    go_wp2
    exact ⟨rfl, ⟨_, rfl⟩, rfl⟩
  · have hi' : (n : Int) ≤ i := by omega
    clear hi
    go_enter Try.func132, Try.ntmps132
    go_wp2
    exact ⟨rfl, ⟨_, rfl⟩, rfl⟩

/-- The unit of the next byte where so many may follow. -/
def uo : Nat → Int
  | 0 => 34359738368
  | 1 => 268435456
  | 2 => 2097152
  | 3 => 16384
  | 4 => 128
  | _ => 1
/-- As getF, from a place that may be none. -/
def getI (zs : List Int) (f : Nat) (i u n : Int) : Option (Int × Nat) := if 0 ≤ i then getF zs f i.toNat u n else none
theorem getI_zero (zs : List Int) (i u n : Int) : getI zs 0 i u n = none := by unfold getI; split <;> rfl
theorem getI_out {zs : List Int} {f : Nat} {i u n : Int} (h : ¬ (0 ≤ i ∧ i < zs.length)) : getI zs f i u n = none := by
  unfold getI
  split
  · cases f with
    | zero => rfl
    | succ f => unfold getF; rw [if_neg (by omega)]
  · rfl
theorem getI_on {zs : List Int} {f j : Nat} {u n z : Int} (hj : j < zs.length) (hz : zs[j]?.getD 0 = z) (h : 128 ≤ z) : getI zs (f + 1) j u n = getI zs f ((j + 1 : Nat) : Int) (u * 128) (n + z % 128 * u) := by
  unfold getI
  rw [if_pos (by omega), if_pos (by omega), Int.toNat_natCast, Int.toNat_natCast]
  conv => lhs; unfold getF
  rw [if_pos hj, hz, if_pos h]
theorem getI_bad {zs : List Int} {f j : Nat} {u n z : Int} (hj : j < zs.length) (hz : zs[j]?.getD 0 = z) (h : ¬ 128 ≤ z) (hb : 1000000000 < n + z % 128 * u ∨ z = 0 ∧ 1 < u) : getI zs (f + 1) j u n = none := by
  unfold getI
  rw [if_pos (by omega), Int.toNat_natCast]
  unfold getF
  rw [if_pos hj, hz, if_neg h, if_pos hb]
theorem getI_good {zs : List Int} {f j : Nat} {u n z : Int} (hj : j < zs.length) (hz : zs[j]?.getD 0 = z) (h : ¬ 128 ≤ z) (hb : ¬ (1000000000 < n + z % 128 * u ∨ z = 0 ∧ 1 < u)) : getI zs (f + 1) j u n = some (n + z % 128 * u, j + 1) := by
  unfold getI
  rw [if_pos (by omega), Int.toNat_natCast]
  unfold getF
  rw [if_pos hj, hz, if_neg h, if_neg hb]

/-- How taking a number ends. -/
def Took (pb : Nat) (r : Option (Int × Nat)) (e : Ending) (w' : World) : Prop :=
  match r with
  | none => ∃ s, e = .panicked [{ v := .iface 9 (.string s), recovered := false }]
  | some (n, j) => e = .returned (.int .i64 n) ∧ w'.cell? ⟨pb, 0, none⟩ = some (.int .i64 j) ∧ w'.frozen? ⟨pb, 0, none⟩ = false
theorem took_no {pb : Nat} {r : Option (Int × Nat)} {e : Ending} {w' : World} {s : ByteArray} (h : r = none) (he : e = .panicked [{ v := .iface 9 (.string s), recovered := false }]) : Took pb r e w' := by subst h; exact ⟨s, he⟩
theorem took_yes {pb : Nat} {r : Option (Int × Nat)} {e : Ending} {w' : World} {n : Int} {j : Nat} (h : r = some (n, j)) (he : e = .returned (.int .i64 n)) (hc : w'.cell? ⟨pb, 0, none⟩ = some (.int .i64 j)) (hf : w'.frozen? ⟨pb, 0, none⟩ = false) : Took pb r e w' := by subst h; exact ⟨he, hc, hf⟩

/-- Nothing but block p has turned, and what is new. -/
theorem grownSet {w w1 : World} {p : Nat} (h : w.grownBy w1 (some p)) (o : Nat) (v : Value) : w.grownBy (w1.setCell ⟨p, o, none⟩ v) (some p) :=
  grown_trans h ⟨rfl, rfl, rfl, by simp [World.setCell], fun k _ hk => Below.heap_setCell _ _ _ _ (fun e => hk (by rw [e]))⟩
theorem grownRefl (w : World) (row : Option Nat) : w.grownBy w row := ⟨rfl, rfl, rfl, Nat.le_refl _, fun _ _ _ => rfl⟩
theorem belowGrown {w w1 : World} {p : Nat} (h : w.grownBy w1 (some p)) (hp : p ≤ w.heap.size) : Below p w w1 := (Below.refl _ _).grown h hp (fun k hk => by cases hk; exact Nat.le_refl _)

set_option maxHeartbeats 1600000 in
theorem takeNum_grown (a : Option Addr) (zs : List Int) (cap pb : Nat) (i0 : Int) (w : World) (hr : ∀ w', Below pb w w' → Rd w' a (u8s zs)) (hb : IsBytes zs) (hm : zs.length ≤ 1048576) (hp : w.cell? ⟨pb, 0, none⟩ = some (.int .i64 i0)) (hf : w.frozen? ⟨pb, 0, none⟩ = false) :
    Calls Try.prog 112 #[.slice a zs.length cap, .pointer (some ⟨pb, 0, none⟩)] w fun e w' => w.grownBy w' (some pb) ∧ Took pb (getN zs i0) e w' := by
  have hpb : pb ≤ w.heap.size := Nat.le_of_lt (lt_of_cell hp)
  go_enter Try.func112, Try.ntmps112
  go_wp2_with fail
  go_loopw [5, 6] (fun n u wr => ∃ (f : Nat) (i m : Int), f ≤ 5 ∧ n = .int .i64 m ∧ u = .int .i64 (uo f) ∧ 0 ≤ m ∧ m < uo f ∧ wr.cell? ⟨pb, 0, none⟩ = some (.int .i64 i) ∧ wr.frozen? ⟨pb, 0, none⟩ = false ∧ w.grownBy wr (some pb) ∧ Hid (getN zs i0 = getI zs f i (uo f) m)) (fun _ u _ => (34359738368 - intOf u).toNat)
  case atStart => exact ⟨5, i0, 0, by omega, rfl, rfl, by omega, by decide, hp, hf, grownRefl _ _, rfl⟩
  case round =>
    obtain ⟨f, i, m, hf5, rfl, rfl, hm0, hm1, hcell, hfz, hbel, hget⟩ := hrel
    have hrr := hr wr (belowGrown hbel hpb)
    clear hr hp hf
    by_cases hf0 : f = 0
    · subst hf0
      have hg : Hid (getN zs i0 = none) := by show _ = _; rw [hget.out]; exact getI_zero _ _ _ _
      simp only [uo]
      go_wp2_with fail
      exact ⟨rfl, hbel, took_no hg.out rfl⟩
    · by_cases hin : 0 ≤ i ∧ i < zs.length
      · obtain ⟨j, rfl⟩ : ∃ j : Nat, i = j := ⟨i.toNat, by omega⟩
        have hj : j < zs.length := by omega
        clear hin
        obtain ⟨z, HZ⟩ : ∃ z, Hid (zs[j]?.getD 0 = z) := ⟨_, rfl⟩
        have hz : 0 ≤ z ∧ z ≤ 255 := by rw [← HZ.out]; exact hb.at j
        have HC : Hid ((wr.setCell ⟨pb, 0, none⟩ (.int .i64 ((j : Int) + 1))).cell? ⟨pb, 0, none⟩ = some (.int .i64 ((j + 1 : Nat) : Int)) ∧ (wr.setCell ⟨pb, 0, none⟩ (.int .i64 ((j : Int) + 1))).frozen? ⟨pb, 0, none⟩ = false ∧ w.grownBy (wr.setCell ⟨pb, 0, none⟩ (.int .i64 ((j : Int) + 1))) (some pb)) := by
          refine ⟨?_, ?_, grownSet hbel _ _⟩
          · rw [World.cell?_setCell_same wr _ _ hcell]; simp
          · simp [hfz]
        have hc : f = 1 ∨ f = 2 ∨ f = 3 ∨ f = 4 ∨ f = 5 := by omega
        have hu : 1 ≤ uo f ∧ uo f ≤ 268435456 := by rcases hc with rfl | rfl | rfl | rfl | rfl <;> decide
        obtain ⟨g, rfl⟩ : ∃ g, f = g + 1 := ⟨f - 1, by omega⟩
        have hug : Hid (uo (g + 1) * 128 = uo g) := by
          have : g = 0 ∨ g = 1 ∨ g = 2 ∨ g = 3 ∨ g = 4 := by omega
          show uo (g + 1) * 128 = uo g
          rcases this with rfl | rfl | rfl | rfl | rfl <;> decide
        clear hc
        have hmul : 0 ≤ z % 128 * uo (g + 1) ∧ z % 128 * uo (g + 1) ≤ 127 * uo (g + 1) :=
          ⟨Int.mul_nonneg (by omega) (by omega), Int.mul_le_mul_of_nonneg_right (by omega) (by omega)⟩
        by_cases h128 : 128 ≤ z
        · have hg : Hid (getN zs i0 = getI zs g ((j + 1 : Nat) : Int) (uo g) (m + z % 128 * uo (g + 1))) := by
            show _ = _; rw [hget.out, getI_on hj HZ.out h128, hug.out]
          go_wp2_with (go_at_call 132; go_must (refine (takeByte_ok _ zs _ _ j _ hrr hb hm hj z HZ.out hcell hfz).mono ?_); rintro e w' ⟨rfl, rfl⟩)
          go_roundw
          case rel => exact ⟨g, ((j + 1 : Nat) : Int), m + z % 128 * uo (g + 1), by omega, rfl, by rw [hug.out], by omega, by have := hug.out; omega, HC.out.1, HC.out.2.1, HC.out.2.2, hg⟩
          case measure => simp [intOf]; omega
        · by_cases hbad : 1000000000 < m + z % 128 * uo (g + 1) ∨ z = 0 ∧ 1 < uo (g + 1)
          · have hg : Hid (getN zs i0 = none) := by show _ = _; rw [hget.out, getI_bad hj HZ.out h128 hbad]
            by_cases hA : 1000000000 < m + z % 128 * uo (g + 1)
            · clear hbad
              go_wp2_with (go_at_call 132; go_must (refine (takeByte_ok _ zs _ _ j _ hrr hb hm hj z HZ.out hcell hfz).mono ?_); rintro e w' ⟨rfl, rfl⟩)
              exact ⟨rfl, HC.out.2.2, took_no hg.out rfl⟩
            · have hB : z = 0 ∧ 1 < uo (g + 1) := by omega
              obtain ⟨hz0, h1u⟩ := hB
              have hze : (z == 0) = true := by simp [hz0]
              clear hbad hz0
              go_wp2_with (go_at_call 132; go_must (refine (takeByte_ok _ zs _ _ j _ hrr hb hm hj z HZ.out hcell hfz).mono ?_); rintro e w' ⟨rfl, rfl⟩)
              exact ⟨rfl, HC.out.2.2, took_no hg.out rfl⟩
          · have hg : Hid (getN zs i0 = some (m + z % 128 * uo (g + 1), j + 1)) := by show _ = _; rw [hget.out, getI_good hj HZ.out h128 hbad]
            have hA : ¬ 1000000000 < m + z % 128 * uo (g + 1) := by omega
            by_cases hz0 : z = 0
            · have h1u : ¬ 1 < uo (g + 1) := by omega
              have hze : (z == 0) = true := by simp [hz0]
              clear hbad hz0
              go_wp2_with (go_at_call 132; go_must (refine (takeByte_ok _ zs _ _ j _ hrr hb hm hj z HZ.out hcell hfz).mono ?_); rintro e w' ⟨rfl, rfl⟩)
              go_ret
              exact ⟨HC.out.2.2, took_yes hg.out rfl HC.out.1 HC.out.2.1⟩
            · have hze : (z == 0) = false := by simp [hz0]
              clear hbad hz0
              go_wp2_with (go_at_call 132; go_must (refine (takeByte_ok _ zs _ _ j _ hrr hb hm hj z HZ.out hcell hfz).mono ?_); rintro e w' ⟨rfl, rfl⟩)
              go_ret
              exact ⟨HC.out.2.2, took_yes hg.out rfl HC.out.1 HC.out.2.1⟩
      · have hg : Hid (getN zs i0 = none) := by show _ = _; rw [hget.out]; exact getI_out hin
        have hc : f = 1 ∨ f = 2 ∨ f = 3 ∨ f = 4 ∨ f = 5 := by omega
        have hu : uo f ≤ 1000000000 := by rcases hc with rfl | rfl | rfl | rfl | rfl <;> decide
        clear hc
        go_wp2_with (go_at_call 132; go_must (refine (takeByte_no _ _ _ _ i _ (by omega) hcell).mono ?_); rintro e w' ⟨⟨s, rfl⟩, rfl⟩)
        exact ⟨rfl, hbel, took_no hg.out rfl⟩

theorem takeNum_any (a : Option Addr) (zs : List Int) (cap pb : Nat) (i0 : Int) (w : World) (hr : ∀ w', Below pb w w' → Rd w' a (u8s zs)) (hb : IsBytes zs) (hm : zs.length ≤ 1048576) (hp : w.cell? ⟨pb, 0, none⟩ = some (.int .i64 i0)) (hf : w.frozen? ⟨pb, 0, none⟩ = false) :
    Calls Try.prog 112 #[.slice a zs.length cap, .pointer (some ⟨pb, 0, none⟩)] w fun e w' => Below pb w w' ∧ Took pb (getN zs i0) e w' :=
  (takeNum_grown a zs cap pb i0 w hr hb hm hp hf).mono fun _ _ h => ⟨belowGrown h.1 (Nat.le_of_lt (lt_of_cell hp)), h.2⟩

end Go.Proofs.Ytelbannfbglgcaa
