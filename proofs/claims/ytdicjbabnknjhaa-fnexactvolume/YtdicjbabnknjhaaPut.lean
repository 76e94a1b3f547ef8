/-
  Contracts of impl.PutNum and spec.PutNum: each hands back a new row of the number's bytes.
-/
import Derived.Test.YtdicjbabnknjhaaChecked
import Derived.Test.YtdicjbabnknjhaaHelp
import Derived.Test.YtdicjbabnknjhaaConv
import Derived.Test.YtdicjbabnknjhaaIn
namespace Go.Proofs.Ytdicjbabnknjhaa
open Go.RowKit

/-- The bytes of a number, with room for f bytes ahead of the last. -/
def numF : Nat → Int → List Int
  | 0, n => [n]
  | f + 1, n => if n < 128 then [n] else (n % 128 + 128) :: numF f (n / 128)
/-- What is beyond f + 1 bytes. -/
def lim : Nat → Int
  | 0 => 128
  | f + 1 => 128 * lim f
/-- What PutNum tells. -/
def putB (n : Int) : List Int := if 0 ≤ n ∧ n ≤ 1000000000 then numF 4 n else []

theorem numF_small {f : Nat} {n : Int} (h : n < 128) : numF f n = [n] := by
  cases f <;> simp [numF, h]
theorem numF_great {f : Nat} {n : Int} (h : ¬ n < 128) : numF (f + 1) n = (n % 128 + 128) :: numF f (n / 128) := by simp [numF, h]
theorem lim_div {f : Nat} {n : Int} (h : n < lim (f + 1)) : n / 128 < lim f := by unfold lim at h; omega
theorem lim_pos {f : Nat} {n : Int} (h : n < lim f) (h1 : ¬ n < 128) : ∃ g, f = g + 1 := by
  cases f with
  | zero => simp [lim] at h; omega
  | succ g => exact ⟨g, rfl⟩
theorem numF_len (f : Nat) (n : Int) : 1 ≤ (numF f n).length ∧ (numF f n).length ≤ f + 1 := by
  induction f generalizing n with
  | zero => simp [numF]
  | succ f ih =>
    unfold numF
    split
    · simp
    · have := ih (n / 128); simp only [List.length_cons]; omega
theorem numF_bytes (f : Nat) (n : Int) (h0 : 0 ≤ n) (h : n < lim f) : IsBytes (numF f n) := by
  induction f generalizing n with
  | zero => intro z hz; simp [numF] at hz; subst hz; simp [lim] at h; omega
  | succ f ih =>
    intro z hz
    unfold numF at hz
    split at hz
    · simp at hz; subst hz; omega
    · simp only [List.mem_cons] at hz
      rcases hz with rfl | hz
      · omega
      · exact ih (n / 128) (by omega) (lim_div h) z hz
theorem putB_bytes (n : Int) : IsBytes (putB n) := by
  unfold putB
  split
  · rename_i h; exact numF_bytes 4 n h.1 (by simp [lim]; omega)
  · intro z hz; simp at hz
theorem putB_len (n : Int) : (putB n).length ≤ 5 := by
  unfold putB
  split
  · have := (numF_len 4 n).2; omega
  · simp

/-- A row of bytes that is owned, as a slice that can be read. -/
theorem owns_open {w : World} {base : Nat} {v : Value} {zs : List Int} (h : w.ownsRow base 5 1 v zs.length (u8s zs)) : ∃ a cap, v = .slice a zs.length cap ∧ Rd w a (u8s zs) := by
  rcases id h with ⟨_, ⟨rfl, h0⟩ | ⟨g, cap, cur, rfl, -⟩⟩
  · have : zs = [] := List.eq_nil_of_length_eq_zero h0
    subst this
    exact ⟨none, 0, rfl, .inl rfl⟩
  · exact ⟨some ⟨g, 0, none⟩, cap, rfl, Rd.of_owns h⟩

theorem one_byte (z : Int) : ∀ u ∈ ([.int .u8 z] : List Value), u.oneCell' = true := by intro u hu; simp at hu; subst hu; rfl

set_option maxRecDepth 100000 in
set_option maxHeartbeats 800000 in
theorem implPutNum_any (n : Int) (w : World) (_h1 : -9223372036854775808 ≤ n) (_h2 : n ≤ 9223372036854775807) :
    Calls Try.prog 31 #[.int .i64 n] w fun e w' => ∃ v, e = .returned v ∧ w'.ownsRow w.heap.size 5 1 v (putB n).length (u8s (putB n)) ∧ Below w.heap.size w w' := by
  obtain ⟨i0, hi, hz0, hz1, hz2⟩ := info_parts info5
  by_cases hlo : n < 0
  · have hp : Hid (putB n = []) := by show _ = _; unfold putB; rw [if_neg (by omega)]
    go_enter Try.func31, Try.ntmps31
    go_wp2
    go_ret
    exact ⟨_, rfl, by rw [hp.out]; exact World.ownsRow_nil _ _ _ _, Below.refl _ _⟩
  by_cases hhi : 1000000000 < n
  · have hp : Hid (putB n = []) := by show _ = _; unfold putB; rw [if_neg (by omega)]
    go_enter Try.func31, Try.ntmps31
    go_wp2
    go_ret
    exact ⟨_, rfl, by rw [hp.out]; exact World.ownsRow_nil _ _ _ _, Below.refl _ _⟩
  have hp : Hid (putB n = numF 4 n) := by show _ = _; unfold putB; rw [if_pos (by omega)]
  have hl0 : Hid (n < lim 4) := by show _ < _; simp [lim]; omega
  go_enter Try.func31, Try.ntmps31
  go_wp2
  go_loopw [0, 3] (fun q v wr => ∃ (acc : List Int) (f : Nat) (m : Int), q = .int .i64 m ∧ 0 ≤ m ∧ m ≤ 1000000000 ∧ Hid (m < lim f) ∧ Hid (putB n = acc ++ numF f m) ∧ acc.length + f = 4 ∧ wr.ownsRow w.heap.size 5 1 v acc.length (u8s acc) ∧ Below w.heap.size w wr) (fun q _ _ => (intOf q).toNat)
  case atStart => exact ⟨[], 4, n, rfl, by omega, by omega, hl0, hp, rfl, World.ownsRow_nil _ _ _ _, Below.refl _ _⟩
  case round =>
    obtain ⟨acc, f, m, rfl, hm0, hm1, hlim, hput, hlen, hown, hbel⟩ := hrel
    clear hp hl0
    by_cases hlt : m < 128
    · have e1 : Hid (putB n = acc ++ [m]) := by show _ = _; rw [hput.out, numF_small hlt]
      have hw8 : IntKind.u8.wrap m = m := u8_small hm0 (by omega)
      go_wp2_with (at_builtin; go_must (refine wpList_append_one rfl _ _ 54 rfl w.heap.size 5 i0 (.int .u8 0) 1 Try.underlying54 hi hz0 hz1 hz2 rfl _ _ _ (.int .u8 m) rfl hown rfl rfl (by omega) (by omega) hbel.size rfl ?_); intro v' w1 hown' hbel')
      go_ret
      exact ⟨_, rfl, by rw [e1.out]; simpa [u8s] using hown', hbel.trans hbel'⟩
    · obtain ⟨g, rfl⟩ := lim_pos hlim.out hlt
      have e1 : Hid (putB n = (acc ++ [m % 128 + 128]) ++ numF g (m / 128)) := by show _ = _; rw [hput.out, numF_great hlt]; simp
      have hl1 : Hid (m / 128 < lim g) := lim_div hlim.out
      have hw8 : IntKind.u8.wrap (m % 128 + 128) = m % 128 + 128 := u8_small (by omega) (by omega)
      go_wp2_with (at_builtin; go_must (refine wpList_append_one rfl _ _ 54 rfl w.heap.size 5 i0 (.int .u8 0) 1 Try.underlying54 hi hz0 hz1 hz2 rfl _ _ _ (.int .u8 (m % 128 + 128)) rfl hown rfl rfl (by omega) (by omega) hbel.size rfl ?_); intro v' w1 hown' hbel')
      go_roundw
      case rel => exact ⟨acc ++ [m % 128 + 128], g, m / 128, rfl, by omega, by omega, hl1, e1, by simp; omega, by simpa [u8s] using hown', hbel.trans hbel'⟩
      case measure => simp [intOf]; omega

set_option maxRecDepth 100000 in
set_option maxHeartbeats 800000 in
theorem specPutNum_any (n : Int) (w : World) (_h1 : -9223372036854775808 ≤ n) (_h2 : n ≤ 9223372036854775807) :
    Calls Try.prog 26 #[.int .i64 n] w fun e w' => ∃ v, e = .returned v ∧ w'.ownsRow w.heap.size 5 1 v (putB n).length (u8s (putB n)) ∧ Below w.heap.size w w' := by
  obtain ⟨i0, hi, hz0, hz1, hz2⟩ := info_parts info5
  by_cases hin : 0 ≤ n ∧ n ≤ 1000000000
  · have hp : Hid (putB n = numF 4 n) := by show _ = _; unfold putB; rw [if_pos hin]
    have hl0 : Hid (n < lim 4) := by show _ < _; simp [lim]; omega
    go_enter Try.func26, Try.ntmps26
    go_wp2_with (go_at_call 41; refine (in_any _ _ _ _).mono ?_; rintro e w' ⟨rfl, rfl⟩)
    have hown0 : (w.alloc (Obj.cells #[] 5)).ownsRow w.heap.size 5 1 (.slice (some ⟨w.heap.size, 0, none⟩) 0 0) 0 [] := World.ownsRow_lit w #[] 0 (Nat.le_refl _) (by unfold maxLen; omega) rfl
    go_loopw [0, 3] (fun q v wr => ∃ (acc : List Int) (f : Nat) (m : Int), q = .int .i64 m ∧ 0 ≤ m ∧ m ≤ 1000000000 ∧ Hid (m < lim f) ∧ Hid (putB n = acc ++ numF f m) ∧ acc.length + f = 4 ∧ wr.ownsRow w.heap.size 5 1 v acc.length (u8s acc) ∧ Below w.heap.size w wr) (fun q _ _ => (intOf q).toNat)
    case atStart => exact ⟨[], 4, n, rfl, by omega, by omega, hl0, hp, rfl, hown0, (Below.refl _ _).alloc (Nat.le_refl _) _⟩
    case round =>
      obtain ⟨acc, f, m, rfl, hm0, hm1, hlim, hput, hlen, hown, hbel⟩ := hrel
      clear hp hl0 hown0
      by_cases hlt : m < 128
      · have e1 : Hid (putB n = acc ++ [m]) := by show _ = _; rw [hput.out, numF_small hlt]
        have hw8 : IntKind.u8.wrap m = m := u8_small hm0 (by omega)
        go_wp2_with (at_builtin; go_must (refine wpList_append_one rfl _ _ 54 rfl w.heap.size 5 i0 (.int .u8 0) 1 Try.underlying54 hi hz0 hz1 hz2 rfl _ _ _ (.int .u8 m) rfl hown rfl rfl (by omega) (by omega) hbel.size rfl ?_); intro v' w1 hown' hbel')
        go_ret
        exact ⟨_, rfl, by rw [e1.out]; simpa [u8s] using hown', hbel.trans hbel'⟩
      · obtain ⟨g, rfl⟩ := lim_pos hlim.out hlt
        have e1 : Hid (putB n = (acc ++ [m % 128 + 128]) ++ numF g (m / 128)) := by show _ = _; rw [hput.out, numF_great hlt]; simp
        have hl1 : Hid (m / 128 < lim g) := lim_div hlim.out
        have hw8 : IntKind.u8.wrap (m % 128 + 128) = m % 128 + 128 := u8_small (by omega) (by omega)
        go_wp2_with (at_builtin; go_must (refine wpList_append_one rfl _ _ 54 rfl w.heap.size 5 i0 (.int .u8 0) 1 Try.underlying54 hi hz0 hz1 hz2 rfl _ _ _ (.int .u8 (m % 128 + 128)) rfl hown rfl rfl (by omega) (by omega) hbel.size rfl ?_); intro v' w1 hown' hbel')
        go_roundw
        case rel => exact ⟨acc ++ [m % 128 + 128], g, m / 128, rfl, by omega, by omega, hl1, e1, by simp; omega, by simpa [u8s] using hown', hbel.trans hbel'⟩
        case measure => simp [intOf]; omega
  · have hp : Hid (putB n = []) := by show _ = _; unfold putB; rw [if_neg hin]
    have hown0 : (w.alloc (Obj.cells #[] 5)).ownsRow w.heap.size 5 1 (.slice (some ⟨w.heap.size, 0, none⟩) 0 0) 0 [] := World.ownsRow_lit w #[] 0 (Nat.le_refl _) (by unfold maxLen; omega) rfl
    have hd : decide (0 ≤ n ∧ n ≤ 1000000000) = false := by simp; omega
    clear hin
    go_enter Try.func26, Try.ntmps26
    go_wp2_with (go_at_call 41; refine (in_any _ _ _ _).mono ?_; rw [hd]; rintro e w' ⟨rfl, rfl⟩)
    go_ret
    exact ⟨_, rfl, by rw [hp.out]; exact hown0, (Below.refl _ _).alloc (Nat.le_refl _) _⟩

end Go.Proofs.Ytdicjbabnknjhaa
