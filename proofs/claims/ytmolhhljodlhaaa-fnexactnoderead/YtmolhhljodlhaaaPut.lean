/-
  Contracts of impl.PutNum and spec.PutNum: each hands back a new row of the number's bytes.
-/
import Derived.Test.YtmolhhljodlhaaaChecked
import Derived.Test.YtmolhhljodlhaaaHelp
import Derived.Test.YtmolhhljodlhaaaConv
import Derived.Test.YtmolhhljodlhaaaIn
namespace Go.Proofs.Ytmolhhljodlhaaa
open Go.RowKit

/-- The bytes of a number, with room for f bytes ahead of the last. -/
def numF : Nat → Int → List Int
  | 0, n => [n]
  | f + 1, n => if n < 128 then [n] else (n % 128 + 128) :: numF f (n / 128)
/-- What is beyond f + 1 bytes. -/
def lim : Nat → Int
  | 0 => 128
  | f + 1 => 128 * lim f
/-- What PutNum tells. -/
def putB (n : Int) : List Int := if 0 ≤ n ∧ n ≤ 1000000000 then numF 4 n else []

theorem numF_small {f : Nat} {n : Int} (h : n < 128) : numF f n = [n] := by
  cases f <;> simp [numF, h]
theorem numF_great {f : Nat} {n : Int} (h : ¬ n < 128) : numF (f + 1) n = (n % 128 + 128) :: numF f (n / 128) := by simp [numF, h]
theorem lim_div {f : Nat} {n : Int} (h : n < lim (f + 1)) : n / 128 < lim f := by unfold lim at h; omega
theorem lim_pos {f : Nat} {n : Int} (h : n < lim f) (h1 : ¬ n < 128) : ∃ g, f = g + 1 := by
  cases f with
  | zero => simp [lim] at h; omega
  | succ g => exact ⟨g, rfl⟩
theorem numF_len (f : Nat) (n : Int) : 1 ≤ (numF f n).length ∧ (numF f n).length ≤ f + 1 := by
  induction f generalizing n with
  | zero => simp [numF]
  | succ f ih =>
    unfold numF
    split
    · simp
    · have := ih (n / 128); simp only [List.length_cons]; omega
theorem numF_bytes (f : Nat) (n : Int) (h0 : 0 ≤ n) (h : n < lim f) : IsBytes (numF f n) := by
  induction f generalizing n with
  | zero => intro z hz; simp [numF] at hz; subst hz; simp [lim] at h; omega
  | succ f ih =>
    intro z hz
    unfold numF at hz
    split at hz
    · simp at hz; subst hz; omega
    · simp only [List.mem_cons] at hz
      rcases hz with rfl | hz
      · omega
      · exact ih (n / 128) (by omega) (lim_div h) z hz
theorem putB_bytes (n : Int) : IsBytes (putB n) := by
  unfold putB
  split
  · rename_i h; exact numF_bytes 4 n h.1 (by simp [lim]; omega)
  · intro z hz; simp at hz
theorem putB_len (n : Int) : (putB n).length ≤ 5 := by
  unfold putB
  split
  · have := (numF_len 4 n).2; omega
  · simp

/-- A row of bytes that is owned, as a slice that can be read. -/
theorem owns_open {w : World} {base : Nat} {v : Value} {zs : List Int} (h : w.ownsRow base 5 1 v zs.length (u8s zs)) : ∃ a cap, v = .slice a zs.length cap ∧ Rd w a (u8s zs) := by
  rcases id h with ⟨_, ⟨rfl, h0⟩ | ⟨g, cap, cur, rfl, -⟩⟩
  · have : zs = [] := List.eq_nil_of_length_eq_zero h0
    subst this
    exact ⟨none, 0, rfl, .inl rfl⟩
  · exact ⟨some ⟨g, 0, none⟩, cap, rfl, Rd.of_owns h⟩

theorem one_byte (z : Int) : ∀ u ∈ ([.int .u8 z] : List Value), u.oneCell' = true := by intro u hu; simp at hu; subst hu; rfl

end Go.Proofs.Ytmolhhljodlhaaa
