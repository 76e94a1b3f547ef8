/-
  Contracts of the draws of chapter 1: each hands back SOME value of its kind; old memory is as it was.
-/
import Derived.Test.YtdeipchflgpffaaDraw
import Derived.Test.YtdeipchflgpffaaPutText
import Derived.Test.YtdeipchflgpffaaAppendTwo
namespace Go.Proofs.Ytdeipchflgpffaa
open Go.RowKit

theorem rd_lit (w : World) (cs : Array Value) (e : TypeId) : Rd (w.alloc (.cells cs e)) (some ⟨w.heap.size, 0, none⟩) cs.toList := by
  refine .inr ⟨_, 0, rfl, fun i v hv => ?_⟩
  rw [Nat.zero_add, World.cell?_alloc_mark]
  simpa using hv

theorem owns_grown {w w' : World} {base : Nat} {e : TypeId} {size : Nat} {v : Value} {n : Nat} {xs : List Value} {p : Nat} (h : w.ownsRow base e size v n xs) (hg : w.grownBy w' (some p)) (hp : p < base) : w'.ownsRow base e size v n xs := by
  refine h.kept hg ?_
  cases hv : v.ownBlock with
  | none => exact .inl rfl
  | some k =>
    right
    have := (h.lt k hv).1
    intro e; injection e with e; omega
theorem grown_then {w w1 w2 : World} {p B : Nat} (h : w.grownBy w1 (some p)) (k : Below B w1 w2) (hB : w.heap.size ≤ B) : w.grownBy w2 (some p) :=
  ⟨k.os.trans h.os, k.tape.trans h.tape, k.output.trans h.output, Nat.le_trans h.size k.size, fun i hi hne => (k.block i (by omega)).trans (h.block i hi hne)⟩

theorem putB_range {x : Int} (_h : 0 ≤ x) : (putB x).length ≤ 5 := putB_len x

/-- A text's size, in a slot. -/
def strSize : Value → Nat | .string s => s.size | _ => 0
theorem q_size (s : ByteArray) : (s ++ ⟨#[113]⟩ : ByteArray).size = s.size + 1 := by
  rw [ByteArray.size_append]; rfl

set_option maxHeartbeats 1600000 in
theorem drawText_any (p : Nat) (w : World) (hc : Cur w p) (hp : p < w.heap.size) :
    Calls Try.prog 29 #[.pointer (some ⟨p, 0, none⟩)] w fun e w' => ∃ s : ByteArray, e = .returned (.string s) ∧ s.size ≤ 401 ∧ Cur w' p ∧ w.grownBy w' (some p) := by
  go_enter Try.func29, Try.ntmps29
  go_wp2_with fail
  refine (once_any p 20 _ hc (by omega)).mono ?_
  rintro e w1 ⟨o, rfl, hc1, hg1⟩
  have hs1 := hg1.size
  cases o with
  | false =>
    go_wp2_with fail
    refine (pick_any p _ [⟨#[]⟩, ⟨#[97]⟩, ⟨#[104, 101, 108, 108, 111]⟩, ⟨#[116, 119, 111, 32, 119, 111, 114, 100, 115]⟩, ⟨#[0, 255]⟩, ⟨#[100]⟩, ⟨#[102, 100, 97, 116, 97]⟩] 7 _ _ rfl (hc1.kept ((Below.refl _ _).alloc (by omega) _)) (rd_lit w1 _ _) (by intro x hx; simp at hx; subst hx; show w1.heap.size ≠ _; omega) (by simp) (by simp)).mono ?_
    rintro e w2 ⟨s, rfl, hs, hc2, hg2⟩
    have hsz : s.size ≤ 401 := by
      simp only [List.mem_cons, List.not_mem_nil, or_false] at hs
      rcases hs with rfl | rfl | rfl | rfl | rfl | rfl | rfl <;> decide
    have hgw2 := grown_trans (grown_then hg1 ((Below.refl w1.heap.size w1).alloc (Nat.le_refl _) _) hs1) hg2
    clear hs hg2 hg1 hc1 hc
    go_wp2
    go_ret
    exact ⟨s, rfl, hsz, hc2, hgw2⟩
  | true =>
    go_wp2_with fail
    go_loopw [3] (fun v wr => ∃ s : ByteArray, v = .string s ∧ s.size ≤ 401 ∧ Cur wr p ∧ w.grownBy wr (some p)) (fun v _ => 402 - strSize v)
    case atStart => exact ⟨_, rfl, by decide, hc1, hg1⟩
    case round =>
      obtain ⟨s, rfl, hsz, hcw, hg⟩ := hrel
      go_wp2_with fail
      refine (below_any p 2 _ hcw (by omega)).mono ?_
      rintro e w2 ⟨x, rfl, hx0, hx1, -, hc2, hg2⟩
      have hx1 := hx1 (by omega)
      have hgw := grown_trans hg hg2
      clear hg hg2 hcw hc1 hg1 hc
      by_cases hlt : (s.size : Int) < 400 + x
      · have hq := q_size s
        have HQ : Hid ((s ++ ⟨#[113]⟩ : ByteArray).size = s.size + 1) := hq
        clear hq
        go_wp2_with fail
        go_roundw
        case rel => exact ⟨_, rfl, by rw [HQ.out]; omega, hc2, hgw⟩
        case measure => simp only [strSize]; rw [HQ.out]; omega
      · go_wp2
        go_ret
        exact ⟨_, rfl, hsz, hc2, hgw⟩

theorem owns_opened {w : World} {base : Nat} {v : Value} {zs : List Int} (h : w.ownsRow base 5 1 v zs.length (u8s zs)) : ∃ a cap, v = .slice a zs.length cap ∧ Rd w a (u8s zs) ∧ zs.length ≤ cap := by
  rcases id h with ⟨_, ⟨rfl, h0⟩ | ⟨g, cap, cur, rfl, -, -, hn, -⟩⟩
  · have : zs = [] := List.eq_nil_of_length_eq_zero h0
    subst this
    exact ⟨none, 0, rfl, .inl rfl, Nat.le_refl _⟩
  · exact ⟨some ⟨g, 0, none⟩, cap, rfl, Rd.of_owns h, hn⟩

end Go.Proofs.Ytdeipchflgpffaa
