/-
  Contract of the draw of RecRead's argument.
-/
import Derived.Test.YtdeipchflgpffaaDrawRec
namespace Go.Proofs.Ytdeipchflgpffaa
open Go.RowKit

set_option maxRecDepth 100000 in
set_option maxHeartbeats 3200000 in
theorem DrawRecRead_any (a : Option Addr) (zs : List Int) (cap : Nat) (w : World) (hr : Rd w a (u8s zs)) (hb : IsBytes zs) (hm : zs.length ≤ 1048576) :
    Calls Try.prog 12 #[.slice a zs.length cap] w fun e w' => ∃ t : ByteArray, e = .returned (.string t) ∧ t.size ≤ 1000 ∧ Below w.heap.size w w' := by
  go_enter Try.func12, Try.ntmps12
  go_wp2_with fail
  refine (new_any a zs cap w hr hb hm).mono ?_
  rintro e w1 ⟨rfl, hc, hb1, hs1⟩
  go_wp2_with fail
  refine (recDraw_any w.heap.size w1 hc hs1).mono ?_
  rintro e w2 ⟨s, q, d, rfl, hs, hq, hd, hc2, hg2⟩
  have hbw2 : Below w.heap.size w w2 := hb1.grown hg2 (by omega) (by simp)
  have hs2 := hg2.size
  clear hr hc hg2
  go_wp2_with fail
  refine (specRecText_any s q d w2 (by unfold maxLen; omega) (by omega) (by omega) (by omega) (by omega)).mono ?_
  have htl := recT_size s q d
  obtain ⟨T, hT⟩ : ∃ T, T = recT s q d := ⟨_, rfl⟩
  rw [← hT] at htl ⊢
  clear hT
  rintro e w3 ⟨rfl, hb3⟩
  have hc3 := hc2.kept (hb3.mono (by omega))
  have hbw3 := hbw2.trans (hb3.mono (by omega))
  have hs3 := hb3.size
  clear hc2 hbw2 hb3
  go_wp2_with fail
  refine (below_any w.heap.size (T.size + 1) w3 hc3 (by omega)).mono ?_
  rintro e w4 ⟨x, rfl, hx0, hx1, -, hc4, hg4⟩
  have hx1 := hx1 (by omega)
  obtain ⟨K, rfl⟩ : ∃ K : Nat, x = K := ⟨x.toNat, by omega⟩
  have hK : K ≤ T.size := by omega
  have hbw4 : Below w.heap.size w w4 := hbw3.grown hg4 (by omega) (by simp)
  have hs4 := hg4.size
  clear hc3 hbw3 hg4
  go_wp2_with fail
  refine (below_any w.heap.size 5 w4 hc4 (by omega)).mono ?_
  rintro e w5 ⟨x, rfl, hx0, hx1, -, hc5, hg5⟩
  have hx1 := hx1 (by omega)
  have hbw5 : Below w.heap.size w w5 := hbw4.grown hg5 (by omega) (by simp)
  have hs5 := hg5.size
  clear hc4 hbw4 hg5
  by_cases h0 : x = 0
  · subst h0
    go_wp2
    go_ret
    exact ⟨_, rfl, by simp; omega, hbw5⟩
  by_cases h1 : x = 1
  · subst h1
    have hlt5 : w.heap.size < w5.heap.size := by omega
    have HK : Hid (Cur (w5.alloc (Obj.cells #[.string ⟨#[0]⟩, .string ⟨#[128]⟩, .string ⟨#[97]⟩] 9)).drew w.heap.size) := (hc5.kept ((Below.refl _ _).alloc (by omega) _)).drewN 1
    have HL : Hid (Rd (w5.alloc (Obj.cells #[.string ⟨#[0]⟩, .string ⟨#[128]⟩, .string ⟨#[97]⟩] 9)).drew (some ⟨w5.heap.size, 0, none⟩) ([⟨#[0]⟩, ⟨#[128]⟩, ⟨#[97]⟩].map Value.string)) := rd_lit w5 _ _
    have HB : Hid (Below w.heap.size w (w5.alloc (Obj.cells #[.string ⟨#[0]⟩, .string ⟨#[128]⟩, .string ⟨#[97]⟩] 9)).drew) := (hbw5.alloc (by omega) _).drew
    clear hc5 hbw5
    go_wp2_with fail
    go_region_held (fun _ => True) (first | trivial | assumption | go_keep)
      ((go_at_call 25; refine (pick_any w.heap.size _ [⟨#[0]⟩, ⟨#[128]⟩, ⟨#[97]⟩] 3 _ _ rfl HK.out HL.out (by intro x hx; simp at hx; subst hx; show w5.heap.size ≠ _; omega) (by simp) (by simp)).mono ?_; rintro e w6 ⟨y, rfl, hy, -, hg6⟩; have hyz : y.size = 1 := (by simp only [List.mem_cons, List.not_mem_nil, or_false] at hy; rcases hy with rfl | rfl | rfl <;> rfl); have HB6 : Hid (Below w.heap.size w w6) := (HB.out.grown hg6 (by show _ ≤ _; simp; omega) (by simp)); clear hg6 hy))
    all_goals go_wp2
    all_goals go_ret
    all_goals exact ⟨_, rfl, by simp [ByteArray.size_append]; omega, HB6.out⟩
  · have hx0' : (x == 0) = false := by simpa using h0
    have hx1' : (x == 1) = false := by simpa using h1
    clear h0 h1
    go_wp2
    go_ret
    exact ⟨_, rfl, by omega, hbw5⟩

end Go.Proofs.Ytdeipchflgpffaa
