/-
  Contracts of the draws of records: l3Draw, DrawRecOk, DrawRecText, DrawRecRead.
-/
import Derived.Test.YtdeipchflgpffaaDraw3
import Derived.Test.YtdeipchflgpffaaHelpRec
import Derived.Deep.RegionHeld
namespace Go.Proofs.Ytdeipchflgpffaa
open Go.RowKit

set_option maxRecDepth 100000 in
set_option maxHeartbeats 3200000 in
theorem recDraw_any (p : Nat) (w : World) (hc : Cur w p) (hp : p < w.heap.size) :
    Calls Try.prog 15 #[.pointer (some ⟨p, 0, none⟩)] w fun e w' => ∃ (s q : Int) (d : ByteArray), e = .returned (.agg #[.int .i64 s, .int .i64 q, .string d]) ∧ (-1 ≤ s ∧ s ≤ 26) ∧ (0 ≤ q ∧ q ≤ 1000000001) ∧ d.size ≤ 401 ∧ Cur w' p ∧ w.grownBy w' (some p) := by
  obtain ⟨W, hW⟩ : ∃ W, W = w.alloc (Obj.cells #[.int .i64 0, .int .i64 0, .string ⟨#[]⟩] 25) := ⟨_, rfl⟩
  have hbW : Below w.heap.size w W := by rw [hW]; exact (Below.refl _ _).alloc (Nat.le_refl _) _
  have k0 : C3 W w.heap.size (.int .i64 0) (.int .i64 0) (.string ⟨#[]⟩) := by rw [hW]; exact c3_new _ _ _ _ _
  have hcW := hc.kept (hbW.mono (by omega))
  have hgW : w.grownBy W (some p) := grown_then (grownRefl _ _) hbW (Nat.le_refl _)
  clear hc hbW
  go_enter Try.func15, Try.ntmps15
  go_wp2_with fail
  rw [← hW]
  clear hW
  refine (below_any p 26 W hcW (by omega)).mono ?_
  rintro e w1 ⟨s, rfl, hs0, hs1, -, hc1, hg1⟩
  have hs1 := hs1 (by omega)
  have k1 := k0.grown hg1 (by omega)
  have hg1' := grown_trans hgW hg1
  clear hcW hgW hg1 k0
  go_wp2_with fail
  refine (below_any p 90 w1 hc1 (by omega)).mono ?_
  rintro e w2 ⟨q, rfl, hq0, hq1, -, hc2, hg2⟩
  have hq1 := hq1 (by omega)
  have k2 := k1.grown hg2 (by omega)
  have hg2' := grown_trans hg1' hg2
  have hp2 : p < w2.heap.size := by have := hg2'.size; omega
  clear hc1 hg1' hg2 k1
  go_wp2_with fail
  refine (drawText_any p w2 hc2 hp2).mono ?_
  rintro e w3 ⟨d, rfl, hd, hc3, hg3⟩
  have k3 := k2.grown hg3 (by omega)
  have hg3' := grown_trans hg2' hg3
  have hp3 : p < w3.heap.size := by have := hg3'.size; omega
  have hs3 := hg3'.size
  have hlt3 := k3.lt
  clear hc2 hg2' hg3 k2 hp2
  obtain ⟨U, hU⟩ : ∃ U, U = w3.alloc (Obj.cells #[.int .i64 s, .int .i64 (1 + q), .string d] 25) := ⟨_, rfl⟩
  have hbU : Below w3.heap.size w3 U := by rw [hU]; exact (Below.refl _ _).alloc (Nat.le_refl _) _
  have u0 : C3 U w3.heap.size (.int .i64 s) (.int .i64 (1 + q)) (.string d) := by rw [hU]; exact c3_new _ _ _ _ _
  have hcU := hc3.kept (hbU.mono (by omega))
  have hgU : w.grownBy U (some p) := grown_then hg3' hbU hs3
  have kU := k3.below hbU
  clear hg3' hc3 k3 hbU
  go_wp2_with fail
  rw [← hU]
  clear hU
  refine (below_any p 15 U hcU (by omega)).mono ?_
  rintro e w4 ⟨x, rfl, hx0, hx1, -, hc4, hg4⟩
  have hx1 := hx1 (by omega)
  have k4 := kU.grown hg4 (by omega)
  have u4 := u0.grown hg4 (by omega)
  have hg4' := grown_trans hgU hg4
  have hp4 := u4.lt
  have hs4 := hg4'.size
  clear hcU hgU hg4 kU u0
  by_cases h0 : x = 0
  · subst h0
    obtain ⟨V, hV⟩ : ∃ V, V = w4.alloc (Obj.cells #[.int .i64 (-1), .int .i64 26] 3) := ⟨_, rfl⟩
    have hbV : Below w4.heap.size w4 V := by rw [hV]; exact (Below.refl _ _).alloc (Nat.le_refl _) _
    have PI := hide (pickInt_any p (some ⟨w4.heap.size, 0, none⟩) [-1, 26] 2 2 V rfl (hc4.kept (hbV.mono (by omega))) (by rw [hV]; exact rd_lit w4 _ _) (by intro x hx; simp at hx; subst hx; show w4.heap.size ≠ _; omega) (by simp) (by simp))
    have kV := k4.below hbV
    have uV := u4.below hbV
    have hgV : w.grownBy V (some p) := grown_then hg4' hbV hs4
    clear hbV k4 u4 hg4' hc4
    go_wp2_with fail
    rw [← hV]
    clear hV
    refine PI.out.mono ?_
    rintro e w5 ⟨y, rfl, hy, hc5, hg5⟩
    have hyb : -1 ≤ y ∧ y ≤ 26 := by simp at hy; omega
    have k5 := kV.grown hg5 (by omega)
    have u5 := uV.grown hg5 (by omega)
    have hg5' := grown_trans hgV hg5
    have hs5 := hg5'.size
    clear kV uV hgV hg5 hy PI
    obtain ⟨⟨a0, a1, a2⟩, af⟩ := u5
    have e0 := af 0
    obtain ⟨⟨b0, b1, b2⟩, bf⟩ := k5
    have f0 := bf 0
    have f1 := bf 1
    have f2 := bf 2
    clear af bf
    have hne : w3.heap.size ≠ w.heap.size := by omega
    go_wp2
    exact bodyPost_ret (v := .agg #[.int .i64 y, .int .i64 (1 + q), .string d]) (by simp [results, Try.results15, go_sem, b0, b1, b2]) rfl ⟨y, 1 + q, d, rfl, hyb, by omega, hd, (hc5.kept (((((Below.refl _ _).setCell (by show _ ≤ _; simp; omega) _).setCell (by show _ ≤ _; simp; omega) _).setCell (by show _ ≤ _; simp; omega) _).setCell (by show _ ≤ _; simp; omega) _)), grown_then hg5' (((((Below.refl w.heap.size w5).setCell (by show _ ≤ _; simp; omega) _).setCell (by show _ ≤ _; simp) _).setCell (by show _ ≤ _; simp) _).setCell (by show _ ≤ _; simp) _) (Nat.le_refl _)⟩
  by_cases h1 : x = 1
  · subst h1
    obtain ⟨V, hV⟩ : ∃ V, V = w4.alloc (Obj.cells #[.int .i64 0, .int .i64 1000000000, .int .i64 1000000001] 3) := ⟨_, rfl⟩
    have hbV : Below w4.heap.size w4 V := by rw [hV]; exact (Below.refl _ _).alloc (Nat.le_refl _) _
    have PI := hide (pickInt_any p (some ⟨w4.heap.size, 0, none⟩) [0, 1000000000, 1000000001] 3 3 V rfl (hc4.kept (hbV.mono (by omega))) (by rw [hV]; exact rd_lit w4 _ _) (by intro x hx; simp at hx; subst hx; show w4.heap.size ≠ _; omega) (by simp) (by simp))
    have kV := k4.below hbV
    have uV := u4.below hbV
    have hgV : w.grownBy V (some p) := grown_then hg4' hbV hs4
    clear hbV k4 u4 hg4' hc4
    go_wp2_with fail
    rw [← hV]
    clear hV
    refine PI.out.mono ?_
    rintro e w5 ⟨y, rfl, hy, hc5, hg5⟩
    have hyb : 0 ≤ y ∧ y ≤ 1000000001 := by simp at hy; omega
    have k5 := kV.grown hg5 (by omega)
    have u5 := uV.grown hg5 (by omega)
    have hg5' := grown_trans hgV hg5
    have hs5 := hg5'.size
    clear kV uV hgV hg5 hy PI
    obtain ⟨⟨a0, a1, a2⟩, af⟩ := u5
    have e1 := af 1
    obtain ⟨⟨b0, b1, b2⟩, bf⟩ := k5
    have f0 := bf 0
    have f1 := bf 1
    have f2 := bf 2
    clear af bf
    have hne : w3.heap.size ≠ w.heap.size := by omega
    go_wp2
    exact bodyPost_ret (v := .agg #[.int .i64 s, .int .i64 y, .string d]) (by simp [results, Try.results15, go_sem, b0, b1, b2]) rfl ⟨s, y, d, rfl, by omega, hyb, hd, (hc5.kept (((((Below.refl _ _).setCell (by show _ ≤ _; simp; omega) _).setCell (by show _ ≤ _; simp; omega) _).setCell (by show _ ≤ _; simp; omega) _).setCell (by show _ ≤ _; simp; omega) _)), grown_then hg5' (((((Below.refl w.heap.size w5).setCell (by show _ ≤ _; simp; omega) _).setCell (by show _ ≤ _; simp) _).setCell (by show _ ≤ _; simp) _).setCell (by show _ ≤ _; simp) _) (Nat.le_refl _)⟩
  · have hx0' : (x == 0) = false := by simpa using h0
    have hx1' : (x == 1) = false := by simpa using h1
    obtain ⟨⟨a0, a1, a2⟩, -⟩ := u4
    obtain ⟨⟨b0, b1, b2⟩, bf⟩ := k4
    have f0 := bf 0
    have f1 := bf 1
    have f2 := bf 2
    clear bf h0 h1
    go_wp2
    exact bodyPost_ret (v := .agg #[.int .i64 s, .int .i64 (1 + q), .string d]) (by simp [results, Try.results15, go_sem, b0, b1, b2]) rfl ⟨s, 1 + q, d, rfl, by omega, by omega, hd, (hc4.kept ((((Below.refl _ _).setCell (by show _ ≤ _; simp; omega) _).setCell (by show _ ≤ _; simp; omega) _).setCell (by show _ ≤ _; simp; omega) _)), grown_then hg4' ((((Below.refl w.heap.size w4).setCell (by show _ ≤ _; simp) _).setCell (by show _ ≤ _; simp) _).setCell (by show _ ≤ _; simp) _) (Nat.le_refl _)⟩

theorem DrawRecText_any (a : Option Addr) (zs : List Int) (cap : Nat) (w : World) (hr : Rd w a (u8s zs)) (hb : IsBytes zs) (hm : zs.length ≤ 1048576) :
    Calls Try.prog 5 #[.slice a zs.length cap] w fun e w' => ∃ (s q : Int) (d : ByteArray), e = .returned (.agg #[.int .i64 s, .int .i64 q, .string d]) ∧ (-1 ≤ s ∧ s ≤ 26) ∧ (0 ≤ q ∧ q ≤ 1000000001) ∧ d.size ≤ 401 ∧ Below w.heap.size w w' := by
  obtain ⟨W, hW⟩ : ∃ W, W = w.alloc (Obj.cells #[.int .i64 0, .int .i64 0, .string ⟨#[]⟩] 25) := ⟨_, rfl⟩
  have hbW : Below w.heap.size w W := by rw [hW]; exact (Below.refl _ _).alloc (Nat.le_refl _) _
  have k0 : C3 W w.heap.size (.int .i64 0) (.int .i64 0) (.string ⟨#[]⟩) := by rw [hW]; exact c3_new _ _ _ _ _
  have hlt := k0.lt
  have hrW := hr.below hbW
  go_enter Try.func5, Try.ntmps5
  go_wp2_with fail
  rw [← hW]
  clear hW
  refine (new_any a zs cap W hrW hb hm).mono ?_
  rintro e w1 ⟨rfl, hc, hb1, hs1⟩
  have k1 := k0.below hb1
  go_wp2_with fail
  refine (recDraw_any W.heap.size w1 hc hs1).mono ?_
  rintro e w2 ⟨s, q, d, rfl, hs, hq, hd, hc2, hg2⟩
  have k2 := k1.grown hg2 (by omega)
  have hbw2 : Below w.heap.size w w2 := (after hbW hb1).grown hg2 (by omega) (by simp; omega)
  obtain ⟨⟨b0, b1, b2⟩, bf⟩ := k2
  have f0 := bf 0
  have f1 := bf 1
  have f2 := bf 2
  clear bf k1 k0 hc hc2 hg2 hr hrW
  go_wp2
  exact bodyPost_ret (v := .agg #[.int .i64 s, .int .i64 q, .string d]) (by simp [results, Try.results5, go_sem, b0, b1, b2]) rfl ⟨s, q, d, rfl, hs, hq, hd, ((hbw2.setCell (by show _ ≤ _; simp) _).setCell (by show _ ≤ _; simp) _).setCell (by show _ ≤ _; simp) _⟩

theorem DrawRecOk_any (a : Option Addr) (zs : List Int) (cap : Nat) (w : World) (hr : Rd w a (u8s zs)) (hb : IsBytes zs) (hm : zs.length ≤ 1048576) :
    Calls Try.prog 11 #[.slice a zs.length cap] w fun e w' => ∃ (s q : Int) (d : ByteArray), e = .returned (.agg #[.int .i64 s, .int .i64 q, .string d]) ∧ (-1 ≤ s ∧ s ≤ 26) ∧ (0 ≤ q ∧ q ≤ 1000000001) ∧ d.size ≤ 401 ∧ Below w.heap.size w w' := by
  obtain ⟨W, hW⟩ : ∃ W, W = w.alloc (Obj.cells #[.int .i64 0, .int .i64 0, .string ⟨#[]⟩] 25) := ⟨_, rfl⟩
  have hbW : Below w.heap.size w W := by rw [hW]; exact (Below.refl _ _).alloc (Nat.le_refl _) _
  have k0 : C3 W w.heap.size (.int .i64 0) (.int .i64 0) (.string ⟨#[]⟩) := by rw [hW]; exact c3_new _ _ _ _ _
  have hlt := k0.lt
  have hrW := hr.below hbW
  go_enter Try.func11, Try.ntmps11
  go_wp2_with fail
  rw [← hW]
  clear hW
  refine (new_any a zs cap W hrW hb hm).mono ?_
  rintro e w1 ⟨rfl, hc, hb1, hs1⟩
  have k1 := k0.below hb1
  go_wp2_with fail
  refine (recDraw_any W.heap.size w1 hc hs1).mono ?_
  rintro e w2 ⟨s, q, d, rfl, hs, hq, hd, hc2, hg2⟩
  have k2 := k1.grown hg2 (by omega)
  have hbw2 : Below w.heap.size w w2 := (after hbW hb1).grown hg2 (by omega) (by simp; omega)
  obtain ⟨⟨b0, b1, b2⟩, bf⟩ := k2
  have f0 := bf 0
  have f1 := bf 1
  have f2 := bf 2
  clear bf k1 k0 hc hc2 hg2 hr hrW
  go_wp2
  exact bodyPost_ret (v := .agg #[.int .i64 s, .int .i64 q, .string d]) (by simp [results, Try.results11, go_sem, b0, b1, b2]) rfl ⟨s, q, d, rfl, hs, hq, hd, ((hbw2.setCell (by show _ ≤ _; simp) _).setCell (by show _ ≤ _; simp) _).setCell (by show _ ≤ _; simp) _⟩

end Go.Proofs.Ytdeipchflgpffaa
