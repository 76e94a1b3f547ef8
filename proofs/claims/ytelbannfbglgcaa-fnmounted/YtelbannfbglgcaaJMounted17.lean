/-
  Contract of the specification's Clear.
  Contracts of slices.Clone at []string and []int: a row that is not empty is copied into a row of the call's own.
  A board: a chip as two arrays in one block. Contract of the program's (*board).chip: what is on the board, in rows of the call's own.
-/
import Derived.Test.YtelbannfbglgcaaJMounted8
import Derived.Test.YtelbannfbglgcaaJMounted7
import Derived.Lib.SliceRun
import Derived.Laws.Rows
import Derived.Laws.Tables
import Derived.Deep.MidRow
import Derived.Deep.RegionHeld
import Derived.Deep.RegionWith
namespace Go.Proofs.Ytelbannfbglgcaa
open Go.RowKit

/-- A block can be cleared. -/
def clearOk (ws : List Int) (block : Int) : Prop := 0 ≤ block ∧ block ≤ 9 ∧ ws[block.toNat]?.getD 0 ≠ 1000000000

set_option maxHeartbeats 1600000 in
theorem specClear_bad (a b : Option Addr) (ps : List ByteArray) (ws : List Int) (c d : Nat) (block : Int) (w : World) (hp : Rd w a (vsString ps)) (hw : Rd w b (vsInt ws)) (hl : ps.length ≤ 1048576) (hm : ws.length ≤ 1048576) (hs : ∀ s ∈ ps, s.size ≤ 1048576) (hok : ¬ chipOkP ps ws) :
    Calls Try.prog 16 #[.agg #[.slice a ps.length c, .slice b ws.length d], .int .i64 block] w fun e w' => ∃ v, e = .returned (.tuple #[v, .bool false]) ∧ ChipOwn w' w.heap.size v [] [] ∧ Below w.heap.size w w' := by
  obtain ⟨W, hW⟩ : ∃ W, W = (w.alloc (Obj.cells #[.slice a ps.length c, .slice b ws.length d] 27)).alloc (Obj.cells #[.slice none 0 0, .slice none 0 0] 27) := ⟨_, rfl⟩
  have hbW : Below w.heap.size w W := by subst hW; exact ((Below.refl _ _).alloc (Nat.le_refl _) _).alloc (by simp) _
  have cW : W.cell? ⟨w.heap.size + 1, 0, none⟩ = some (.slice none 0 0) ∧ W.cell? ⟨w.heap.size + 1, 1, none⟩ = some (.slice none 0 0) ∧ W.frozen? ⟨w.heap.size + 1, 0, none⟩ = false ∧ W.frozen? ⟨w.heap.size + 1, 1, none⟩ = false ∧ w.heap.size + 1 < W.heap.size := by
    subst hW; refine ⟨?_, ?_, ?_, ?_, ?_⟩ <;> simp [go_sem]
  have hB := chipOkB_false hok
  go_enter Try.func16, Try.ntmps16
  go_wp2_with fail
  rw [← hW]
  clear hW
  refine (specChipOk_any a b ps ws c d _ (hp.below hbW) (hw.below hbW) hl hm hs).mono ?_
  rw [hB]
  rintro e w1 ⟨rfl, hb1⟩
  have k1 := (hb1.cell (p := ⟨w.heap.size + 1, 0, none⟩) (by show _ < _; exact cW.2.2.2.2)).trans cW.1
  have k2 := (hb1.cell (p := ⟨w.heap.size + 1, 1, none⟩) (by show _ < _; exact cW.2.2.2.2)).trans cW.2.1
  have f1 := (hb1.frozen (p := ⟨w.heap.size + 1, 0, none⟩) (by show _ < _; exact cW.2.2.2.2)).trans cW.2.2.1
  have f2 := (hb1.frozen (p := ⟨w.heap.size + 1, 1, none⟩) (by show _ < _; exact cW.2.2.2.2)).trans cW.2.2.2.1
  have hbw1 := after hbW hb1
  clear hb1 hbW cW hp hw hs hok hB
  go_wp2
  exact bodyPost_ret (v := .tuple #[.agg #[.slice none 0 0, .slice none 0 0], .bool false]) (by simp [results, Try.results16, go_sem, k1, k2]) rfl ⟨_, rfl, own_zero _ _, (hbw1.setCell (by show _ ≤ _; simp) _).setCell (by show _ ≤ _; simp) _⟩

set_option maxHeartbeats 3200000 in
theorem specClear_ok (a b : Option Addr) (ps : List ByteArray) (ws : List Int) (c d : Nat) (block : Int) (w : World) (hp : Rd w a (vsString ps)) (hw : Rd w b (vsInt ws)) (hok : chipOkP ps ws) :
    Calls Try.prog 16 #[.agg #[.slice a ps.length c, .slice b ws.length d], .int .i64 block] w fun e w' => (clearOk ws block → ∃ v, e = .returned (.tuple #[v, .bool true]) ∧ ChipOwn w' w.heap.size v (wipeP ps block.toNat 6) (ws.set block.toNat (ws[block.toNat]?.getD 0 + 1))) ∧
      (¬ clearOk ws block → ∃ v, e = .returned (.tuple #[v, .bool false]) ∧ ChipOwn w' w.heap.size v ps ws) ∧ Below w.heap.size w w' := by
  obtain ⟨W, hW⟩ : ∃ W, W = (w.alloc (Obj.cells #[.slice a ps.length c, .slice b ws.length d] 27)).alloc (Obj.cells #[.slice none 0 0, .slice none 0 0] 27) := ⟨_, rfl⟩
  have hbW : Below w.heap.size w W := by subst hW; exact ((Below.refl _ _).alloc (Nat.le_refl _) _).alloc (by simp) _
  have cW : W.cell? ⟨w.heap.size, 0, none⟩ = some (.slice a ps.length c) ∧ W.cell? ⟨w.heap.size, 1, none⟩ = some (.slice b ws.length d) ∧ W.cell? ⟨w.heap.size + 1, 0, none⟩ = some (.slice none 0 0) ∧ W.cell? ⟨w.heap.size + 1, 1, none⟩ = some (.slice none 0 0) ∧ W.frozen? ⟨w.heap.size + 1, 0, none⟩ = false ∧ W.frozen? ⟨w.heap.size + 1, 1, none⟩ = false := by
    subst hW; refine ⟨?_, ?_, ?_, ?_, ?_, ?_⟩ <;> simp [go_sem]
  have hsW : w.heap.size + 1 < W.heap.size := by subst hW; simp
  have hB := chipOkB_true hok
  obtain ⟨hl, hm, hs8, hx⟩ := hok
  have HL : Hid (ps.length = 60 ∧ ws.length = 10) := ⟨hl, hm⟩
  have hl1 : 60 ≤ ps.length ∧ ps.length ≤ 60 := by omega
  have hm1 : 10 ≤ ws.length ∧ ws.length ≤ 10 := by omega
  clear hl hm
  go_enter Try.func16, Try.ntmps16
  go_wp2_with fail
  rw [← hW]
  clear hW
  refine (specChipOk_any a b ps ws c d _ (hp.below hbW) (hw.below hbW) (by omega) (by omega) (fun s h => by have := hs8 s h; omega)).mono ?_
  rw [hB]
  rintro e w1 ⟨rfl, hb1⟩
  have k1 := (hb1.cell (p := ⟨w.heap.size, 0, none⟩) (by show _ < _; simp; omega)).trans cW.1
  have k2 := (hb1.cell (p := ⟨w.heap.size, 1, none⟩) (by show _ < _; simp; omega)).trans cW.2.1
  have hbw1 := after hbW hb1
  have hs1 := hb1.size
  have hw1 := hw.below hbw1
  have copyF : ∀ (w2 : World) (v : Value), ChipOwn w2 w1.heap.size v ps ws → Below w1.heap.size w1 w2 → Hid (∃ g k g' k', v = .agg #[.slice (some ⟨g, 0, none⟩) ps.length k, .slice (some ⟨g', 0, none⟩) ws.length k'] ∧
      w2.cell? ⟨w.heap.size + 1, 0, none⟩ = some (.slice none 0 0) ∧ w2.cell? ⟨w.heap.size + 1, 1, none⟩ = some (.slice none 0 0) ∧ w2.frozen? ⟨w.heap.size + 1, 0, none⟩ = false ∧ w2.frozen? ⟨w.heap.size + 1, 1, none⟩ = false ∧ Below w.heap.size w w2 ∧
      w2.ownsRow w1.heap.size 9 1 (.slice (some ⟨g, 0, none⟩) ps.length k) ps.length (vsString ps) ∧ w2.ownsRow w1.heap.size 3 1 (.slice (some ⟨g', 0, none⟩) ws.length k') ws.length (vsInt ws) ∧ g ≠ g' ∧ w1.heap.size ≤ g ∧ w1.heap.size ≤ g') := by
    intro w2 v hown hb2
    obtain ⟨g, kg, g', kg', rfl, ho1, ho2, hne, hg1, hg2, hg3, hg4⟩ := own_form hown (by omega) (by omega)
    have hb12 := after hb1 hb2
    refine ⟨g, kg, g', kg', rfl, ?_, ?_, ?_, ?_, after hbw1 hb2, ho1, ho2, hne, hg1, hg2⟩
    · exact (hb12.cell (p := ⟨w.heap.size + 1, 0, none⟩) (by show _ < _; simp; omega)).trans cW.2.2.1
    · exact (hb12.cell (p := ⟨w.heap.size + 1, 1, none⟩) (by show _ < _; simp; omega)).trans cW.2.2.2.1
    · exact (hb12.frozen (p := ⟨w.heap.size + 1, 0, none⟩) (by show _ < _; simp; omega)).trans cW.2.2.2.2.1
    · exact (hb12.frozen (p := ⟨w.heap.size + 1, 1, none⟩) (by show _ < _; simp; omega)).trans cW.2.2.2.2.2
  have HCF : Hid _ := copyF
  have hwb : w.heap.size + 1 < w1.heap.size := by omega
  have HP : Hid (Rd w1 a (vsString ps)) := hp.below hbw1
  have HW : Hid (Rd w1 b (vsInt ws)) := hw1
  clear copyF hb1 hbW cW hp hw hB hs8 hsW hs1 hbw1 hw1
  go_wp2_with fail
  refine (in_any _ _ _ _).mono ?_
  rintro e u ⟨rfl, hu⟩
  have hu' := hu.symm
  subst hu'
  have outF : ∀ (w2 : World) (v : Value), ChipOwn w2 w1.heap.size v ps ws → True := fun _ _ _ => trivial
  clear outF
  by_cases hin : 0 ≤ block ∧ block ≤ 9
  · have hd : decide (0 ≤ block ∧ block ≤ 9) = true := by simpa using hin
    rw [hd]
    obtain ⟨B, rfl⟩ : ∃ B : Nat, block = B := ⟨block.toNat, by omega⟩
    have hBl : B < ws.length := by omega
    obtain ⟨b1, o1, x, hbe, hck, HX⟩ := rdInt_at HW.out hBl
    subst hbe
    have hx' := hx x (List.mem_of_getElem? HX.out)
    clear hin hd hx
    by_cases hxm : x = 1000000000
    · have hnb : Hid (¬ clearOk ws B) := fun h => h.2.2 (by rw [Int.toNat_natCast, HX.out]; exact hxm)
      have t1 : (x == 1000000000) = true := by simp [hxm]
      clear hxm
      go_wp2_with fail
      refine (copy_any a _ ps ws c d _ HP.out HW.out HL.out.1 HL.out.2).mono ?_
      rintro e w2 ⟨v, rfl, hown, hb2⟩
      obtain ⟨g, kg, g', kg', rfl, j3, j4, f3, f4, hbw2, ho1, ho2, hne, hg1, hg2⟩ := (HCF.out w2 v hown hb2).out
      clear hown hb2
      go_wp2
      refine bodyPost_ret (v := .tuple #[.agg #[.slice (some ⟨g, 0, none⟩) ps.length kg, .slice (some ⟨g', 0, none⟩) ws.length kg'], .bool false]) (by simp [results, Try.results16, go_sem, j3, j4]) rfl ⟨fun h => absurd h hnb.out, fun _ => ⟨_, rfl, ?_⟩, (hbw2.setCell (by show _ ≤ _; simp) _).setCell (by show _ ≤ _; simp) _⟩
      refine own_mono (own_set (own_set ⟨_, _, rfl, ho1, ho2, fun q hq => by simp [Value.ownBlock] at hq ⊢; omega⟩ ?_ _) ?_ _) (show w.heap.size ≤ w1.heap.size by omega)
      · show _ < _; exact hwb
      · show _ < _; exact hwb
    · have hyb : Hid (clearOk ws B) := ⟨by omega, by omega, by rw [Int.toNat_natCast, HX.out]; exact hxm⟩
      have t1 : (x == 1000000000) = false := by simp [hxm]
      clear hxm
      go_wp2_with fail
      refine (copy_any a _ ps ws c d _ HP.out HW.out HL.out.1 HL.out.2).mono ?_
      rintro e w2 ⟨v, rfl, hown, hb2⟩
      obtain ⟨g, kg, g', kg', rfl, j3, j4, f3, f4, hbw2, ho1, ho2, hne, hg1, hg2⟩ := (HCF.out w2 v hown hb2).out
      clear hown hb2
      go_wp2_with fail
      refine (wipe_any g kg g' kg' w1.heap.size B 6 6 x ps ws w2 HL.out.1 HL.out.2 ho1 ho2 hne (by omega) HX.out hx'.1 hx'.2 (by omega) (by omega)).mono ?_
      rintro e w3 ⟨rfl, oo1, oo2, hon⟩
      have hb3 : Below w1.heap.size w2 w3 := hon.below (by have := (owns_lt ho1).2; omega) (by intro q hq; simp at hq; omega)
      have i3 := (hb3.cell (p := ⟨w.heap.size + 1, 0, none⟩) (by show _ < _; exact hwb)).trans j3
      have i4 := (hb3.cell (p := ⟨w.heap.size + 1, 1, none⟩) (by show _ < _; exact hwb)).trans j4
      have m3 := (hb3.frozen (p := ⟨w.heap.size + 1, 0, none⟩) (by show _ < _; exact hwb)).trans f3
      have m4 := (hb3.frozen (p := ⟨w.heap.size + 1, 1, none⟩) (by show _ < _; exact hwb)).trans f4
      have hbw3 : Below w.heap.size w w3 := hbw2.trans (hb3.mono (by omega))
      clear j3 j4 f3 f4 hb3 hon ho1 ho2 hbw2
      go_wp2
      refine bodyPost_ret (v := .tuple #[.agg #[.slice (some ⟨g, 0, none⟩) ps.length kg, .slice (some ⟨g', 0, none⟩) ws.length kg'], .bool true]) (by simp [results, Try.results16, go_sem, i3, i4]) rfl ⟨fun _ => ⟨_, rfl, ?_⟩, fun h => absurd hyb.out h, (hbw3.setCell (by show _ ≤ _; simp) _).setCell (by show _ ≤ _; simp) _⟩
      rw [Int.toNat_natCast, HX.out]
      refine own_mono (own_set (own_set ⟨_, _, rfl, ?_, ?_, fun q hq => by simp [Value.ownBlock] at hq ⊢; omega⟩ ?_ _) ?_ _) (show w.heap.size ≤ w1.heap.size by omega)
      · rw [wipeP_len]; exact oo1
      · rw [List.length_set]; exact oo2
      · show _ < _; exact hwb
      · show _ < _; exact hwb
  · have hd : decide (0 ≤ block ∧ block ≤ 9) = false := by simpa using hin
    have hnb : Hid (¬ clearOk ws block) := fun h => hin ⟨h.1, h.2.1⟩
    rw [hd]
    clear hin hd
    go_wp2_with fail
    refine (copy_any a b ps ws c d _ HP.out HW.out HL.out.1 HL.out.2).mono ?_
    rintro e w2 ⟨v, rfl, hown, hb2⟩
    obtain ⟨g, kg, g', kg', rfl, j3, j4, f3, f4, hbw2, ho1, ho2, hne, hg1, hg2⟩ := (HCF.out w2 v hown hb2).out
    clear hown hb2
    go_wp2
    refine bodyPost_ret (v := .tuple #[.agg #[.slice (some ⟨g, 0, none⟩) ps.length kg, .slice (some ⟨g', 0, none⟩) ws.length kg'], .bool false]) (by simp [results, Try.results16, go_sem, j3, j4]) rfl ⟨fun h => absurd h hnb.out, fun _ => ⟨_, rfl, ?_⟩, (hbw2.setCell (by show _ ≤ _; simp) _).setCell (by show _ ≤ _; simp) _⟩
    refine own_mono (own_set (own_set ⟨_, _, rfl, ho1, ho2, fun q hq => by simp [Value.ownBlock] at hq ⊢; omega⟩ ?_ _) ?_ _) (show w.heap.size ≤ w1.heap.size by omega)
    · show _ < _; exact hwb
    · show _ < _; exact hwb

end Go.Proofs.Ytelbannfbglgcaa

namespace Go.Proofs.Ytelbannfbglgcaa
open Go.RowKit

theorem rd_cells {w : World} {b o : Nat} {vs : List Value} (h : Rd w (some ⟨b, o, none⟩) vs) (j : Nat) (u : Value) (hu : vs[j]? = some u) : w.cell? ((⟨b, o, none⟩ : Addr).add j) = some u := by
  rcases h with h | ⟨b', o', he, hc⟩
  · rw [h] at hu; simp at hu
  · simp at he; obtain ⟨rfl, rfl⟩ := he; rw [add_at]; exact hc j u hu

set_option maxHeartbeats 1600000 in
theorem cloneString_any (b o c : Nat) (ps : List ByteArray) (w : World) (hp : Rd w (some ⟨b, o, none⟩) (vsString ps)) (hl : ps.length ≤ 1048576) :
    Calls Try.prog 104 #[.slice (some ⟨b, o, none⟩) ps.length c] w fun e w' => ∃ v, e = .returned v ∧ w'.ownsRow w.heap.size 9 1 v ps.length (vsString ps) ∧ Below w.heap.size w w' := by
  obtain ⟨i1, hi1, hy0, hy1, hy2⟩ := info_parts infoString
  obtain ⟨W, hW⟩ : ∃ W, W = w.alloc (Obj.cells #[] 9) := ⟨_, rfl⟩
  have hbW : Below w.heap.size w W := by subst hW; exact (Below.refl _ _).alloc (Nat.le_refl _) _
  have HC : Hid (∀ j u, (vsString ps)[j]? = some u → W.cell? ((⟨b, o, none⟩ : Addr).add j) = some u) := fun j u hu => rd_cells (hp.below hbW) j u hu
  have hW0 : W.ownsRow w.heap.size 9 1 (.slice (some ⟨w.heap.size, 0, none⟩) 0 0) 0 [] := by subst hW; exact World.ownsRow_made w #[] 0 (Nat.le_refl _) (Nat.zero_le _) rfl
  have hsW : w.heap.size < W.heap.size := by subst hW; simp
  clear hp
  have q22 : ∀ (w : World) (a : Option Addr) (n c n' c' : Nat), (binOp .eql 24 (.slice a n c) (.slice none n' c')).run Try.prog w = .ok (.bool a.isNone) w := fun w a n c n' c' => Lib.run_eql_slice_nil w _ _ a n c n' c' Try.underlying24
  go_enter Try.func104, Try.ntmps104
  go_wp2_with (at_builtin; rw [← hW]; refine wpList_append_own _ rfl _ _ 24 rfl w.heap.size 9 i1 (.string ⟨#[]⟩) 1 16 Try.underlying24 hi1 hy0 hy1 hy2 rfl (by decide) _ _ _ rfl hW0 ⟨b, o, none⟩ ps.length c (vsString ps) rfl ?q1 ?q2 ?q3 ?q4 ?q5 ?q6 ?_)
  case q1 => simp
  case q2 => exact HC.out
  case q3 => intro u hu; simp at hu; obtain ⟨x, _, rfl⟩ := hu; rfl
  case q4 => unfold maxLen; omega
  case q5 => omega
  case q6 => omega
  intro v' w1 hown hgrow _
  go_wp2
  go_ret
  refine ⟨v', rfl, by simpa using hown, ?_⟩
  rw [← hW] at hgrow
  exact hbW.grown hgrow (by omega) (by intro k hk; simp [Value.ownBlock] at hk; omega)

set_option maxHeartbeats 1600000 in
theorem cloneInt_any (b o c : Nat) (ws : List Int) (w : World) (hp : Rd w (some ⟨b, o, none⟩) (vsInt ws)) (hl : ws.length ≤ 1048576) :
    Calls Try.prog 105 #[.slice (some ⟨b, o, none⟩) ws.length c] w fun e w' => ∃ v, e = .returned v ∧ w'.ownsRow w.heap.size 3 1 v ws.length (vsInt ws) ∧ Below w.heap.size w w' := by
  obtain ⟨i1, hi1, hy0, hy1, hy2⟩ := info_parts infoInt
  obtain ⟨W, hW⟩ : ∃ W, W = w.alloc (Obj.cells #[] 3) := ⟨_, rfl⟩
  have hbW : Below w.heap.size w W := by subst hW; exact (Below.refl _ _).alloc (Nat.le_refl _) _
  have HC : Hid (∀ j u, (vsInt ws)[j]? = some u → W.cell? ((⟨b, o, none⟩ : Addr).add j) = some u) := fun j u hu => rd_cells (hp.below hbW) j u hu
  have hW0 : W.ownsRow w.heap.size 3 1 (.slice (some ⟨w.heap.size, 0, none⟩) 0 0) 0 [] := by subst hW; exact World.ownsRow_made w #[] 0 (Nat.le_refl _) (Nat.zero_le _) rfl
  have hsW : w.heap.size < W.heap.size := by subst hW; simp
  clear hp
  have q22 : ∀ (w : World) (a : Option Addr) (n c n' c' : Nat), (binOp .eql 25 (.slice a n c) (.slice none n' c')).run Try.prog w = .ok (.bool a.isNone) w := fun w a n c n' c' => Lib.run_eql_slice_nil w _ _ a n c n' c' Try.underlying25
  go_enter Try.func105, Try.ntmps105
  go_wp2_with (at_builtin; rw [← hW]; refine wpList_append_own _ rfl _ _ 25 rfl w.heap.size 3 i1 (.int .i64 0) 1 8 Try.underlying25 hi1 hy0 hy1 hy2 rfl (by decide) _ _ _ rfl hW0 ⟨b, o, none⟩ ws.length c (vsInt ws) rfl ?q1 ?q2 ?q3 ?q4 ?q5 ?q6 ?_)
  case q1 => simp
  case q2 => exact HC.out
  case q3 => intro u hu; simp at hu; obtain ⟨x, _, rfl⟩ := hu; rfl
  case q4 => unfold maxLen; omega
  case q5 => omega
  case q6 => omega
  intro v' w1 hown hgrow _
  go_wp2
  go_ret
  refine ⟨v', rfl, by simpa using hown, ?_⟩
  rw [← hW] at hgrow
  exact hbW.grown hgrow (by omega) (by intro k hk; simp [Value.ownBlock] at hk; omega)

end Go.Proofs.Ytelbannfbglgcaa

namespace Go.Proofs.Ytelbannfbglgcaa
open Go.RowKit

theorem OnlyIn.drewN {w w' : World} {L : List (Option Nat)} (h : OnlyIn w w' L) (n : Nat) : OnlyIn w (w'.drewN n) L := ⟨h.os, h.tape, h.output, h.size, h.block⟩

/-- The cells of a board. -/
def bd (ps : List ByteArray) (ws : List Int) : Array Value := (vsString ps ++ vsInt ws).toArray
/-- Block g is a board. -/
def Board (w : World) (g : Nat) (ps : List ByteArray) (ws : List Int) : Prop := w.heap[g]? = some (.cells (bd ps ws) 93 (0, 0))

theorem bd_size (ps : List ByteArray) (ws : List Int) : (bd ps ws).size = ps.length + ws.length := by simp [bd]
theorem bd_page {ps : List ByteArray} {ws : List Int} {j : Nat} (h : j < ps.length) : (bd ps ws)[j]? = (vsString ps)[j]? := by
  simp only [bd, List.getElem?_toArray]
  rw [List.getElem?_append_left (by simpa using h)]
theorem bd_wear {ps : List ByteArray} {ws : List Int} (hl : ps.length = 60) (j : Nat) : (bd ps ws)[60 + j]? = (vsInt ws)[j]? := by
  simp only [bd, List.getElem?_toArray]
  rw [List.getElem?_append_right (by simp; omega)]
  simp [hl]
theorem bd_setPage {ps : List ByteArray} {ws : List Int} {j : Nat} (h : j < ps.length) (t : ByteArray) : (bd ps ws).setIfInBounds j (.string t) = bd (ps.set j t) ws := by
  apply Array.ext'
  simp only [bd, Array.toList_setIfInBounds]
  rw [List.set_append_left _ _ (by simpa using h)]
  simp [List.map_set]
theorem bd_setWear {ps : List ByteArray} {ws : List Int} (hl : ps.length = 60) (j : Nat) (x : Int) : (bd ps ws).setIfInBounds (60 + j) (.int .i64 x) = bd ps (ws.set j x) := by
  apply Array.ext'
  simp only [bd, Array.toList_setIfInBounds]
  rw [List.set_append_right _ _ (by simp; omega)]
  simp [List.map_set, hl]

theorem Board.lt {w : World} {g : Nat} {ps : List ByteArray} {ws : List Int} (h : Board w g ps ws) : g < w.heap.size := (Array.getElem?_eq_some_iff.1 h).1
theorem Board.cell {w : World} {g : Nat} {ps : List ByteArray} {ws : List Int} (h : Board w g ps ws) (j : Nat) : w.cell? ⟨g, j, none⟩ = (bd ps ws)[j]? := cell_of_row w g j _ _ _ h
theorem Board.frozen {w : World} {g : Nat} {ps : List ByteArray} {ws : List Int} (h : Board w g ps ws) (j : Nat) : w.frozen? ⟨g, j, none⟩ = false := frozen_of_row w g j _ _ h
theorem Board.pages {w : World} {g : Nat} {ps : List ByteArray} {ws : List Int} (h : Board w g ps ws) : Rd w (some ⟨g, 0, none⟩) (vsString ps) := by
  refine .inr ⟨g, 0, rfl, fun i v hv => ?_⟩
  have hi : i < ps.length := by
    rcases Nat.lt_or_ge i ps.length with h' | h'
    · exact h'
    · simp [h'] at hv
  rw [Nat.zero_add, h.cell, bd_page hi]; exact hv
theorem Board.wear {w : World} {g : Nat} {ps : List ByteArray} {ws : List Int} (h : Board w g ps ws) (hl : ps.length = 60) : Rd w (some ⟨g, 60, none⟩) (vsInt ws) := by
  refine .inr ⟨g, 60, rfl, fun i v hv => ?_⟩
  rw [h.cell, bd_wear hl]; exact hv
theorem Board.below {w w' : World} {g : Nat} {ps : List ByteArray} {ws : List Int} (h : Board w g ps ws) (hb : Below w.heap.size w w') : Board w' g ps ws := (hb.block g h.lt).trans h
theorem Board.other {w w' : World} {g : Nat} {L : List (Option Nat)} {ps : List ByteArray} {ws : List Int} (h : Board w g ps ws) (hb : OnlyIn w w' L) (hn : some g ∉ L) : Board w' g ps ws := (hb.block g h.lt hn).trans h
theorem Board.setPage {w : World} {g : Nat} {ps : List ByteArray} {ws : List Int} (h : Board w g ps ws) {j : Nat} (hj : j < ps.length) (t : ByteArray) : Board (w.setCell ⟨g, j, none⟩ (.string t)) g (ps.set j t) ws := by
  unfold Board
  rw [heap_setCell_same w g j _ _ _ h, bd_setPage hj]
theorem Board.setWear {w : World} {g : Nat} {ps : List ByteArray} {ws : List Int} (h : Board w g ps ws) (hl : ps.length = 60) (j : Nat) (x : Int) : Board (w.setCell ⟨g, 60 + j, none⟩ (.int .i64 x)) g ps (ws.set j x) := by
  unfold Board
  rw [heap_setCell_same w g (60 + j) _ _ _ h, bd_setWear hl]

theorem clonePages {w : World} {g : Nat} {ps : List ByteArray} {ws : List Int} (h : Board w g ps ws) (hl : ps.length = 60) :
    Calls Try.prog 104 #[.slice (some ⟨g, 0, none⟩) 60 60] w fun e w' => ∃ v, e = .returned v ∧ w'.ownsRow w.heap.size 9 1 v ps.length (vsString ps) ∧ Below w.heap.size w w' := by
  have k := cloneString_any g 0 60 ps w h.pages (by omega)
  rw [hl] at k ⊢
  exact k
theorem cloneWear {w : World} {g : Nat} {ps : List ByteArray} {ws : List Int} (h : Board w g ps ws) (hl : ps.length = 60) (hm : ws.length = 10) :
    Calls Try.prog 105 #[.slice (some ⟨g, 60, none⟩) 10 10] w fun e w' => ∃ v, e = .returned v ∧ w'.ownsRow w.heap.size 3 1 v ws.length (vsInt ws) ∧ Below w.heap.size w w' := by
  have k := cloneInt_any g 60 10 ws w (h.wear hl) (by omega)
  rw [hm] at k ⊢
  exact k

set_option maxHeartbeats 3200000 in
theorem chip_any (g : Nat) (ps : List ByteArray) (ws : List Int) (w : World) (h : Board w g ps ws) (hl : ps.length = 60) (hm : ws.length = 10) :
    Calls Try.prog 67 #[.pointer (some ⟨g, 0, none⟩)] w fun e w' => ∃ v, e = .returned v ∧ ChipOwn w' w.heap.size v ps ws ∧ Below w.heap.size w w' := by
  obtain ⟨W, hW⟩ : ∃ W, W = w.alloc (Obj.cells #[.slice none 0 0, .slice none 0 0] 27) := ⟨_, rfl⟩
  have hbW : Below w.heap.size w W := by subst hW; exact (Below.refl _ _).alloc (Nat.le_refl _) _
  have c0 : W.cell? ⟨w.heap.size, 0, none⟩ = some (.slice none 0 0) := by subst hW; simp
  have c1 : W.cell? ⟨w.heap.size, 1, none⟩ = some (.slice none 0 0) := by subst hW; simp
  have f0 : W.frozen? ⟨w.heap.size, 0, none⟩ = false := by subst hW; simp
  have f1 : W.frozen? ⟨w.heap.size, 1, none⟩ = false := by subst hW; simp
  have hsW : w.heap.size < W.heap.size := by subst hW; simp
  have hdr : Below W.heap.size W W.drew := after_drew (Below.refl _ _) 1
  have HB : Hid (Board W.drew g ps ws) := (h.below hbW).below hdr
  have HL : Hid (ps.length = 60 ∧ ws.length = 10) := ⟨hl, hm⟩
  have hl0 : 0 < ps.length := by omega
  have hm0 : 0 < ws.length := by omega
  have HBW : Hid (Below w.heap.size w W.drew) := after hbW hdr
  have HC : Hid (∀ u, Below W.drew.heap.size W.drew u → (u.cell? ⟨w.heap.size, 0, none⟩ = some (.slice none 0 0) ∧ u.cell? ⟨w.heap.size, 1, none⟩ = some (.slice none 0 0)) ∧ u.frozen? ⟨w.heap.size, 0, none⟩ = false ∧ u.frozen? ⟨w.heap.size, 1, none⟩ = false) := fun u hu =>
    ⟨⟨(hu.cell (p := ⟨w.heap.size, 0, none⟩) (by show _ < _; exact hsW)).trans (by simpa using c0), (hu.cell (p := ⟨w.heap.size, 1, none⟩) (by show _ < _; exact hsW)).trans (by simpa using c1)⟩, (hu.frozen (p := ⟨w.heap.size, 0, none⟩) (by show _ < _; exact hsW)).trans (by simpa using f0), (hu.frozen (p := ⟨w.heap.size, 1, none⟩) (by show _ < _; exact hsW)).trans (by simpa using f1)⟩
  clear h hbW c0 c1 f0 f1 hl hm hdr
  go_enter Try.func67, Try.ntmps67
  go_wp2_with fail
  rw [← hW]
  clear hW
  go_region_with (first
    | (go_at_call 104; refine (clonePages HB.out HL.out.1).mono ?_; rintro e w1 ⟨v1, rfl, ho1, hb1⟩; obtain ⟨g1, k1, hv1, hg1, hg1'⟩ := owns_form ho1 hl0; subst hv1; have HO1 : Hid _ := ho1; have HB1 : Hid (Board w1 g ps ws) := HB.out.below hb1; have HBW1 : Hid _ := hb1; clear ho1 hb1)
    | (go_at_call 105; refine (cloneWear HB1.out HL.out.1 HL.out.2).mono ?_; rintro e w2 ⟨v2, rfl, ho2, hb2⟩; obtain ⟨g2, k2, hv2, hg2, hg2'⟩ := owns_form ho2 hm0; subst hv2; have HO2 : Hid _ := ho2; have HO1' : Hid _ := owns_below HO1.out hb2; have HBW2 : Hid (Below W.drew.heap.size W.drew w2) := after HBW1.out hb2; obtain ⟨⟨c0, c1⟩, f0, f1⟩ := HC.out w2 HBW2.out; clear ho2 hb2))
  all_goals go_wp2
  have HW2 : Hid (Below w.heap.size w w2) := HBW.out.trans (HBW2.out.mono HBW.out.size)
  refine bodyPost_ret (v := .agg #[.slice (some ⟨g1, 0, none⟩) ps.length k1, .slice (some ⟨g2, 0, none⟩) ws.length k2]) (by simp [results, Try.results67, go_sem, c0, c1]) rfl ⟨_, rfl, ⟨_, _, rfl, ?_, ?_, ?_⟩, (HW2.out.setCell (by show _ ≤ _; simp) _).setCell (by show _ ≤ _; simp) _⟩
  · exact owns_mono (ownsRow_setCell_below (ownsRow_setCell_below HO1'.out (show w.heap.size < W.drew.heap.size from hsW) _) (show w.heap.size < W.drew.heap.size from hsW) _) (show w.heap.size ≤ W.drew.heap.size from Nat.le_of_lt hsW)
  · exact owns_mono (ownsRow_setCell_below (ownsRow_setCell_below HO2.out (show w.heap.size < w1.heap.size by have := HBW1.out.size; simp at this; omega) _) (show w.heap.size < w1.heap.size by have := HBW1.out.size; simp at this; omega) _) (show w.heap.size ≤ w1.heap.size by have := HBW1.out.size; simp at this; omega)
  · intro k hk
    simp [Value.ownBlock] at hk ⊢
    omega

end Go.Proofs.Ytelbannfbglgcaa
