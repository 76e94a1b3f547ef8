/-
  Contract of the program's recsOf: the record of each page, in a row of the call's own.
  Contract of the program's chipCopy: a chip that is right, in rows of the call's own.
  Contract of the program's Mount, of a chip that is not right; what holds while it goes through the pages.
-/
import Derived.Test.YtelbannfbglgcaaJMounted4
import Derived.Test.YtelbannfbglgcaaJMounted31
import Derived.Test.YtelbannfbglgcaaJMounted8
import Derived.Laws.MakeOwn
import Derived.Test.YtelbannfbglgcaaJMounted17
import Derived.Test.YtelbannfbglgcaaJMounted10
import Derived.Test.YtelbannfbglgcaaJMounted13
import Derived.Test.YtelbannfbglgcaaJMounted9
import Derived.Test.YtelbannfbglgcaaJMounted11
namespace Go.Proofs.Ytelbannfbglgcaa
open Go.RowKit

theorem infoRec : (Try.prog.info? 50).map (fun i => (i.zero, i.size, i.bytes)) = some (some (Value.agg #[.int .i64 0, .int .i64 0, .string ⟨#[]⟩]), 3, 32) := by kernel_rfl

/-- What stands at place i when the first k pages were read. -/
def recK (ps : List ByteArray) (k i : Nat) : Int × Int × ByteArray := if i < k then recC ps i else (0, 0, ByteArray.empty)
/-- The row of records at block g: k of them were read. -/
def RecRow (w : World) (g : Nat) (ps : List ByteArray) (k : Nat) : Prop :=
  (∀ i, i < 60 → w.cell? ⟨g, i * 3, none⟩ = some (.int .i64 (recK ps k i).1) ∧ w.cell? ⟨g, i * 3 + 1, none⟩ = some (.int .i64 (recK ps k i).2.1) ∧ w.cell? ⟨g, i * 3 + 2, none⟩ = some (.string (recK ps k i).2.2)) ∧ ∀ j, w.frozen? ⟨g, j, none⟩ = false
theorem RecRow.lt {w : World} {g : Nat} {ps : List ByteArray} {k : Nat} (h : RecRow w g ps k) : g < w.heap.size := lt_of_cell (h.1 0 (by decide)).1
theorem RecRow.below {w w' : World} {g : Nat} {ps : List ByteArray} {k : Nat} (h : RecRow w g ps k) (hb : Below w.heap.size w w') : RecRow w' g ps k := by
  have hl := h.lt
  refine ⟨fun i hi => ?_, fun j => (hb.frozen (p := ⟨g, j, none⟩) hl).trans (h.2 j)⟩
  obtain ⟨h0, h1, h2⟩ := h.1 i hi
  exact ⟨(hb.cell (p := ⟨g, i * 3, none⟩) hl).trans h0, (hb.cell (p := ⟨g, i * 3 + 1, none⟩) hl).trans h1, (hb.cell (p := ⟨g, i * 3 + 2, none⟩) hl).trans h2⟩
theorem RecRow.other {w : World} {g p j : Nat} {v : Value} {ps : List ByteArray} {k : Nat} (h : RecRow w g ps k) (hne : p ≠ g) : RecRow (w.setCell ⟨p, j, none⟩ v) g ps k := by
  refine ⟨fun i hi => ?_, fun j => by simpa using h.2 j⟩
  obtain ⟨h0, h1, h2⟩ := h.1 i hi
  exact ⟨cell_aside h0 hne, cell_aside h1 hne, cell_aside h2 hne⟩
theorem set_at {w : World} {g j i : Nat} {v u : Value} (h : w.cell? ⟨g, i, none⟩ = some v) (hne : j ≠ i) : (w.setCell ⟨g, j, none⟩ u).cell? ⟨g, i, none⟩ = some v := by
  rw [World.cell?_setCell_other _ _ _ _ (by intro e; injection e with e1 e2; exact hne e2)]
  exact h
theorem RecRow.step {w : World} {g : Nat} {ps : List ByteArray} {k : Nat} {s q : Int} {d : ByteArray} (h : RecRow w g ps k) (hk : k < 60) (he : recC ps k = (s, q, d)) :
    RecRow (((w.setCell ⟨g, k * 3, none⟩ (.int .i64 s)).setCell ⟨g, k * 3 + 1, none⟩ (.int .i64 q)).setCell ⟨g, k * 3 + 2, none⟩ (.string d)) g ps (k + 1) := by
  refine ⟨fun i hi => ?_, fun j => by simpa using h.2 j⟩
  by_cases hik : i = k
  · subst hik
    obtain ⟨h0, h1, h2⟩ := h.1 i hi
    have e : recK ps (i + 1) i = (s, q, d) := by simp [recK, he]
    rw [e]
    refine ⟨?_, ?_, ?_⟩
    · exact set_at (set_at (World.cell?_setCell_same _ _ _ h0) (by omega)) (by omega)
    · exact set_at (World.cell?_setCell_same _ _ _ (set_at h1 (by omega))) (by omega)
    · exact World.cell?_setCell_same _ _ _ (set_at (set_at h2 (by omega)) (by omega))
  · obtain ⟨h0, h1, h2⟩ := h.1 i hi
    have e : recK ps (k + 1) i = recK ps k i := by
      unfold recK
      by_cases h' : i < k
      · rw [if_pos h', if_pos (by omega)]
      · rw [if_neg h', if_neg (by omega)]
    rw [e]
    refine ⟨?_, ?_, ?_⟩
    · exact set_at (set_at (set_at h0 (by omega)) (by omega)) (by omega)
    · exact set_at (set_at (set_at h1 (by omega)) (by omega)) (by omega)
    · exact set_at (set_at (set_at h2 (by omega)) (by omega)) (by omega)
theorem RecRow.skip {w : World} {g : Nat} {ps : List ByteArray} {k : Nat} (h : RecRow w g ps k) (he : recC ps k = (0, 0, ByteArray.empty)) : RecRow w g ps (k + 1) := by
  refine ⟨fun i hi => ?_, h.2⟩
  have e : recK ps (k + 1) i = recK ps k i := by
    unfold recK
    by_cases h' : i < k
    · rw [if_pos h', if_pos (by omega)]
    · rw [if_neg h']
      by_cases hik : i = k
      · rw [if_pos (by omega), hik, he]
      · rw [if_neg (by omega)]
  rw [e]; exact h.1 i hi

theorem made_recs (w : World) (ps : List ByteArray) : RecRow (w.alloc (.cells (madeCells (Value.agg #[.int .i64 0, .int .i64 0, .string ⟨#[]⟩]).cells 180) 50)) w.heap.size ps 0 := by
  have hc : ∀ j, j < 180 → (w.alloc (.cells (madeCells (Value.agg #[.int .i64 0, .int .i64 0, .string ⟨#[]⟩]).cells 180) 50)).cell? ⟨w.heap.size, j, none⟩ = some ((#[Value.int .i64 0, .int .i64 0, .string ⟨#[]⟩] : Array Value)[j % 3]?.getD undef) := by
    intro j hj
    have : (madeCells (Value.agg #[.int .i64 0, .int .i64 0, .string ⟨#[]⟩]).cells 180)[j]? = some ((#[Value.int .i64 0, .int .i64 0, .string ⟨#[]⟩] : Array Value)[j % 3]?.getD undef) := by
      have hm : j % 3 < 3 := Nat.mod_lt _ (by decide)
      simp [madeCells, Value.cells, hj, hm]
    rw [World.cell?_alloc_new]; exact this
  refine ⟨fun i hi => ?_, fun j => by simp⟩
  have e : recK ps 0 i = (0, 0, ByteArray.empty) := by simp [recK]
  rw [e]
  refine ⟨?_, ?_, ?_⟩
  · rw [hc _ (by omega), show i * 3 % 3 = 0 by omega]; rfl
  · rw [hc _ (by omega), show (i * 3 + 1) % 3 = 1 by omega]; rfl
  · rw [hc _ (by omega), show (i * 3 + 2) % 3 = 2 by omega]; rfl

set_option maxRecDepth 100000 in
set_option maxHeartbeats 3200000 in
theorem recsOf_any (a : Option Addr) (ps : List ByteArray) (c : Nat) (w : World) (hp : Rd w a (vsString ps)) (hl : ps.length = 60) (hs : ∀ s ∈ ps, s.size ≤ 1048576) :
    Calls Try.prog 71 #[.slice a ps.length c] w fun e w' => e = .returned (.slice (some ⟨w.heap.size, 0, none⟩) 60 60) ∧ RecRow w' w.heap.size ps 60 ∧ Below w.heap.size w w' := by
  obtain ⟨i2, hi2, hz0, hz1, hz2⟩ := info_parts infoRec
  have k60 : ∀ w, (Instr.makeSlice 96 (.int .i64 60) (.int .i64 60)).run Try.prog w = .ok (.slice (some ⟨w.heap.size, 0, none⟩) 60 60) (w.alloc (.cells (madeCells (Value.agg #[.int .i64 0, .int .i64 0, .string ⟨#[]⟩]).cells 180) 50)) := by
    intro w
    have := run_make (P := Try.prog) w 96 50 i2 _ Try.underlying96 hi2 hz0 .i64 .i64 60 60 (by decide) (by decide) (by rw [hz2]; decide) (by decide)
    rw [hz1, show Int.toNat 60 * 3 = 180 from rfl] at this
    exact this
  obtain ⟨Z, hZ⟩ : ∃ Z, Z = madeCells (Value.agg #[.int .i64 0, .int .i64 0, .string ⟨#[]⟩]).cells 180 := ⟨_, rfl⟩
  have hrow := made_recs w ps
  rw [← hZ] at k60 hrow
  obtain ⟨W, hW⟩ : ∃ W, W = w.alloc (.cells Z 50) := ⟨_, rfl⟩
  rw [← hW] at hrow
  have hbW : Below w.heap.size w W := by rw [hW]; exact (Below.refl _ _).alloc (Nat.le_refl _) _
  clear hZ hz0 hz1 hz2
  have HL := hide hl
  rw [hl]
  have HS := hide hs
  clear hs hl
  go_enter Try.func71, Try.ntmps71
  go_wp2_with fail
  rw [← hW]
  clear hW k60
  go_loopw [11] (fun i wr => ∃ k : Nat, k ≤ 60 ∧ i = .int .i64 k ∧ RecRow wr w.heap.size ps k ∧ Below w.heap.size w wr) (fun i _ => 60 - (intOf i).toNat)
  case atStart => exact ⟨0, by omega, rfl, hrow, hbW⟩
  case round =>
    obtain ⟨k, hk, rfl, hR, hB⟩ := hrel
    by_cases hlt : k < 60
    · obtain ⟨ba, oa, t, rfl, hck, HX⟩ := rdString_at (hp.below hB) (show k < ps.length by have := HL.out; omega)
      have ht : Hid (t.size ≤ 1048576) := HS.out t (List.mem_of_getElem? HX.out)
      have he : ps[k]?.getD ByteArray.empty = t := by rw [HX.out]; rfl
      clear hrow hbW
      by_cases hte : t = ByteArray.empty
      · have HR := hide (hR.skip (recC_none (by rw [he, hte]; exact recR_empty)))
        subst hte
        clear hp hR he
        go_wp2
        go_roundw
        case rel => exact ⟨k + 1, by omega, by go_num, HR.out, hB⟩
        case measure => simp [intOf]; omega
      · have hti := isEmpty_str hte
        obtain ⟨s, q, d, B, he2, hcall⟩ : ∃ (s q : Int) (d : ByteArray) (B : Bool), Hid (recC ps k = (s, q, d)) ∧ Hid (Calls Try.prog 29 #[.string t] wr fun e w' => e = .returned (.tuple #[.agg #[.int .i64 s, .int .i64 q, .string d], .bool B]) ∧ Below wr.heap.size wr w') := by
          cases hr : recR t with
          | none => exact ⟨0, 0, ByteArray.empty, false, recC_none (by rw [he]; exact hr), (implRecRead_any t wr ht.out).mono fun e w' h => ⟨h.2.1 hr, h.2.2⟩⟩
          | some r => obtain ⟨s, q, d⟩ := r; exact ⟨s, q, d, true, recC_some (by rw [he]; exact hr), (implRecRead_any t wr ht.out).mono fun e w' h => ⟨h.1 s q d hr, h.2.2⟩⟩
        clear hp hte he
        go_wp2_with fail
        refine hcall.out.mono ?_
        rintro e w1 ⟨rfl, hb1⟩
        have hR1 := hR.below hb1
        have hB1 := after hB hb1
        obtain ⟨⟨c0, c1, c2⟩, hf⟩ := And.intro (hR1.1 k hlt) hR1.2
        have f0 := hf (k * 3)
        have f1 := hf (k * 3 + 1)
        have f2 := hf (k * 3 + 2)
        have HR := hide (hR1.step hlt he2.out)
        clear hR hb1 hck hcall hf hR1 HX
        go_wp2
        go_roundw
        case rel => exact ⟨k + 1, by omega, by go_num, HR.out, ((hB1.setCell (by show _ ≤ _; simp) _).setCell (by show _ ≤ _; simp) _).setCell (by show _ ≤ _; simp) _⟩
        case measure => simp [intOf]; omega
    · obtain rfl : k = 60 := by omega
      clear hp hrow hbW
      go_wp2
      go_ret
      exact ⟨rfl, hR, hB⟩

end Go.Proofs.Ytelbannfbglgcaa

namespace Go.Proofs.Ytelbannfbglgcaa
open Go.RowKit

set_option maxHeartbeats 3200000 in
theorem chipCopy_any (a b : Option Addr) (ps : List ByteArray) (ws : List Int) (c d : Nat) (w : World) (hp : Rd w a (vsString ps)) (hw : Rd w b (vsInt ws)) (hl : ps.length = 60) (hm : ws.length = 10) :
    Calls Try.prog 74 #[.agg #[.slice a ps.length c, .slice b ws.length d]] w fun e w' => ∃ v, e = .returned v ∧ ChipOwn w' w.heap.size v ps ws ∧ Below w.heap.size w w' := by
  obtain ⟨b1, o1, rfl, -⟩ := rd_at (k := 0) hp (by simp; omega)
  obtain ⟨b2, o2, rfl, -⟩ := rd_at (k := 0) hw (by simp; omega)
  obtain ⟨A, hA⟩ : ∃ A, A = w.alloc (Obj.cells #[.slice (some ⟨b1, o1, none⟩) ps.length c, .slice (some ⟨b2, o2, none⟩) ws.length d] 27) := ⟨_, rfl⟩
  obtain ⟨W, hW⟩ : ∃ W, W = A.alloc (Obj.cells #[.slice none 0 0, .slice none 0 0] 27) := ⟨_, rfl⟩
  have hsA : A.heap.size = w.heap.size + 1 := by rw [hA]; simp
  have hbA : Below w.heap.size w A := by rw [hA]; exact (Below.refl _ _).alloc (Nat.le_refl _) _
  have hbAW : Below A.heap.size A W := by rw [hW]; exact (Below.refl _ _).alloc (Nat.le_refl _) _
  have hbW : Below w.heap.size w W := after hbA hbAW
  have x0 : W.cell? ⟨w.heap.size, 0, none⟩ = some (.slice (some ⟨b1, o1, none⟩) ps.length c) := by
    have h : A.cell? ⟨w.heap.size, 0, none⟩ = some (.slice (some ⟨b1, o1, none⟩) ps.length c) := by rw [hA]; simp
    exact (hbAW.cell (p := ⟨w.heap.size, 0, none⟩) (lt_of_cell h)).trans h
  have x1 : W.cell? ⟨w.heap.size, 1, none⟩ = some (.slice (some ⟨b2, o2, none⟩) ws.length d) := by
    have h : A.cell? ⟨w.heap.size, 1, none⟩ = some (.slice (some ⟨b2, o2, none⟩) ws.length d) := by rw [hA]; simp
    exact (hbAW.cell (p := ⟨w.heap.size, 1, none⟩) (lt_of_cell h)).trans h
  have c0 : W.cell? ⟨w.heap.size + 1, 0, none⟩ = some (.slice none 0 0) := by rw [hW, ← hsA]; simp
  have c1 : W.cell? ⟨w.heap.size + 1, 1, none⟩ = some (.slice none 0 0) := by rw [hW, ← hsA]; simp
  have f0 : W.frozen? ⟨w.heap.size + 1, 0, none⟩ = false := by rw [hW, ← hsA]; simp
  have f1 : W.frozen? ⟨w.heap.size + 1, 1, none⟩ = false := by rw [hW, ← hsA]; simp
  have hsW : w.heap.size + 1 < W.heap.size := lt_of_cell c0
  have hdr : Below W.heap.size W W.drew := after_drew (Below.refl _ _) 1
  have HP := hide ((hp.below hbW).below hdr)
  have HQ := hide ((hw.below hbW).below hdr)
  have HL := hide (And.intro hl hm)
  have hl0 : 0 < ps.length := by omega
  have hm0 : 0 < ws.length := by omega
  have HBW : Hid (Below w.heap.size w W.drew) := after hbW hdr
  have HC : Hid (∀ u, Below W.drew.heap.size W.drew u → u.cell? ⟨w.heap.size, 1, none⟩ = some (.slice (some ⟨b2, o2, none⟩) ws.length d) ∧ (u.cell? ⟨w.heap.size + 1, 0, none⟩ = some (.slice none 0 0) ∧ u.cell? ⟨w.heap.size + 1, 1, none⟩ = some (.slice none 0 0)) ∧ u.frozen? ⟨w.heap.size + 1, 0, none⟩ = false ∧ u.frozen? ⟨w.heap.size + 1, 1, none⟩ = false) := fun u hu =>
    ⟨(hu.cell (p := ⟨w.heap.size, 1, none⟩) (by show w.heap.size < W.heap.size; omega)).trans (by simpa using x1), ⟨(hu.cell (p := ⟨w.heap.size + 1, 0, none⟩) hsW).trans (by simpa using c0), (hu.cell (p := ⟨w.heap.size + 1, 1, none⟩) hsW).trans (by simpa using c1)⟩, (hu.frozen (p := ⟨w.heap.size + 1, 0, none⟩) hsW).trans (by simpa using f0), (hu.frozen (p := ⟨w.heap.size + 1, 1, none⟩) hsW).trans (by simpa using f1)⟩
  clear hp hw hbA hbAW hbW c0 c1 f0 f1 hl hm hdr hsA
  go_enter Try.func74, Try.ntmps74
  go_wp2_with fail
  rw [← hA]
  rw [← hW]
  clear hA hW
  go_region_with (first
    | (go_at_call 104; refine (cloneString_any b1 o1 c ps _ HP.out (by have := HL.out.1; omega)).mono ?_; rintro e w1 ⟨v1, rfl, ho1, hb1⟩; obtain ⟨g1, k1, hv1, hg1, hg1'⟩ := owns_form ho1 hl0; subst hv1; have HO1 := hide ho1; have HQ1 := hide (HQ.out.below hb1); have HBW1 := hide hb1; have y1 := (HC.out w1 hb1).1; clear ho1 hb1)
    | (go_at_call 105; refine (cloneInt_any b2 o2 d ws _ HQ1.out (by have := HL.out.2; omega)).mono ?_; rintro e w2 ⟨v2, rfl, ho2, hb2⟩; obtain ⟨g2, k2, hv2, hg2, hg2'⟩ := owns_form ho2 hm0; subst hv2; have HO2 := hide ho2; have HO1' := hide (owns_below HO1.out hb2); have HBW2 : Hid (Below W.drew.heap.size W.drew w2) := after HBW1.out hb2; obtain ⟨-, ⟨c0, c1⟩, f0, f1⟩ := HC.out w2 HBW2.out; clear ho2 hb2))
  all_goals go_wp2
  all_goals
    have HW2 : Hid (Below w.heap.size w w2) := HBW.out.trans (HBW2.out.mono HBW.out.size)
    refine bodyPost_ret (v := .agg #[.slice (some ⟨g1, 0, none⟩) ps.length k1, .slice (some ⟨g2, 0, none⟩) ws.length k2]) (by simp [results, Try.results74, go_sem, c0, c1]) rfl ⟨_, rfl, ⟨_, _, rfl, ?_, ?_, ?_⟩, (HW2.out.setCell (by show _ ≤ _; simp) _).setCell (by show _ ≤ _; simp) _⟩
    · exact owns_mono (ownsRow_setCell_below (ownsRow_setCell_below HO1'.out (show w.heap.size + 1 < W.drew.heap.size from hsW) _) (show w.heap.size + 1 < W.drew.heap.size from hsW) _) (show w.heap.size ≤ W.drew.heap.size from by show _ ≤ W.heap.size; omega)
    · exact owns_mono (ownsRow_setCell_below (ownsRow_setCell_below HO2.out (show w.heap.size + 1 < w1.heap.size by have := HBW1.out.size; simp at this; omega) _) (show w.heap.size + 1 < w1.heap.size by have := HBW1.out.size; simp at this; omega) _) (show w.heap.size ≤ w1.heap.size by have := HBW1.out.size; simp at this; omega)
    · intro k hk
      simp [Value.ownBlock] at hk ⊢
      omega

end Go.Proofs.Ytelbannfbglgcaa

namespace Go.Proofs.Ytelbannfbglgcaa
open Go.RowKit

set_option maxHeartbeats 1600000 in
theorem implMount_bad (a b : Option Addr) (ps : List ByteArray) (ws : List Int) (c d : Nat) (w : World) (hp : Rd w a (vsString ps)) (hw : Rd w b (vsInt ws)) (hl : ps.length ≤ 1048576) (hm : ws.length ≤ 1048576) (hs : ∀ s ∈ ps, s.size ≤ 1048576) (hok : ¬ chipOkP ps ws) :
    Calls Try.prog 27 #[.agg #[.slice a ps.length c, .slice b ws.length d]] w fun e w' => ∃ v, e = .returned v ∧ FtlOwn w' w.heap.size v [] [] [] 0 ∧ Below w.heap.size w w' := by
  obtain ⟨W, hW⟩ : ∃ W, W = (w.alloc (Obj.cells #[.slice a ps.length c, .slice b ws.length d] 27)).alloc (Obj.cells #[.slice none 0 0, .slice none 0 0, .slice none 0 0, .int .i64 0] 47) := ⟨_, rfl⟩
  have hbW : Below w.heap.size w W := by subst hW; exact ((Below.refl _ _).alloc (Nat.le_refl _) _).alloc (by simp) _
  have cW : W.cell? ⟨w.heap.size + 1, 0, none⟩ = some (.slice none 0 0) ∧ W.cell? ⟨w.heap.size + 1, 1, none⟩ = some (.slice none 0 0) ∧ W.cell? ⟨w.heap.size + 1, 2, none⟩ = some (.slice none 0 0) ∧ W.cell? ⟨w.heap.size + 1, 3, none⟩ = some (.int .i64 0) ∧ (∀ j, W.frozen? ⟨w.heap.size + 1, j, none⟩ = false) ∧ w.heap.size + 1 < W.heap.size := by
    subst hW; refine ⟨?_, ?_, ?_, ?_, fun j => ?_, ?_⟩ <;> simp [go_sem]
  obtain ⟨x0, x1, x2, x3, xf, hsz⟩ := cW
  have hB := chipOkB_false hok
  go_enter Try.func27, Try.ntmps27
  go_wp2_with fail
  rw [← hW]
  clear hW
  refine (implChipOk_any a b ps ws c d _ (hp.below hbW) (hw.below hbW) hl hm hs).mono ?_
  rw [hB]
  rintro e w1 ⟨rfl, hb1⟩
  have k0 := (hb1.cell (p := ⟨w.heap.size + 1, 0, none⟩) hsz).trans x0
  have k1 := (hb1.cell (p := ⟨w.heap.size + 1, 1, none⟩) hsz).trans x1
  have k2 := (hb1.cell (p := ⟨w.heap.size + 1, 2, none⟩) hsz).trans x2
  have k3 := (hb1.cell (p := ⟨w.heap.size + 1, 3, none⟩) hsz).trans x3
  have f0 := (hb1.frozen (p := ⟨w.heap.size + 1, 0, none⟩) hsz).trans (xf 0)
  have f1 := (hb1.frozen (p := ⟨w.heap.size + 1, 1, none⟩) hsz).trans (xf 1)
  have f2 := (hb1.frozen (p := ⟨w.heap.size + 1, 2, none⟩) hsz).trans (xf 2)
  have f3 := (hb1.frozen (p := ⟨w.heap.size + 1, 3, none⟩) hsz).trans (xf 3)
  have hbw1 := after hbW hb1
  clear hb1 hbW x0 x1 x2 x3 xf hp hw hs hok hB
  go_wp2
  exact bodyPost_ret (v := .agg #[.slice none 0 0, .slice none 0 0, .slice none 0 0, .int .i64 0]) (by simp [results, Try.results27, go_sem, k0, k1, k2, k3]) rfl ⟨_, rfl, ftlOwn_zero _ _, (((hbw1.setCell (by show _ ≤ _; simp) _).setCell (by show _ ≤ _; simp) _).setCell (by show _ ≤ _; simp) _).setCell (by show _ ≤ _; simp) _⟩

/-- What holds between two pages: nothing but the map's row has turned, and that is what Mount tells of the pages so far. -/
def MI (V : World) (gm : Nat) (ps : List ByteArray) (k : Nat) (wr : World) : Prop :=
  OnlyIn V wr [some gm] ∧ wr.heap[gm]? = some (.cells (vsInt (mUpto ps k).2.1).toArray 3 (0, 0))

theorem RecRow.only {u u' : World} {L : List (Option Nat)} {g : Nat} {ps : List ByteArray} {k : Nat} (h : RecRow u g ps k) (hO : OnlyIn u u' L) (hn : some g ∉ L) : RecRow u' g ps k := by
  have hb := hO.block g h.lt hn
  refine ⟨fun i hi => ?_, fun j => ?_⟩
  · obtain ⟨h0, h1, h2⟩ := h.1 i hi
    exact ⟨only_cell hO hn h0, only_cell hO hn h1, only_cell hO hn h2⟩
  · have := h.2 j
    simp only [World.frozen?] at this ⊢
    rw [hb]; exact this

theorem row_cell {w : World} {g j : Nat} {C : Array Value} {t : TypeId} {v : Value} (h : w.heap[g]? = some (.cells C t (0, 0))) (hv : C[j]? = some v) : w.cell? ⟨g, j, none⟩ = some v := by
  simp [World.cell?, h, hv]
theorem rowInt {w : World} {g k : Nat} {xs : List Int} {x : Int} (h : w.heap[g]? = some (.cells (vsInt xs).toArray 3 (0, 0))) (hx : xs[k]? = some x) : w.cell? ⟨g, k, none⟩ = some (.int .i64 x) := by
  refine row_cell h ?_
  rw [List.getElem?_toArray, List.getElem?_map, hx]; rfl
theorem rowFrozen {w : World} {g k : Nat} {xs : List Int} (h : w.heap[g]? = some (.cells (vsInt xs).toArray 3 (0, 0))) : w.frozen? ⟨g, k, none⟩ = false := frozen_of_row w g k _ _ h
theorem rowSet {w : World} {g k : Nat} {xs : List Int} {y : Int} (h : w.heap[g]? = some (.cells (vsInt xs).toArray 3 (0, 0))) : (w.setCell ⟨g, k, none⟩ (.int .i64 y)).heap[g]? = some (.cells (vsInt (xs.set k y)).toArray 3 (0, 0)) := by
  rw [heap_setCell_same w g k _ _ _ h]
  congr 2
  simp [List.map_set]
theorem rowOwns {w : World} {g base : Nat} {xs : List Int} {n : Nat} (h : w.heap[g]? = some (.cells (vsInt xs).toArray 3 (0, 0))) (hn : xs.length = n) (hb : base ≤ g) (hm : n ≤ 1048576) : w.ownsRow base 3 1 (.slice (some ⟨g, 0, none⟩) n n) n (vsInt xs) := by
  subst hn
  refine ⟨by simp, .inr ⟨g, _, _, rfl, hb, h, Nat.le_refl _, by unfold maxLen; omega, by simp, ?_⟩⟩
  rw [Nat.mul_one]
  exact List.take_of_length_le (by simp)
theorem rowRd {w : World} {g : Nat} {xs : List Int} (h : w.heap[g]? = some (.cells (vsInt xs).toArray 3 (0, 0))) : Rd w (some ⟨g, 0, none⟩) (vsInt xs) := by
  refine .inr ⟨g, 0, rfl, fun i v hv => ?_⟩
  rw [Nat.zero_add]
  exact row_cell h (by rw [List.getElem?_toArray]; exact hv)

end Go.Proofs.Ytelbannfbglgcaa
