/-
  Contract of the program's recsOf: the record of each page, in a row of the call's own.
-/
import Derived.Test.YtdicjbabnknjhaaFtlMath
import Derived.Test.YtdicjbabnknjhaaImplRead3
import Derived.Test.YtdicjbabnknjhaaSpecBurn
import Derived.Laws.MakeOwn
namespace Go.Proofs.Ytdicjbabnknjhaa
open Go.RowKit

theorem infoRec : (Try.prog.info? 84).map (fun i => (i.zero, i.size, i.bytes)) = some (some (Value.agg #[.int .i64 0, .int .i64 0, .string ⟨#[]⟩]), 3, 32) := by kernel_rfl

/-- What stands at place i when the first k pages were read. -/
def recK (ps : List ByteArray) (k i : Nat) : Int × Int × ByteArray := if i < k then recC ps i else (0, 0, ByteArray.empty)
/-- The row of records at block g: k of them were read. -/
def RecRow (w : World) (g : Nat) (ps : List ByteArray) (k : Nat) : Prop :=
  (∀ i, i < 60 → w.cell? ⟨g, i * 3, none⟩ = some (.int .i64 (recK ps k i).1) ∧ w.cell? ⟨g, i * 3 + 1, none⟩ = some (.int .i64 (recK ps k i).2.1) ∧ w.cell? ⟨g, i * 3 + 2, none⟩ = some (.string (recK ps k i).2.2)) ∧ ∀ j, w.frozen? ⟨g, j, none⟩ = false
theorem RecRow.lt {w : World} {g : Nat} {ps : List ByteArray} {k : Nat} (h : RecRow w g ps k) : g < w.heap.size := lt_of_cell (h.1 0 (by decide)).1
theorem RecRow.below {w w' : World} {g : Nat} {ps : List ByteArray} {k : Nat} (h : RecRow w g ps k) (hb : Below w.heap.size w w') : RecRow w' g ps k := by
  have hl := h.lt
  refine ⟨fun i hi => ?_, fun j => (hb.frozen (p := ⟨g, j, none⟩) hl).trans (h.2 j)⟩
  obtain ⟨h0, h1, h2⟩ := h.1 i hi
  exact ⟨(hb.cell (p := ⟨g, i * 3, none⟩) hl).trans h0, (hb.cell (p := ⟨g, i * 3 + 1, none⟩) hl).trans h1, (hb.cell (p := ⟨g, i * 3 + 2, none⟩) hl).trans h2⟩
theorem RecRow.other {w : World} {g p j : Nat} {v : Value} {ps : List ByteArray} {k : Nat} (h : RecRow w g ps k) (hne : p ≠ g) : RecRow (w.setCell ⟨p, j, none⟩ v) g ps k := by
  refine ⟨fun i hi => ?_, fun j => by simpa using h.2 j⟩
  obtain ⟨h0, h1, h2⟩ := h.1 i hi
  exact ⟨cell_aside h0 hne, cell_aside h1 hne, cell_aside h2 hne⟩
theorem set_at {w : World} {g j i : Nat} {v u : Value} (h : w.cell? ⟨g, i, none⟩ = some v) (hne : j ≠ i) : (w.setCell ⟨g, j, none⟩ u).cell? ⟨g, i, none⟩ = some v := by
  rw [World.cell?_setCell_other _ _ _ _ (by intro e; injection e with e1 e2; exact hne e2)]
  exact h
theorem RecRow.step {w : World} {g : Nat} {ps : List ByteArray} {k : Nat} {s q : Int} {d : ByteArray} (h : RecRow w g ps k) (hk : k < 60) (he : recC ps k = (s, q, d)) :
    RecRow (((w.setCell ⟨g, k * 3, none⟩ (.int .i64 s)).setCell ⟨g, k * 3 + 1, none⟩ (.int .i64 q)).setCell ⟨g, k * 3 + 2, none⟩ (.string d)) g ps (k + 1) := by
  refine ⟨fun i hi => ?_, fun j => by simpa using h.2 j⟩
  by_cases hik : i = k
  · subst hik
    obtain ⟨h0, h1, h2⟩ := h.1 i hi
    have e : recK ps (i + 1) i = (s, q, d) := by simp [recK, he]
    rw [e]
    refine ⟨?_, ?_, ?_⟩
    · exact set_at (set_at (World.cell?_setCell_same _ _ _ h0) (by omega)) (by omega)
    · exact set_at (World.cell?_setCell_same _ _ _ (set_at h1 (by omega))) (by omega)
    · exact World.cell?_setCell_same _ _ _ (set_at (set_at h2 (by omega)) (by omega))
  · obtain ⟨h0, h1, h2⟩ := h.1 i hi
    have e : recK ps (k + 1) i = recK ps k i := by
      unfold recK
      by_cases h' : i < k
      · rw [if_pos h', if_pos (by omega)]
      · rw [if_neg h', if_neg (by omega)]
    rw [e]
    refine ⟨?_, ?_, ?_⟩
    · exact set_at (set_at (set_at h0 (by omega)) (by omega)) (by omega)
    · exact set_at (set_at (set_at h1 (by omega)) (by omega)) (by omega)
    · exact set_at (set_at (set_at h2 (by omega)) (by omega)) (by omega)
theorem RecRow.skip {w : World} {g : Nat} {ps : List ByteArray} {k : Nat} (h : RecRow w g ps k) (he : recC ps k = (0, 0, ByteArray.empty)) : RecRow w g ps (k + 1) := by
  refine ⟨fun i hi => ?_, h.2⟩
  have e : recK ps (k + 1) i = recK ps k i := by
    unfold recK
    by_cases h' : i < k
    · rw [if_pos h', if_pos (by omega)]
    · rw [if_neg h']
      by_cases hik : i = k
      · rw [if_pos (by omega), hik, he]
      · rw [if_neg (by omega)]
  rw [e]; exact h.1 i hi

theorem made_recs (w : World) (ps : List ByteArray) : RecRow (w.alloc (.cells (madeCells (Value.agg #[.int .i64 0, .int .i64 0, .string ⟨#[]⟩]).cells 180) 84)) w.heap.size ps 0 := by
  have hc : ∀ j, j < 180 → (w.alloc (.cells (madeCells (Value.agg #[.int .i64 0, .int .i64 0, .string ⟨#[]⟩]).cells 180) 84)).cell? ⟨w.heap.size, j, none⟩ = some ((#[Value.int .i64 0, .int .i64 0, .string ⟨#[]⟩] : Array Value)[j % 3]?.getD undef) := by
    intro j hj
    have : (madeCells (Value.agg #[.int .i64 0, .int .i64 0, .string ⟨#[]⟩]).cells 180)[j]? = some ((#[Value.int .i64 0, .int .i64 0, .string ⟨#[]⟩] : Array Value)[j % 3]?.getD undef) := by
      have hm : j % 3 < 3 := Nat.mod_lt _ (by decide)
      simp [madeCells, Value.cells, hj, hm]
    rw [World.cell?_alloc_new]; exact this
  refine ⟨fun i hi => ?_, fun j => by simp⟩
  have e : recK ps 0 i = (0, 0, ByteArray.empty) := by simp [recK]
  rw [e]
  refine ⟨?_, ?_, ?_⟩
  · rw [hc _ (by omega), show i * 3 % 3 = 0 by omega]; rfl
  · rw [hc _ (by omega), show (i * 3 + 1) % 3 = 1 by omega]; rfl
  · rw [hc _ (by omega), show (i * 3 + 2) % 3 = 2 by omega]; rfl

set_option maxRecDepth 100000 in
set_option maxHeartbeats 3200000 in
theorem recsOf_any (a : Option Addr) (ps : List ByteArray) (c : Nat) (w : World) (hp : Rd w a (vsString ps)) (hl : ps.length = 60) (hs : ∀ s ∈ ps, s.size ≤ 1048576) :
    Calls Try.prog 72 #[.slice a ps.length c] w fun e w' => e = .returned (.slice (some ⟨w.heap.size, 0, none⟩) 60 60) ∧ RecRow w' w.heap.size ps 60 ∧ Below w.heap.size w w' := by
  obtain ⟨i2, hi2, hz0, hz1, hz2⟩ := info_parts infoRec
  have k60 : ∀ w, (Instr.makeSlice 94 (.int .i64 60) (.int .i64 60)).run Try.prog w = .ok (.slice (some ⟨w.heap.size, 0, none⟩) 60 60) (w.alloc (.cells (madeCells (Value.agg #[.int .i64 0, .int .i64 0, .string ⟨#[]⟩]).cells 180) 84)) := by
    intro w
    have := run_make (P := Try.prog) w 94 84 i2 _ Try.underlying94 hi2 hz0 .i64 .i64 60 60 (by decide) (by decide) (by rw [hz2]; decide) (by decide)
    rw [hz1, show Int.toNat 60 * 3 = 180 from rfl] at this
    exact this
  obtain ⟨Z, hZ⟩ : ∃ Z, Z = madeCells (Value.agg #[.int .i64 0, .int .i64 0, .string ⟨#[]⟩]).cells 180 := ⟨_, rfl⟩
  have hrow := made_recs w ps
  rw [← hZ] at k60 hrow
  obtain ⟨W, hW⟩ : ∃ W, W = w.alloc (.cells Z 84) := ⟨_, rfl⟩
  rw [← hW] at hrow
  have hbW : Below w.heap.size w W := by rw [hW]; exact (Below.refl _ _).alloc (Nat.le_refl _) _
  clear hZ hz0 hz1 hz2
  have HL := hide hl
  rw [hl]
  have HS := hide hs
  clear hs hl
  go_enter Try.func72, Try.ntmps72
  go_wp2_with fail
  rw [← hW]
  clear hW k60
  go_loopw [11] (fun i wr => ∃ k : Nat, k ≤ 60 ∧ i = .int .i64 k ∧ RecRow wr w.heap.size ps k ∧ Below w.heap.size w wr) (fun i _ => 60 - (intOf i).toNat)
  case atStart => exact ⟨0, by omega, rfl, hrow, hbW⟩
  case round =>
    obtain ⟨k, hk, rfl, hR, hB⟩ := hrel
    by_cases hlt : k < 60
    · obtain ⟨ba, oa, t, rfl, hck, HX⟩ := rdString_at (hp.below hB) (show k < ps.length by have := HL.out; omega)
      have ht : Hid (t.size ≤ 1048576) := HS.out t (List.mem_of_getElem? HX.out)
      have he : ps[k]?.getD ByteArray.empty = t := by rw [HX.out]; rfl
      clear hrow hbW
      by_cases hte : t = ByteArray.empty
      · have HR := hide (hR.skip (recC_none (by rw [he, hte]; exact recR_empty)))
        subst hte
        clear hp hR he
        go_wp2
        go_roundw
        case rel => exact ⟨k + 1, by omega, by go_num, HR.out, hB⟩
        case measure => simp [intOf]; omega
      · have hti := isEmpty_str hte
        obtain ⟨s, q, d, B, he2, hcall⟩ : ∃ (s q : Int) (d : ByteArray) (B : Bool), Hid (recC ps k = (s, q, d)) ∧ Hid (Calls Try.prog 65 #[.string t] wr fun e w' => e = .returned (.tuple #[.agg #[.int .i64 s, .int .i64 q, .string d], .bool B]) ∧ Below wr.heap.size wr w') := by
          cases hr : recR t with
          | none => exact ⟨0, 0, ByteArray.empty, false, recC_none (by rw [he]; exact hr), (implRecRead_any t wr ht.out).mono fun e w' h => ⟨h.2.1 hr, h.2.2⟩⟩
          | some r => obtain ⟨s, q, d⟩ := r; exact ⟨s, q, d, true, recC_some (by rw [he]; exact hr), (implRecRead_any t wr ht.out).mono fun e w' h => ⟨h.1 s q d hr, h.2.2⟩⟩
        clear hp hte he
        go_wp2_with fail
        refine hcall.out.mono ?_
        rintro e w1 ⟨rfl, hb1⟩
        have hR1 := hR.below hb1
        have hB1 := after hB hb1
        obtain ⟨⟨c0, c1, c2⟩, hf⟩ := And.intro (hR1.1 k hlt) hR1.2
        have f0 := hf (k * 3)
        have f1 := hf (k * 3 + 1)
        have f2 := hf (k * 3 + 2)
        have HR := hide (hR1.step hlt he2.out)
        clear hR hb1 hck hcall hf hR1 HX
        go_wp2
        go_roundw
        case rel => exact ⟨k + 1, by omega, by go_num, HR.out, ((hB1.setCell (by show _ ≤ _; simp) _).setCell (by show _ ≤ _; simp) _).setCell (by show _ ≤ _; simp) _⟩
        case measure => simp [intOf]; omega
    · obtain rfl : k = 60 := by omega
      clear hp hrow hbW
      go_wp2
      go_ret
      exact ⟨rfl, hR, hB⟩

end Go.Proofs.Ytdicjbabnknjhaa
