/-
  Contract of the program's recsOf: the record of each page, in a row of the call's own.
  Contracts of slices.Clone at []string and []int: a row that is not empty is copied into a row of the call's own.
  Contract of the program's chipCopy: a chip that is right, in rows of the call's own.
  Contracts of what the program takes of the library over []int and []string: slices.Equal, Index, Contains; cmp.Compare; and of its own allClear, placeIn.
-/
import Derived.Test.YtghlnagainodaaaK8
import Derived.Test.YtghlnagainodaaaK9
import Derived.Test.YtghlnagainodaaaK2
import Derived.Laws.MakeOwn
import Derived.Lib.SliceRun
import Derived.Test.YtghlnagainodaaaK1
namespace Go.Proofs.Ytghlnagainodaaa
open Go.RowKit

theorem infoRec : (Try.prog.info? 58).map (fun i => (i.zero, i.size, i.bytes)) = some (some (Value.agg #[.int .i64 0, .int .i64 0, .string ⟨#[]⟩]), 3, 32) := by kernel_rfl

/-- What stands at place i when the first k pages were read. -/
def recK (ps : List ByteArray) (k i : Nat) : Int × Int × ByteArray := if i < k then recC ps i else (0, 0, ByteArray.empty)
/-- The row of records at block g: k of them were read. -/
def RecRow (w : World) (g : Nat) (ps : List ByteArray) (k : Nat) : Prop :=
  (∀ i, i < 60 → w.cell? ⟨g, i * 3, none⟩ = some (.int .i64 (recK ps k i).1) ∧ w.cell? ⟨g, i * 3 + 1, none⟩ = some (.int .i64 (recK ps k i).2.1) ∧ w.cell? ⟨g, i * 3 + 2, none⟩ = some (.string (recK ps k i).2.2)) ∧ ∀ j, w.frozen? ⟨g, j, none⟩ = false
theorem RecRow.lt {w : World} {g : Nat} {ps : List ByteArray} {k : Nat} (h : RecRow w g ps k) : g < w.heap.size := lt_of_cell (h.1 0 (by decide)).1
theorem RecRow.below {w w' : World} {g : Nat} {ps : List ByteArray} {k : Nat} (h : RecRow w g ps k) (hb : Below w.heap.size w w') : RecRow w' g ps k := by
  have hl := h.lt
  refine ⟨fun i hi => ?_, fun j => (hb.frozen (p := ⟨g, j, none⟩) hl).trans (h.2 j)⟩
  obtain ⟨h0, h1, h2⟩ := h.1 i hi
  exact ⟨(hb.cell (p := ⟨g, i * 3, none⟩) hl).trans h0, (hb.cell (p := ⟨g, i * 3 + 1, none⟩) hl).trans h1, (hb.cell (p := ⟨g, i * 3 + 2, none⟩) hl).trans h2⟩
theorem RecRow.other {w : World} {g p j : Nat} {v : Value} {ps : List ByteArray} {k : Nat} (h : RecRow w g ps k) (hne : p ≠ g) : RecRow (w.setCell ⟨p, j, none⟩ v) g ps k := by
  refine ⟨fun i hi => ?_, fun j => by simpa using h.2 j⟩
  obtain ⟨h0, h1, h2⟩ := h.1 i hi
  exact ⟨cell_aside h0 hne, cell_aside h1 hne, cell_aside h2 hne⟩
theorem set_at {w : World} {g j i : Nat} {v u : Value} (h : w.cell? ⟨g, i, none⟩ = some v) (hne : j ≠ i) : (w.setCell ⟨g, j, none⟩ u).cell? ⟨g, i, none⟩ = some v := by
  rw [World.cell?_setCell_other _ _ _ _ (by intro e; injection e with e1 e2; exact hne e2)]
  exact h
theorem RecRow.step {w : World} {g : Nat} {ps : List ByteArray} {k : Nat} {s q : Int} {d : ByteArray} (h : RecRow w g ps k) (hk : k < 60) (he : recC ps k = (s, q, d)) :
    RecRow (((w.setCell ⟨g, k * 3, none⟩ (.int .i64 s)).setCell ⟨g, k * 3 + 1, none⟩ (.int .i64 q)).setCell ⟨g, k * 3 + 2, none⟩ (.string d)) g ps (k + 1) := by
  refine ⟨fun i hi => ?_, fun j => by simpa using h.2 j⟩
  by_cases hik : i = k
  · subst hik
    obtain ⟨h0, h1, h2⟩ := h.1 i hi
    have e : recK ps (i + 1) i = (s, q, d) := by simp [recK, he]
    rw [e]
    refine ⟨?_, ?_, ?_⟩
    · exact set_at (set_at (World.cell?_setCell_same _ _ _ h0) (by omega)) (by omega)
    · exact set_at (World.cell?_setCell_same _ _ _ (set_at h1 (by omega))) (by omega)
    · exact World.cell?_setCell_same _ _ _ (set_at (set_at h2 (by omega)) (by omega))
  · obtain ⟨h0, h1, h2⟩ := h.1 i hi
    have e : recK ps (k + 1) i = recK ps k i := by
      unfold recK
      by_cases h' : i < k
      · rw [if_pos h', if_pos (by omega)]
      · rw [if_neg h', if_neg (by omega)]
    rw [e]
    refine ⟨?_, ?_, ?_⟩
    · exact set_at (set_at (set_at h0 (by omega)) (by omega)) (by omega)
    · exact set_at (set_at (set_at h1 (by omega)) (by omega)) (by omega)
    · exact set_at (set_at (set_at h2 (by omega)) (by omega)) (by omega)
theorem RecRow.skip {w : World} {g : Nat} {ps : List ByteArray} {k : Nat} (h : RecRow w g ps k) (he : recC ps k = (0, 0, ByteArray.empty)) : RecRow w g ps (k + 1) := by
  refine ⟨fun i hi => ?_, h.2⟩
  have e : recK ps (k + 1) i = recK ps k i := by
    unfold recK
    by_cases h' : i < k
    · rw [if_pos h', if_pos (by omega)]
    · rw [if_neg h']
      by_cases hik : i = k
      · rw [if_pos (by omega), hik, he]
      · rw [if_neg (by omega)]
  rw [e]; exact h.1 i hi

theorem made_recs (w : World) (ps : List ByteArray) : RecRow (w.alloc (.cells (madeCells (Value.agg #[.int .i64 0, .int .i64 0, .string ⟨#[]⟩]).cells 180) 58)) w.heap.size ps 0 := by
  have hc : ∀ j, j < 180 → (w.alloc (.cells (madeCells (Value.agg #[.int .i64 0, .int .i64 0, .string ⟨#[]⟩]).cells 180) 58)).cell? ⟨w.heap.size, j, none⟩ = some ((#[Value.int .i64 0, .int .i64 0, .string ⟨#[]⟩] : Array Value)[j % 3]?.getD undef) := by
    intro j hj
    have : (madeCells (Value.agg #[.int .i64 0, .int .i64 0, .string ⟨#[]⟩]).cells 180)[j]? = some ((#[Value.int .i64 0, .int .i64 0, .string ⟨#[]⟩] : Array Value)[j % 3]?.getD undef) := by
      have hm : j % 3 < 3 := Nat.mod_lt _ (by decide)
      simp [madeCells, Value.cells, hj, hm]
    rw [World.cell?_alloc_new]; exact this
  refine ⟨fun i hi => ?_, fun j => by simp⟩
  have e : recK ps 0 i = (0, 0, ByteArray.empty) := by simp [recK]
  rw [e]
  refine ⟨?_, ?_, ?_⟩
  · rw [hc _ (by omega), show i * 3 % 3 = 0 by omega]; rfl
  · rw [hc _ (by omega), show (i * 3 + 1) % 3 = 1 by omega]; rfl
  · rw [hc _ (by omega), show (i * 3 + 2) % 3 = 2 by omega]; rfl

set_option maxRecDepth 100000 in
set_option maxHeartbeats 3200000 in
theorem recsOf_any (a : Option Addr) (ps : List ByteArray) (c : Nat) (w : World) (hp : Rd w a (vsString ps)) (hl : ps.length = 60) (hs : ∀ s ∈ ps, s.size ≤ 1048576) :
    Calls Try.prog 52 #[.slice a ps.length c] w fun e w' => e = .returned (.slice (some ⟨w.heap.size, 0, none⟩) 60 60) ∧ RecRow w' w.heap.size ps 60 ∧ Below w.heap.size w w' := by
  obtain ⟨i2, hi2, hz0, hz1, hz2⟩ := info_parts infoRec
  have k60 : ∀ w, (Instr.makeSlice 71 (.int .i64 60) (.int .i64 60)).run Try.prog w = .ok (.slice (some ⟨w.heap.size, 0, none⟩) 60 60) (w.alloc (.cells (madeCells (Value.agg #[.int .i64 0, .int .i64 0, .string ⟨#[]⟩]).cells 180) 58)) := by
    intro w
    have := run_make (P := Try.prog) w 71 58 i2 _ Try.underlying71 hi2 hz0 .i64 .i64 60 60 (by decide) (by decide) (by rw [hz2]; decide) (by decide)
    rw [hz1, show Int.toNat 60 * 3 = 180 from rfl] at this
    exact this
  obtain ⟨Z, hZ⟩ : ∃ Z, Z = madeCells (Value.agg #[.int .i64 0, .int .i64 0, .string ⟨#[]⟩]).cells 180 := ⟨_, rfl⟩
  have hrow := made_recs w ps
  rw [← hZ] at k60 hrow
  obtain ⟨W, hW⟩ : ∃ W, W = w.alloc (.cells Z 58) := ⟨_, rfl⟩
  rw [← hW] at hrow
  have hbW : Below w.heap.size w W := by rw [hW]; exact (Below.refl _ _).alloc (Nat.le_refl _) _
  clear hZ hz0 hz1 hz2
  have HL := hide hl
  rw [hl]
  have HS := hide hs
  clear hs hl
  go_enter Try.func52, Try.ntmps52
  go_wp2_with fail
  rw [← hW]
  clear hW k60
  go_loopw [11] (fun i wr => ∃ k : Nat, k ≤ 60 ∧ i = .int .i64 k ∧ RecRow wr w.heap.size ps k ∧ Below w.heap.size w wr) (fun i _ => 60 - (intOf i).toNat)
  case atStart => exact ⟨0, by omega, rfl, hrow, hbW⟩
  case round =>
    obtain ⟨k, hk, rfl, hR, hB⟩ := hrel
    by_cases hlt : k < 60
    · obtain ⟨ba, oa, t, rfl, hck, HX⟩ := rdString_at (hp.below hB) (show k < ps.length by have := HL.out; omega)
      have ht : Hid (t.size ≤ 1048576) := HS.out t (List.mem_of_getElem? HX.out)
      have he : ps[k]?.getD ByteArray.empty = t := by rw [HX.out]; rfl
      clear hrow hbW
      by_cases hte : t = ByteArray.empty
      · have HR := hide (hR.skip (recC_none (by rw [he, hte]; exact recR_empty)))
        subst hte
        clear hp hR he
        go_wp2
        go_roundw
        case rel => exact ⟨k + 1, by omega, by go_num, HR.out, hB⟩
        case measure => simp [intOf]; omega
      · have hti := isEmpty_str hte
        obtain ⟨s, q, d, B, he2, hcall⟩ : ∃ (s q : Int) (d : ByteArray) (B : Bool), Hid (recC ps k = (s, q, d)) ∧ Hid (Calls Try.prog 47 #[.string t] wr fun e w' => e = .returned (.tuple #[.agg #[.int .i64 s, .int .i64 q, .string d], .bool B]) ∧ Below wr.heap.size wr w') := by
          cases hr : recR t with
          | none => exact ⟨0, 0, ByteArray.empty, false, recC_none (by rw [he]; exact hr), (implRecRead_any t wr ht.out).mono fun e w' h => ⟨h.2.1 hr, h.2.2⟩⟩
          | some r => obtain ⟨s, q, d⟩ := r; exact ⟨s, q, d, true, recC_some (by rw [he]; exact hr), (implRecRead_any t wr ht.out).mono fun e w' h => ⟨h.1 s q d hr, h.2.2⟩⟩
        clear hp hte he
        go_wp2_with fail
        refine hcall.out.mono ?_
        rintro e w1 ⟨rfl, hb1⟩
        have hR1 := hR.below hb1
        have hB1 := after hB hb1
        obtain ⟨⟨c0, c1, c2⟩, hf⟩ := And.intro (hR1.1 k hlt) hR1.2
        have f0 := hf (k * 3)
        have f1 := hf (k * 3 + 1)
        have f2 := hf (k * 3 + 2)
        have HR := hide (hR1.step hlt he2.out)
        clear hR hb1 hck hcall hf hR1 HX
        go_wp2
        go_roundw
        case rel => exact ⟨k + 1, by omega, by go_num, HR.out, ((hB1.setCell (by show _ ≤ _; simp) _).setCell (by show _ ≤ _; simp) _).setCell (by show _ ≤ _; simp) _⟩
        case measure => simp [intOf]; omega
    · obtain rfl : k = 60 := by omega
      clear hp hrow hbW
      go_wp2
      go_ret
      exact ⟨rfl, hR, hB⟩

end Go.Proofs.Ytghlnagainodaaa

namespace Go.Proofs.Ytghlnagainodaaa
open Go.RowKit

theorem rd_cells {w : World} {b o : Nat} {vs : List Value} (h : Rd w (some ⟨b, o, none⟩) vs) (j : Nat) (u : Value) (hu : vs[j]? = some u) : w.cell? ((⟨b, o, none⟩ : Addr).add j) = some u := by
  rcases h with h | ⟨b', o', he, hc⟩
  · rw [h] at hu; simp at hu
  · simp at he; obtain ⟨rfl, rfl⟩ := he; rw [add_at]; exact hc j u hu

set_option maxHeartbeats 1600000 in
theorem cloneString_any (b o c : Nat) (ps : List ByteArray) (w : World) (hp : Rd w (some ⟨b, o, none⟩) (vsString ps)) (hl : ps.length ≤ 1048576) :
    Calls Try.prog 62 #[.slice (some ⟨b, o, none⟩) ps.length c] w fun e w' => ∃ v, e = .returned v ∧ w'.ownsRow w.heap.size 9 1 v ps.length (vsString ps) ∧ Below w.heap.size w w' := by
  obtain ⟨i1, hi1, hy0, hy1, hy2⟩ := info_parts infoString
  obtain ⟨W, hW⟩ : ∃ W, W = w.alloc (Obj.cells #[] 9) := ⟨_, rfl⟩
  have hbW : Below w.heap.size w W := by subst hW; exact (Below.refl _ _).alloc (Nat.le_refl _) _
  have HC : Hid (∀ j u, (vsString ps)[j]? = some u → W.cell? ((⟨b, o, none⟩ : Addr).add j) = some u) := fun j u hu => rd_cells (hp.below hbW) j u hu
  have hW0 : W.ownsRow w.heap.size 9 1 (.slice (some ⟨w.heap.size, 0, none⟩) 0 0) 0 [] := by subst hW; exact World.ownsRow_made w #[] 0 (Nat.le_refl _) (Nat.zero_le _) rfl
  have hsW : w.heap.size < W.heap.size := by subst hW; simp
  clear hp
  have q22 : ∀ (w : World) (a : Option Addr) (n c n' c' : Nat), (binOp .eql 22 (.slice a n c) (.slice none n' c')).run Try.prog w = .ok (.bool a.isNone) w := fun w a n c n' c' => Lib.run_eql_slice_nil w _ _ a n c n' c' Try.underlying22
  go_enter Try.func62, Try.ntmps62
  go_wp2_with (at_builtin; rw [← hW]; refine wpList_append_own _ rfl _ _ 22 rfl w.heap.size 9 i1 (.string ⟨#[]⟩) 1 16 Try.underlying22 hi1 hy0 hy1 hy2 rfl (by decide) _ _ _ rfl hW0 ⟨b, o, none⟩ ps.length c (vsString ps) rfl ?q1 ?q2 ?q3 ?q4 ?q5 ?q6 ?_)
  case q1 => simp
  case q2 => exact HC.out
  case q3 => intro u hu; simp at hu; obtain ⟨x, _, rfl⟩ := hu; rfl
  case q4 => unfold maxLen; omega
  case q5 => omega
  case q6 => omega
  intro v' w1 hown hgrow _
  go_wp2
  go_ret
  refine ⟨v', rfl, by simpa using hown, ?_⟩
  rw [← hW] at hgrow
  exact hbW.grown hgrow (by omega) (by intro k hk; simp [Value.ownBlock] at hk; omega)

set_option maxHeartbeats 1600000 in
theorem cloneInt_any (b o c : Nat) (ws : List Int) (w : World) (hp : Rd w (some ⟨b, o, none⟩) (vsInt ws)) (hl : ws.length ≤ 1048576) :
    Calls Try.prog 63 #[.slice (some ⟨b, o, none⟩) ws.length c] w fun e w' => ∃ v, e = .returned v ∧ w'.ownsRow w.heap.size 3 1 v ws.length (vsInt ws) ∧ Below w.heap.size w w' := by
  obtain ⟨i1, hi1, hy0, hy1, hy2⟩ := info_parts infoInt
  obtain ⟨W, hW⟩ : ∃ W, W = w.alloc (Obj.cells #[] 3) := ⟨_, rfl⟩
  have hbW : Below w.heap.size w W := by subst hW; exact (Below.refl _ _).alloc (Nat.le_refl _) _
  have HC : Hid (∀ j u, (vsInt ws)[j]? = some u → W.cell? ((⟨b, o, none⟩ : Addr).add j) = some u) := fun j u hu => rd_cells (hp.below hbW) j u hu
  have hW0 : W.ownsRow w.heap.size 3 1 (.slice (some ⟨w.heap.size, 0, none⟩) 0 0) 0 [] := by subst hW; exact World.ownsRow_made w #[] 0 (Nat.le_refl _) (Nat.zero_le _) rfl
  have hsW : w.heap.size < W.heap.size := by subst hW; simp
  clear hp
  have q22 : ∀ (w : World) (a : Option Addr) (n c n' c' : Nat), (binOp .eql 23 (.slice a n c) (.slice none n' c')).run Try.prog w = .ok (.bool a.isNone) w := fun w a n c n' c' => Lib.run_eql_slice_nil w _ _ a n c n' c' Try.underlying23
  go_enter Try.func63, Try.ntmps63
  go_wp2_with (at_builtin; rw [← hW]; refine wpList_append_own _ rfl _ _ 23 rfl w.heap.size 3 i1 (.int .i64 0) 1 8 Try.underlying23 hi1 hy0 hy1 hy2 rfl (by decide) _ _ _ rfl hW0 ⟨b, o, none⟩ ws.length c (vsInt ws) rfl ?q1 ?q2 ?q3 ?q4 ?q5 ?q6 ?_)
  case q1 => simp
  case q2 => exact HC.out
  case q3 => intro u hu; simp at hu; obtain ⟨x, _, rfl⟩ := hu; rfl
  case q4 => unfold maxLen; omega
  case q5 => omega
  case q6 => omega
  intro v' w1 hown hgrow _
  go_wp2
  go_ret
  refine ⟨v', rfl, by simpa using hown, ?_⟩
  rw [← hW] at hgrow
  exact hbW.grown hgrow (by omega) (by intro k hk; simp [Value.ownBlock] at hk; omega)

end Go.Proofs.Ytghlnagainodaaa

namespace Go.Proofs.Ytghlnagainodaaa
open Go.RowKit

set_option maxHeartbeats 3200000 in
theorem chipCopy_any (a b : Option Addr) (ps : List ByteArray) (ws : List Int) (c d : Nat) (w : World) (hp : Rd w a (vsString ps)) (hw : Rd w b (vsInt ws)) (hl : ps.length = 60) (hm : ws.length = 10) :
    Calls Try.prog 54 #[.agg #[.slice a ps.length c, .slice b ws.length d]] w fun e w' => ∃ v, e = .returned v ∧ ChipOwn w' w.heap.size v ps ws ∧ Below w.heap.size w w' := by
  obtain ⟨b1, o1, rfl, -⟩ := rd_at (k := 0) hp (by simp; omega)
  obtain ⟨b2, o2, rfl, -⟩ := rd_at (k := 0) hw (by simp; omega)
  obtain ⟨A, hA⟩ : ∃ A, A = w.alloc (Obj.cells #[.slice (some ⟨b1, o1, none⟩) ps.length c, .slice (some ⟨b2, o2, none⟩) ws.length d] 30) := ⟨_, rfl⟩
  obtain ⟨W, hW⟩ : ∃ W, W = A.alloc (Obj.cells #[.slice none 0 0, .slice none 0 0] 30) := ⟨_, rfl⟩
  have hsA : A.heap.size = w.heap.size + 1 := by rw [hA]; simp
  have hbA : Below w.heap.size w A := by rw [hA]; exact (Below.refl _ _).alloc (Nat.le_refl _) _
  have hbAW : Below A.heap.size A W := by rw [hW]; exact (Below.refl _ _).alloc (Nat.le_refl _) _
  have hbW : Below w.heap.size w W := after hbA hbAW
  have x0 : W.cell? ⟨w.heap.size, 0, none⟩ = some (.slice (some ⟨b1, o1, none⟩) ps.length c) := by
    have h : A.cell? ⟨w.heap.size, 0, none⟩ = some (.slice (some ⟨b1, o1, none⟩) ps.length c) := by rw [hA]; simp
    exact (hbAW.cell (p := ⟨w.heap.size, 0, none⟩) (lt_of_cell h)).trans h
  have x1 : W.cell? ⟨w.heap.size, 1, none⟩ = some (.slice (some ⟨b2, o2, none⟩) ws.length d) := by
    have h : A.cell? ⟨w.heap.size, 1, none⟩ = some (.slice (some ⟨b2, o2, none⟩) ws.length d) := by rw [hA]; simp
    exact (hbAW.cell (p := ⟨w.heap.size, 1, none⟩) (lt_of_cell h)).trans h
  have c0 : W.cell? ⟨w.heap.size + 1, 0, none⟩ = some (.slice none 0 0) := by rw [hW, ← hsA]; simp
  have c1 : W.cell? ⟨w.heap.size + 1, 1, none⟩ = some (.slice none 0 0) := by rw [hW, ← hsA]; simp
  have f0 : W.frozen? ⟨w.heap.size + 1, 0, none⟩ = false := by rw [hW, ← hsA]; simp
  have f1 : W.frozen? ⟨w.heap.size + 1, 1, none⟩ = false := by rw [hW, ← hsA]; simp
  have hsW : w.heap.size + 1 < W.heap.size := lt_of_cell c0
  have hdr : Below W.heap.size W W.drew := after_drew (Below.refl _ _) 1
  have HP := hide ((hp.below hbW).below hdr)
  have HQ := hide ((hw.below hbW).below hdr)
  have HL := hide (And.intro hl hm)
  have hl0 : 0 < ps.length := by omega
  have hm0 : 0 < ws.length := by omega
  have HBW : Hid (Below w.heap.size w W.drew) := after hbW hdr
  have HC : Hid (∀ u, Below W.drew.heap.size W.drew u → u.cell? ⟨w.heap.size, 1, none⟩ = some (.slice (some ⟨b2, o2, none⟩) ws.length d) ∧ (u.cell? ⟨w.heap.size + 1, 0, none⟩ = some (.slice none 0 0) ∧ u.cell? ⟨w.heap.size + 1, 1, none⟩ = some (.slice none 0 0)) ∧ u.frozen? ⟨w.heap.size + 1, 0, none⟩ = false ∧ u.frozen? ⟨w.heap.size + 1, 1, none⟩ = false) := fun u hu =>
    ⟨(hu.cell (p := ⟨w.heap.size, 1, none⟩) (by show w.heap.size < W.heap.size; omega)).trans (by simpa using x1), ⟨(hu.cell (p := ⟨w.heap.size + 1, 0, none⟩) hsW).trans (by simpa using c0), (hu.cell (p := ⟨w.heap.size + 1, 1, none⟩) hsW).trans (by simpa using c1)⟩, (hu.frozen (p := ⟨w.heap.size + 1, 0, none⟩) hsW).trans (by simpa using f0), (hu.frozen (p := ⟨w.heap.size + 1, 1, none⟩) hsW).trans (by simpa using f1)⟩
  clear hp hw hbA hbAW hbW c0 c1 f0 f1 hl hm hdr hsA
  go_enter Try.func54, Try.ntmps54
  go_wp2_with fail
  rw [← hA]
  rw [← hW]
  clear hA hW
  go_region_with (first
    | (go_at_call 62; refine (cloneString_any b1 o1 c ps _ HP.out (by have := HL.out.1; omega)).mono ?_; rintro e w1 ⟨v1, rfl, ho1, hb1⟩; obtain ⟨g1, k1, hv1, hg1, hg1'⟩ := owns_form ho1 hl0; subst hv1; have HO1 := hide ho1; have HQ1 := hide (HQ.out.below hb1); have HBW1 := hide hb1; have y1 := (HC.out w1 hb1).1; clear ho1 hb1)
    | (go_at_call 63; refine (cloneInt_any b2 o2 d ws _ HQ1.out (by have := HL.out.2; omega)).mono ?_; rintro e w2 ⟨v2, rfl, ho2, hb2⟩; obtain ⟨g2, k2, hv2, hg2, hg2'⟩ := owns_form ho2 hm0; subst hv2; have HO2 := hide ho2; have HO1' := hide (owns_below HO1.out hb2); have HBW2 : Hid (Below W.drew.heap.size W.drew w2) := after HBW1.out hb2; obtain ⟨-, ⟨c0, c1⟩, f0, f1⟩ := HC.out w2 HBW2.out; clear ho2 hb2))
  all_goals go_wp2
  all_goals
    have HW2 : Hid (Below w.heap.size w w2) := HBW.out.trans (HBW2.out.mono HBW.out.size)
    refine bodyPost_ret (v := .agg #[.slice (some ⟨g1, 0, none⟩) ps.length k1, .slice (some ⟨g2, 0, none⟩) ws.length k2]) (by simp [results, Try.results54, go_sem, c0, c1]) rfl ⟨_, rfl, ⟨_, _, rfl, ?_, ?_, ?_⟩, (HW2.out.setCell (by show _ ≤ _; simp) _).setCell (by show _ ≤ _; simp) _⟩
    · exact owns_mono (ownsRow_setCell_below (ownsRow_setCell_below HO1'.out (show w.heap.size + 1 < W.drew.heap.size from hsW) _) (show w.heap.size + 1 < W.drew.heap.size from hsW) _) (show w.heap.size ≤ W.drew.heap.size from by show _ ≤ W.heap.size; omega)
    · exact owns_mono (ownsRow_setCell_below (ownsRow_setCell_below HO2.out (show w.heap.size + 1 < w1.heap.size by have := HBW1.out.size; simp at this; omega) _) (show w.heap.size + 1 < w1.heap.size by have := HBW1.out.size; simp at this; omega) _) (show w.heap.size ≤ w1.heap.size by have := HBW1.out.size; simp at this; omega)
    · intro k hk
      simp [Value.ownBlock] at hk ⊢
      omega

end Go.Proofs.Ytghlnagainodaaa

namespace Go.Proofs.Ytghlnagainodaaa
open Go.RowKit

set_option maxHeartbeats 400000 in
theorem equalInt_any (a b : Option Addr) (xs ys : List Int) (c d : Nat) (w : World) (hr : Rd w a (vsInt xs)) (hs : Rd w b (vsInt ys)) (hm : xs.length ≤ 1048576) (_hn : ys.length ≤ 1048576) :
    Calls Try.prog 45 #[.slice a xs.length c, .slice b ys.length d] w fun e w' => e = .returned (.bool (decide (xs = ys))) ∧ ∃ n, w' = w.drewN n := by
  by_cases hl : xs.length = ys.length
  · have hl' : ((xs.length : Int) != (ys.length : Int)) = false := by simp [hl]
    have HL : Hid (xs.length = ys.length) := hl
    clear hl
    go_enter Try.func45, Try.ntmps45
    go_wp2
    go_loopw [13] (fun i wr => ∃ k : Nat, k ≤ xs.length ∧ i = .int .i64 k ∧ xs.take k = ys.take k ∧ ∃ n, wr = w.drewN n) (fun i _ => xs.length - (intOf i).toNat)
    case atStart => exact ⟨0, Nat.zero_le _, rfl, by simp, 0, rfl⟩
    case round =>
      obtain ⟨k, hk, rfl, htk, n, rfl⟩ := hrel
      by_cases hlt : k < xs.length
      · have hlt' : k < ys.length := by have := HL.out; omega
        obtain ⟨ba, oa, z, rfl, hck, HZ⟩ := rdInt_at hr hlt
        obtain ⟨bb, ob, y, rfl, hcy, HY⟩ := rdInt_at hs hlt'
        have HT : Hid (xs.take k = ys.take k) := htk
        clear hr hs htk hl'
        by_cases hzy : z = y
        · subst hzy
          have HE : Hid (xs.take (k + 1) = ys.take (k + 1)) := takeInt_step HT.out HZ.out HY.out
          go_wp2
          go_quiet (fail)
          go_wp2
          go_roundw
          case rel => exact ⟨k + 1, by omega, by go_num, HE.out, _, rfl⟩
          case measure => simp [intOf]; omega
        · have HE : Hid (xs ≠ ys) := neInt_at HZ.out HY.out hzy
          have ht : (z != y) = true := by simpa using hzy
          clear hzy
          go_wp2
          go_quiet (fail)
          go_wp2
          go_ret
          exact ⟨ret_bool (by simp [HE.out]), _, World.drewN_drewN _ _ _⟩
      · have HE : Hid (xs = ys) := by
          have := HL.out
          rw [List.take_of_length_le (by omega), List.take_of_length_le (by omega)] at htk; exact htk
        clear htk hl'
        go_wp2
        go_ret
        exact ⟨ret_bool (by simp [HE.out]), _, rfl⟩
  · have hl' : ((xs.length : Int) != (ys.length : Int)) = true := by simp; omega
    have HE : Hid (xs ≠ ys) := fun e => hl (by rw [e])
    clear hl
    go_enter Try.func45, Try.ntmps45
    go_wp2
    go_ret
    exact ⟨ret_bool (by simp [HE.out]), 0, rfl⟩

theorem notin_step {α : Type} {xs : List α} {k : Nat} {x y : α} (h : x ∉ xs.take k) (hy : xs[k]? = some y) (hne : ¬ x = y) : x ∉ xs.take (k + 1) := by
  rw [List.take_add_one, hy]
  simp only [Option.toList_some, List.mem_append, List.mem_singleton]
  rintro (h' | h')
  · exact h h'
  · exact hne h'

/-- Where x is first, or -1. -/
def FirstAt {α : Type} (xs : List α) (x : α) (r : Int) : Prop := (r = -1 ∧ x ∉ xs) ∨ ∃ i : Nat, r = i ∧ xs[i]? = some x ∧ x ∉ xs.take i

theorem FirstAt.mem {α : Type} {xs : List α} {x : α} {r : Int} (h : FirstAt xs x r) : (0 ≤ r ↔ x ∈ xs) ∧ -1 ≤ r ∧ r < max xs.length 1 := by
  rcases h with ⟨rfl, h⟩ | ⟨i, rfl, h, -⟩
  · exact ⟨⟨fun h => by omega, fun h' => absurd h' h⟩, by omega, by omega⟩
  · have : i < xs.length := by
      rcases Nat.lt_or_ge i xs.length with h' | h'
      · exact h'
      · simp [h'] at h
    exact ⟨⟨fun _ => List.mem_of_getElem? h, fun _ => by omega⟩, by omega, by omega⟩

/-- All of them are clear. -/
def AllClr (xs : List ByteArray) : Prop := ∀ x ∈ xs, x = ByteArray.empty
open Classical in
noncomputable def allClrB (xs : List ByteArray) : Bool := decide (AllClr xs)
theorem allClrB_true {xs : List ByteArray} (h : AllClr xs) : allClrB xs = true := by simp [allClrB, h]
theorem allClrB_false {xs : List ByteArray} (h : ¬ AllClr xs) : allClrB xs = false := by simp [allClrB, h]

set_option maxHeartbeats 400000 in
theorem placeIn_any (a : Option Addr) (n c : Nat) (w : World) : Calls Try.prog 46 #[.slice a n c] w fun e w' => e = .returned (.func (.func 55) #[] #[.pointer (some ⟨w.heap.size, 0, none⟩)]) ∧ w' = w.alloc (.cells #[.slice a n c] 23) := by
  have hmf : ∀ (fn : Fn) (first cap : Array Value) (w : World), (Instr.makeFunc fn first cap).run Try.prog w = .ok (.func fn first cap) w := fun _ _ _ _ => rfl
  go_enter Try.func46, Try.ntmps46
  go_wp2
  go_ret
  exact ⟨rfl, rfl⟩

set_option maxHeartbeats 400000 in
theorem place_in (p : Nat) (a : Option Addr) (xs : List Int) (c k : Nat) (z : Int) (w : World) (hc : w.cell? ⟨p, 0, none⟩ = some (.slice a xs.length c)) (hr : Rd w a (vsInt xs)) (_hm : xs.length ≤ 1048576) (hz : xs[k]? = some z) :
    Calls Try.prog 55 #[.int .i64 k, .pointer (some ⟨p, 0, none⟩)] w fun e w' => e = .returned (.int .i64 z) ∧ w' = w := by
  have hk : k < xs.length := by
    rcases Nat.lt_or_ge k xs.length with h' | h'
    · exact h'
    · simp [h'] at hz
  obtain ⟨ba, oa, y, rfl, hck, HZ⟩ := rdInt_at hr hk
  obtain rfl : y = z := by have := HZ.out; rw [hz] at this; simpa using this.symm
  clear hr hz
  go_enter Try.func55, Try.ntmps55
  go_wp2
  go_ret
  exact ⟨rfl, rfl⟩

set_option maxHeartbeats 400000 in
theorem place_out (p : Nat) (a : Option Addr) (xs : List Int) (c : Nat) (s : Int) (w : World) (hc : w.cell? ⟨p, 0, none⟩ = some (.slice a xs.length c)) (_hm : xs.length ≤ 1048576) (hs : s < 0 ∨ (xs.length : Int) ≤ s) :
    Calls Try.prog 55 #[.int .i64 s, .pointer (some ⟨p, 0, none⟩)] w fun e w' => e = .returned (.int .i64 (-1)) ∧ w' = w := by
  by_cases h0 : s < 0
  · clear hs
    go_enter Try.func55, Try.ntmps55
    go_wp2
    go_ret
    exact ⟨rfl, rfl⟩
  · have h1 : (xs.length : Int) ≤ s := by omega
    clear hs
    go_enter Try.func55, Try.ntmps55
    go_wp2
    go_ret
    exact ⟨rfl, rfl⟩

end Go.Proofs.Ytghlnagainodaaa
