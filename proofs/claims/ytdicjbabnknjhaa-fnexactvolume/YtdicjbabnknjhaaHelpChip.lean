/-
  Contracts of the laws' helpers over chips: toChip, eqChip, markChip, heldChip, szChip.
-/
import Derived.Test.YtdicjbabnknjhaaMarks
import Derived.Laws.ResultCell
namespace Go.Proofs.Ytdicjbabnknjhaa
open Go.RowKit

/-- A chip whose two rows can be read. -/
def ChipRd (w : World) (v : Value) (ps : List ByteArray) (ws : List Int) : Prop :=
  ∃ a c b d, v = .agg #[.slice a ps.length c, .slice b ws.length d] ∧ Rd w a (vsString ps) ∧ Rd w b (vsInt ws)
/-- A chip whose two rows are the call's own, in two blocks. -/
def ChipOwn (w : World) (base : Nat) (v : Value) (ps : List ByteArray) (ws : List Int) : Prop :=
  ∃ v1 v2, v = .agg #[v1, v2] ∧ w.ownsRow base 9 1 v1 ps.length (vsString ps) ∧ w.ownsRow base 3 1 v2 ws.length (vsInt ws) ∧ (∀ k, v1.ownBlock = some k → v2.ownBlock ≠ some k)

set_option maxHeartbeats 800000 in
theorem toChip_any (a b : Option Addr) (ps : List ByteArray) (ws : List Int) (c d : Nat) (w : World) (hp : Rd w a (vsString ps)) (hw : Rd w b (vsInt ws)) (hl : ps.length ≤ 1048576) (hm : ws.length ≤ 1048576) :
    Calls Try.prog 44 #[.agg #[.slice a ps.length c, .slice b ws.length d]] w fun e w' => ∃ v, e = .returned v ∧ ChipOwn w' w.heap.size v ps ws ∧ Below w.heap.size w w' := by
  go_enter Try.func44, Try.ntmps44
  go_wp2_with fail
  obtain ⟨W, hW⟩ : ∃ W, W = ((w.alloc (Obj.cells #[.slice a ps.length c, .slice b ws.length d] 36)).alloc (Obj.cells #[.slice none 0 0, .slice none 0 0] 41)).alloc (Obj.cells #[.slice none 0 0, .slice none 0 0] 41) := ⟨_, rfl⟩
  have hbW : Below w.heap.size w W := by subst hW; exact (((Below.refl _ _).alloc (Nat.le_refl _) _).alloc (by simp) _).alloc (by simp; omega) _
  have hsW : w.heap.size + 1 + 1 < W.heap.size := by subst hW; simp
  have cW : W.cell? ⟨w.heap.size, 1, none⟩ = some (.slice b ws.length d) ∧ W.cell? ⟨w.heap.size + 1 + 1, 0, none⟩ = some (.slice none 0 0) ∧ W.cell? ⟨w.heap.size + 1 + 1, 1, none⟩ = some (.slice none 0 0) ∧ W.cell? ⟨w.heap.size + 1, 0, none⟩ = some (.slice none 0 0) ∧ W.cell? ⟨w.heap.size + 1, 1, none⟩ = some (.slice none 0 0) := by
    subst hW; refine ⟨?_, ?_, ?_, ?_, ?_⟩ <;> simp [go_sem]
  have fW : ∀ j, W.frozen? ⟨w.heap.size + 1 + 1, j, none⟩ = false ∧ W.frozen? ⟨w.heap.size + 1, j, none⟩ = false := by
    subst hW; intro j; constructor <;> simp [go_sem]
  rw [← hW]
  clear hW
  refine (toStringS_any a ps c W (hp.below hbW) (by omega)).mono ?_
  rintro e w1 ⟨rfl, ho1, hb1⟩
  obtain ⟨g1, hg1⟩ : ∃ g1, g1 = W.heap.size := ⟨_, rfl⟩
  rw [← hg1] at ho1 ⊢
  have hg1' : w.heap.size + 1 + 1 < g1 := by omega
  have c1 := (hb1.cell (p := ⟨w.heap.size, 1, none⟩) (by show _ < _; simp; omega)).trans cW.1
  have c2 := (hb1.cell (p := ⟨w.heap.size + 1 + 1, 0, none⟩) (by show _ < _; simp; omega)).trans cW.2.1
  have c3 := (hb1.cell (p := ⟨w.heap.size + 1 + 1, 1, none⟩) (by show _ < _; simp; omega)).trans cW.2.2.1
  have c4 := (hb1.cell (p := ⟨w.heap.size + 1, 0, none⟩) (by show _ < _; simp; omega)).trans cW.2.2.2.1
  have c5 := (hb1.cell (p := ⟨w.heap.size + 1, 1, none⟩) (by show _ < _; simp; omega)).trans cW.2.2.2.2
  have f1 : ∀ j, w1.frozen? ⟨w.heap.size + 1 + 1, j, none⟩ = false := fun j => (hb1.frozen (p := ⟨w.heap.size + 1 + 1, j, none⟩) (by show _ < _; simp; omega)).trans (fW j).1
  have f2 : ∀ j, w1.frozen? ⟨w.heap.size + 1, j, none⟩ = false := fun j => (hb1.frozen (p := ⟨w.heap.size + 1, j, none⟩) (by show _ < _; simp; omega)).trans (fW j).2
  have f10 := f1 0
  have hbw1 : Below w.heap.size w w1 := hbW.trans (hb1.mono (by omega))
  have hs1 := hb1.size
  clear cW fW hbW hb1 hg1
  go_wp2_with fail
  obtain ⟨U, hU⟩ : ∃ U, U = w1.setCell ⟨w.heap.size + 1 + 1, 0, none⟩ (.slice (some ⟨g1, 0, none⟩) ps.length ps.length) := ⟨_, rfl⟩
  rw [← hU]
  have hsU : U.heap.size = w1.heap.size := by subst hU; simp [World.setCell]
  have hbwU : Below w.heap.size w U := by subst hU; exact hbw1.setCell (by show _ ≤ _; simp; omega) _
  have hoU : U.ownsRow g1 9 1 (.slice (some ⟨g1, 0, none⟩) ps.length ps.length) ps.length (vsString ps) := by
    subst hU; exact ownsRow_setCell_below ho1 (by show _ < _; simpa using hg1') _
  have d2 : U.cell? ⟨w.heap.size + 1 + 1, 0, none⟩ = some (.slice (some ⟨g1, 0, none⟩) ps.length ps.length) := by subst hU; exact World.cell?_setCell_same w1 _ _ c2
  have d3 : U.cell? ⟨w.heap.size + 1 + 1, 1, none⟩ = some (.slice none 0 0) := by subst hU; simpa [go_sem] using c3
  have d4 : U.cell? ⟨w.heap.size + 1, 0, none⟩ = some (.slice none 0 0) := by subst hU; simpa [go_sem] using c4
  have d5 : U.cell? ⟨w.heap.size + 1, 1, none⟩ = some (.slice none 0 0) := by subst hU; simpa [go_sem] using c5
  have e1 : ∀ j, U.frozen? ⟨w.heap.size + 1 + 1, j, none⟩ = false := by subst hU; intro j; simpa using f1 j
  have e2 : ∀ j, U.frozen? ⟨w.heap.size + 1, j, none⟩ = false := by subst hU; intro j; simpa using f2 j
  have hgU : g1 < U.heap.size := (owns_lt hoU).2
  clear hU c1 c2 c3 c4 c5 f1 f2 f10 ho1 hbw1
  refine (toIntS_any b ws d U (hw.below hbwU) (by omega)).mono ?_
  rintro e w2 ⟨rfl, ho2, hb2⟩
  have hoP := owns_below hoU hb2
  obtain ⟨g2, hg2⟩ : ∃ g2, g2 = U.heap.size := ⟨_, rfl⟩
  rw [← hg2] at ho2 ⊢
  have hg2' : g1 < g2 := by omega
  have k2 := (hb2.cell (p := ⟨w.heap.size + 1 + 1, 0, none⟩) (by show _ < _; simp; omega)).trans d2
  have k3 := (hb2.cell (p := ⟨w.heap.size + 1 + 1, 1, none⟩) (by show _ < _; simp; omega)).trans d3
  have k4 := (hb2.cell (p := ⟨w.heap.size + 1, 0, none⟩) (by show _ < _; simp; omega)).trans d4
  have k5 := (hb2.cell (p := ⟨w.heap.size + 1, 1, none⟩) (by show _ < _; simp; omega)).trans d5
  have m1 := (hb2.frozen (p := ⟨w.heap.size + 1 + 1, 1, none⟩) (by show _ < _; simp; omega)).trans (e1 1)
  have m2 := (hb2.frozen (p := ⟨w.heap.size + 1, 0, none⟩) (by show _ < _; simp; omega)).trans (e2 0)
  have m3 := (hb2.frozen (p := ⟨w.heap.size + 1, 1, none⟩) (by show _ < _; simp; omega)).trans (e2 1)
  have hbw2 : Below w.heap.size w w2 := hbwU.trans (hb2.mono (by omega))
  clear hb2 hoU d2 d3 d4 d5 e1 e2 hbwU hg2 hsU
  go_wp2
  refine bodyPost_ret (v := .agg #[.slice (some ⟨g1, 0, none⟩) ps.length ps.length, .slice (some ⟨g2, 0, none⟩) ws.length ws.length]) (by simp [results, Try.results44, go_sem, k4, k5]) rfl ⟨_, rfl, ⟨_, _, rfl, ?_, ?_, ?_⟩, ?_⟩
  · refine owns_mono (ownsRow_setCell_below (ownsRow_setCell_below (ownsRow_setCell_below hoP ?_ _) ?_ _) ?_ _) (by omega) <;> (show _ < _; simp; omega)
  · refine owns_mono (ownsRow_setCell_below (ownsRow_setCell_below (ownsRow_setCell_below ho2 ?_ _) ?_ _) ?_ _) (by omega) <;> (show _ < _; simp; omega)
  · intro k hk
    simp [Value.ownBlock] at hk ⊢
    omega
  · exact ((hbw2.setCell (by show _ ≤ _; simp; omega) _).setCell (by show _ ≤ _; simp) _).setCell (by show _ ≤ _; simp) _

set_option maxHeartbeats 800000 in
theorem eqChip_any (a b a' b' : Option Addr) (ps qs : List ByteArray) (ws us : List Int) (c d c' d' : Nat) (w : World) (hp : Rd w a (vsString ps)) (hw : Rd w b (vsInt ws)) (hp' : Rd w a' (vsString qs)) (hw' : Rd w b' (vsInt us)) (hl : ps.length ≤ 1048576) (hm : ws.length ≤ 1048576) (hl' : qs.length ≤ 1048576) (hm' : us.length ≤ 1048576) :
    Calls Try.prog 48 #[.agg #[.slice a ps.length c, .slice b ws.length d], .agg #[.slice a' qs.length c', .slice b' us.length d']] w fun e w' => e = .returned (.bool (decide (ps = qs ∧ ws = us))) ∧ Below w.heap.size w w' := by
  have hbW : Below w.heap.size w ((w.alloc (Obj.cells #[.slice a ps.length c, .slice b ws.length d] 41)).alloc (Obj.cells #[.slice a' qs.length c', .slice b' us.length d'] 41)) := ((Below.refl _ _).alloc (Nat.le_refl _) _).alloc (by simp) _
  go_enter Try.func48, Try.ntmps48
  go_wp2_with fail
  refine (eqStringS_any a a' ps qs c c' _ (hp.below hbW) (hp'.below hbW) (by omega) (by omega)).mono ?_
  rintro e w1 ⟨rfl, n, rfl⟩
  by_cases hpq : ps = qs
  · have hd : decide (ps = qs) = true := by simp [hpq]
    rw [hd]
    have HP : Hid (ps = qs) := hpq
    clear hpq hd
    go_wp2_with fail
    refine (eqIntS_any b b' ws us d d' _ (hw.below (after_drew hbW n)) (hw'.below (after_drew hbW n)) (by omega) (by omega)).mono ?_
    rintro e w2 ⟨rfl, m, rfl⟩
    by_cases hwu : ws = us
    · have hd' : decide (ws = us) = true := by simp [hwu]
      rw [hd']
      have HE : Hid (ps = qs ∧ ws = us) := ⟨HP.out, hwu⟩
      clear hwu hd' hp hw hp' hw'
      go_wp2
      go_ret
      exact ⟨ret_bool (by simp [HE.out]), after_drew hbW (n + m)⟩
    · have hd' : decide (ws = us) = false := by simp [hwu]
      rw [hd']
      have HE : Hid (¬ (ps = qs ∧ ws = us)) := fun h => hwu h.2
      clear hwu hd' hp hw hp' hw'
      go_wp2
      go_ret
      exact ⟨ret_bool (by simp only [HE.out, decide_false]), after_drew hbW (n + m)⟩
  · have hd : decide (ps = qs) = false := by simp [hpq]
    rw [hd]
    have HE : Hid (¬ (ps = qs ∧ ws = us)) := fun h => hpq h.1
    clear hpq hd hp hw hp' hw'
    go_wp2
    go_ret
    exact ⟨ret_bool (by simp only [HE.out, decide_false]), after_drew hbW n⟩

/-- Nothing old has turned but in the listed blocks. -/
structure OnlyIn (w w' : World) (L : List (Option Nat)) : Prop where
  os : w'.os = w.os
  tape : w'.tape = w.tape
  output : w'.output = w.output
  size : w.heap.size ≤ w'.heap.size
  block : ∀ i, i < w.heap.size → some i ∉ L → w'.heap[i]? = w.heap[i]?
theorem OnlyIn.of_grown {w w' : World} {r : Option Nat} (h : w.grownBy w' r) : OnlyIn w w' [r] := ⟨h.os, h.tape, h.output, h.size, fun i hi hn => h.block i hi (by simpa using hn)⟩
theorem OnlyIn.of_below {w w' : World} (h : Below w.heap.size w w') (L : List (Option Nat)) : OnlyIn w w' L := ⟨h.os, h.tape, h.output, h.size, fun i hi _ => h.block i hi⟩
theorem OnlyIn.trans {w w1 w2 : World} {L M : List (Option Nat)} (h : OnlyIn w w1 L) (k : OnlyIn w1 w2 M) : OnlyIn w w2 (L ++ M) :=
  ⟨k.os.trans h.os, k.tape.trans h.tape, k.output.trans h.output, Nat.le_trans h.size k.size, fun i hi hn => by
    simp only [List.mem_append, not_or] at hn
    exact (k.block i (Nat.lt_of_lt_of_le hi h.size) hn.2).trans (h.block i hi hn.1)⟩
theorem OnlyIn.below {w w' : World} {L : List (Option Nat)} {base : Nat} (h : OnlyIn w w' L) (hB : base ≤ w.heap.size) (hL : ∀ k, some k ∈ L → base ≤ k) : Below base w w' :=
  ⟨h.os, h.tape, h.output, h.size, fun i hi => h.block i (by omega) (fun hm => by have := hL i hm; omega)⟩
theorem OnlyIn.owns {w w' : World} {L : List (Option Nat)} {base : Nat} {e : TypeId} {size : Nat} {v : Value} {n : Nat} {xs : List Value} (ho : w.ownsRow base e size v n xs) (h : OnlyIn w w' L) (hn : ∀ k, v.ownBlock = some k → some k ∉ L) : w'.ownsRow base e size v n xs := by
  obtain ⟨h1, h2⟩ := id ho
  refine ⟨h1, ?_⟩
  rcases h2 with h2 | ⟨g, cap, cur, hv, hg, hh, r⟩
  · exact .inl h2
  · refine .inr ⟨g, cap, cur, hv, hg, ?_, r⟩
    have hlt : g < w.heap.size := (ho.lt g (by rw [hv]; rfl)).2
    rw [h.block g hlt (hn g (by rw [hv]; rfl))]
    exact hh

set_option maxHeartbeats 800000 in
theorem markChip_any (a b : Option Addr) (n m c d base q : Nat) (xs ys : List Value) (w : World) (h1 : w.ownsRow base 9 1 (.slice a n c) n xs) (h2 : w.ownsRow base 3 1 (.slice b m d) m ys)
    (hne : ∀ k, (Value.slice a n c).ownBlock = some k → (Value.slice b m d).ownBlock ≠ some k) (hl : n ≤ 1048576) (hm : m ≤ 1048576) (hq0 : 0 < q) (hq : q ≤ 1000000) :
    Calls Try.prog 50 #[.agg #[.slice a n c, .slice b m d], .int .i64 q] w fun e w' => e = .returned (.int .i64 ((q + n + m : Nat) : Int)) ∧ w'.ownsRow base 9 1 (.slice a n c) n (marksT q n) ∧ w'.ownsRow base 3 1 (.slice b m d) m (marksI (q + n) m) ∧
      OnlyIn w w' [(Value.slice a n c).ownBlock, (Value.slice b m d).ownBlock] := by
  have hbW : Below w.heap.size w (w.alloc (Obj.cells #[.slice a n c, .slice b m d] 41)) := (Below.refl _ _).alloc (Nat.le_refl _) _
  have cW : (w.alloc (Obj.cells #[.slice a n c, .slice b m d] 41)).cell? ⟨w.heap.size, 1, none⟩ = some (.slice b m d) := by simp
  have nW : ∀ k, (Value.slice a n c).ownBlock = some k → k < w.heap.size := fun k hk => (h1.lt k hk).2
  go_enter Try.func50, Try.ntmps50
  go_wp2_with fail
  refine (markStringS_any (.slice a n c) n xs base q _ (owns_below h1 hbW) hl (by omega) hq0).mono ?_
  rintro e w1 ⟨rfl, ho1, hg1⟩
  have c1 : w1.cell? ⟨w.heap.size, 1, none⟩ = some (.slice b m d) := hg1.cell cW (by
    intro e
    have := nW w.heap.size e.symm
    omega)
  have ho2 : w1.ownsRow base 3 1 (.slice b m d) m ys := (owns_below h2 hbW).kept hg1 (by
    cases hv : (Value.slice b m d).ownBlock with
    | none => exact .inl rfl
    | some k =>
      right
      intro e
      exact hne k e.symm hv)
  have on1 : OnlyIn w w1 [(Value.slice a n c).ownBlock] := by
    have := (OnlyIn.of_below hbW []).trans (OnlyIn.of_grown hg1)
    simpa using this
  clear cW hbW hg1 h1 h2
  go_wp2_with fail
  refine (markIntS_any (.slice b m d) m ys base (q + n) _ ho2 hm (by omega)).mono ?_
  rintro e w2 ⟨rfl, ho2', hg2⟩
  have ho1' : w2.ownsRow base 9 1 (.slice a n c) n (marksT q n) := ho1.kept hg2 (by
    cases hv : (Value.slice a n c).ownBlock with
    | none => exact .inl rfl
    | some k =>
      right
      intro e
      exact hne k hv e.symm)
  have on2 : OnlyIn w w2 [(Value.slice a n c).ownBlock, (Value.slice b m d).ownBlock] := on1.trans (OnlyIn.of_grown hg2)
  clear hg2 ho1 ho2 on1 c1
  go_wp2
  go_ret
  exact ⟨rfl, ho1', ho2', on2⟩

set_option maxHeartbeats 800000 in
theorem szStringS_any (a : Option Addr) (ps : List ByteArray) (c : Nat) (l : Nat) (w : World) (hp : Rd w a (vsString ps)) (hm : ps.length ≤ maxLen) (hs : ∀ s ∈ ps, s.size ≤ maxLen) (hl : l ≤ 1048576) :
    Calls Try.prog 55 #[.slice a ps.length c, .int .i64 l] w fun e w' => (∃ r : Int, e = .returned (.int .i64 r) ∧ -1 ≤ r ∧ r ≤ l ∧ (0 ≤ r → ps.length ≤ l ∧ ∀ s ∈ ps, s.size ≤ l)) ∧ w' = w := by
  unfold maxLen at hm hs
  by_cases hbig : (l : Int) - ps.length < 0
  · clear hp
    go_enter Try.func55, Try.ntmps55
    go_wp2
    go_ret
    exact ⟨⟨-1, rfl, by omega, by omega, by omega⟩, rfl⟩
  · go_enter Try.func55, Try.ntmps55
    go_wp2
    go_loop [1, 5] (fun q i => ∃ (k : Nat) (r : Int), k ≤ ps.length ∧ i = .int .i64 k ∧ q = .int .i64 r ∧ 0 ≤ r ∧ r ≤ l ∧ Hid (∀ s ∈ ps.take k, s.size ≤ l)) (fun _ i => ps.length - (intOf i).toNat)
    case atStart => exact ⟨0, _, Nat.zero_le _, rfl, rfl, by omega, by omega, by show ∀ _, _; simp⟩
    case round =>
      obtain ⟨k, r, hk, rfl, rfl, hr0, hr1, hall⟩ := hrel
      by_cases hlt : k < ps.length
      · obtain ⟨b, off, x, rfl, hck, HX⟩ := rdString_at hp hlt
        have hx : x.size ≤ 9223372036854775807 := by
          have := hs x (List.mem_of_getElem? HX.out)
          omega
        clear hp
        by_cases hneg : r - (x.size : Int) < 0
        · go_wp2
          go_ret
          exact ⟨⟨-1, rfl, by omega, by omega, by omega⟩, rfl⟩
        · have hall' : Hid (∀ s ∈ ps.take (k + 1), s.size ≤ l) := by
            show ∀ _, _
            intro s hs'
            rw [List.take_add_one, HX.out] at hs'
            simp only [Option.toList_some, List.mem_append, List.mem_singleton] at hs'
            rcases hs' with h | rfl
            · exact hall.out s h
            · omega
          go_wp2
          go_round
          case rel => exact ⟨k + 1, _, by omega, by go_num, rfl, by omega, by omega, hall'⟩
          case measure => simp [intOf]; omega
      · have hall' : Hid (∀ s ∈ ps, s.size ≤ l) := by
          have := hall.out
          rw [List.take_of_length_le (by omega)] at this
          exact this
        clear hp
        go_wp2
        go_ret
        exact ⟨⟨r, rfl, by omega, hr1, fun _ => ⟨by omega, hall'.out⟩⟩, rfl⟩

theorem szIntS_any (a : Option Addr) (n c : Nat) (l : Nat) (w : World) (hm : n ≤ maxLen) (hl : l ≤ 1048576) :
    Calls Try.prog 40 #[.slice a n c, .int .i64 l] w fun e w' => (∃ r : Int, e = .returned (.int .i64 r) ∧ -1 ≤ r ∧ r ≤ l ∧ (0 ≤ r → n ≤ l)) ∧ w' = w := by
  unfold maxLen at hm
  by_cases hbig : (l : Int) - n < 0
  · go_enter Try.func40, Try.ntmps40
    go_wp2
    go_ret
    exact ⟨⟨-1, rfl, by omega, by omega, by omega⟩, rfl⟩
  · go_enter Try.func40, Try.ntmps40
    go_wp2
    go_ret
    exact ⟨⟨_, rfl, by omega, by omega, fun _ => by omega⟩, rfl⟩

set_option maxHeartbeats 800000 in
theorem szChip_any (a b : Option Addr) (ps : List ByteArray) (m c d : Nat) (l : Nat) (w : World) (hp : Rd w a (vsString ps)) (hn : ps.length ≤ maxLen) (hs : ∀ s ∈ ps, s.size ≤ maxLen) (hm : m ≤ maxLen) (hl : l ≤ 1048576) :
    Calls Try.prog 39 #[.agg #[.slice a ps.length c, .slice b m d], .int .i64 l] w fun e w' => (∃ r : Int, e = .returned (.int .i64 r) ∧ -1 ≤ r ∧ r ≤ l ∧ (0 ≤ r → ps.length ≤ l ∧ (∀ s ∈ ps, s.size ≤ l) ∧ m ≤ l)) ∧ Below w.heap.size w w' := by
  have hbW : Below w.heap.size w (w.alloc (Obj.cells #[.slice a ps.length c, .slice b m d] 36)) := (Below.refl _ _).alloc (Nat.le_refl _) _
  go_enter Try.func39, Try.ntmps39
  go_wp2_with fail
  refine (szStringS_any a ps c l _ (hp.below hbW) hn hs hl).mono ?_
  rintro e u ⟨⟨r, rfl, hr0, hr1, hr2⟩, hu⟩
  have hu' := hu.symm
  subst hu'
  by_cases hneg : r < 0
  · clear hp hr2
    go_wp2
    go_ret
    exact ⟨⟨-1, rfl, by omega, by omega, by omega⟩, hbW⟩
  · obtain ⟨R, rfl⟩ : ∃ R : Nat, r = R := ⟨r.toNat, by omega⟩
    have hr2' := hr2 (by omega)
    clear hr2
    go_wp2_with fail
    refine (szIntS_any b m d R _ hm (by omega)).mono ?_
    rintro e u ⟨⟨r2, rfl, hs0, hs1, hs2⟩, hu⟩
    have hu' := hu.symm
    subst hu'
    have HR : Hid _ := hr2'
    have HS : Hid _ := hs2
    clear hr2' hs2 hp hs
    by_cases hneg2 : r2 < 0
    · go_wp2
      go_ret
      exact ⟨⟨-1, rfl, by omega, by omega, by omega⟩, hbW⟩
    · go_wp2
      go_ret
      exact ⟨⟨r2, rfl, by omega, by omega, fun h => ⟨HR.out.1, HR.out.2, by have := HS.out h; omega⟩⟩, hbW⟩

end Go.Proofs.Ytdicjbabnknjhaa
