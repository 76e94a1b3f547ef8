/-
  Contracts of the specification's and the program's Lives; what the two answer: the same.
  Contract of the program's Worst.
  Contract of the program's Sector; what the two Sectors answer: the same.
-/
import Derived.Test.YtdicjbabnknjhaaGreatJRecover13
import Derived.Test.YtdicjbabnknjhaaGreatJRecover12
import Derived.Test.YtdicjbabnknjhaaGreatJRecover28
import Derived.Test.YtdicjbabnknjhaaGreatJRecover17
import Derived.RangeFuncCalls
import Derived.RangeFuncBound
namespace Go.Proofs.YtdicjbabnknjhaaGreat
open Go.RowKit

theorem filter_one {xs : List Int} {p : Int} (h : ∀ i j : Nat, xs[i]? = some p → xs[j]? = some p → i = j) : xs.filter (fun x => x == p) = if p ∈ xs then [p] else [] := by
  induction xs with
  | nil => simp
  | cons y ys ih =>
    by_cases hy : y = p
    · have hn : p ∉ ys := by
        intro hm
        obtain ⟨j, hj⟩ := List.mem_iff_getElem?.1 hm
        have := h 0 (j + 1) (by simp [hy]) (by simpa using hj)
        omega
      have hf : ys.filter (fun x => x == p) = [] := by
        rw [List.filter_eq_nil_iff]
        intro x hx he
        exact hn ((by simpa using he) ▸ hx)
      rw [List.filter_cons, if_pos (by simpa using hy), hf, if_pos (by simp [hy]), hy]
    · rw [List.filter_cons, if_neg (by simpa using hy), ih (fun i j hi hj => by have := h (i + 1) (j + 1) (by simpa using hi) (by simpa using hj); omega)]
      have : (p ∈ y :: ys) ↔ p ∈ ys := by simp [Ne.symm hy]
      simp only [this]

theorem map_one (ps : List ByteArray) (p : Nat) : ∀ i j : Nat, (mMap ps)[i]? = some (p : Int) → (mMap ps)[j]? = some (p : Int) → i = j := by
  intro i j hi hj
  have hb : ∀ s : Nat, (mMap ps)[s]? = some (p : Int) → ∃ q d, recR (ps[p]?.getD ByteArray.empty) = some ((s : Int), q, d) := by
    intro s hs
    have hlt : s < 26 := by
      have := mMap_len ps
      rcases Nat.lt_or_ge s 26 with h' | h'
      · exact h'
      · rw [List.getElem?_eq_none (by omega)] at hs; cases hs
    rcases mUpto_inv ps 60 s hlt with ⟨h1, -⟩ | ⟨p', q, d, -, h2, -, h4⟩
    · have h1' : (mMap ps)[s]? = some (-1) := h1
      rw [h1'] at hs; injection hs with hs; omega
    · have h2' : (mMap ps)[s]? = some (p' : Int) := h2
      rw [h2'] at hs; injection hs with hs
      have : p' = p := by omega
      subst this
      exact ⟨q, d, h4⟩
  obtain ⟨q, d, h1⟩ := hb i hi
  obtain ⟨q', d', h2⟩ := hb j hj
  rw [h1] at h2
  simp at h2
  omega

theorem lives_in {ps : List ByteArray} {B i : Nat} (h : (B : Int) * 6 + i ∈ mMap ps) : livesU (mMap ps) B (i + 1) = livesU (mMap ps) B i ++ [(B : Int) * 6 + i] := by
  have e : ((B * 6 + i : Nat) : Int) = (B : Int) * 6 + i := by omega
  have := filter_one (map_one ps (B * 6 + i))
  rw [e, if_pos h] at this
  rw [livesU, this]
theorem lives_out {ps : List ByteArray} {B i : Nat} (h : (B : Int) * 6 + i ∉ mMap ps) : livesU (mMap ps) B (i + 1) = livesU (mMap ps) B i := by
  have e : ((B * 6 + i : Nat) : Int) = (B : Int) * 6 + i := by omega
  have := filter_one (map_one ps (B * 6 + i))
  rw [e, if_neg h] at this
  rw [livesU, this, List.append_nil]

/-- Lives of whatever came in. -/
def livesOf (ps : List ByteArray) (ws ms : List Int) (q b : Int) : List Int := if ftlOkB ps ws ms q = true ∧ 0 ≤ b ∧ b ≤ 9 then livesU ms b.toNat 6 else []
theorem livesOf_len (ps : List ByteArray) (ws ms : List Int) (q b : Int) : (livesOf ps ws ms q b).length ≤ 1000 := by
  unfold livesOf
  split
  · rename_i h
    obtain ⟨-, rfl, -⟩ := ftlOk_parts h.1
    have := livesU_len (mMap ps) b.toNat 6
    rw [mMap_len] at this
    omega
  · simp

set_option maxRecDepth 100000 in
set_option maxHeartbeats 3200000 in
theorem livesIn_any (e0 : Option Addr) (ps : List ByteArray) (f B : Nat) (w : World) (hms : Rd w e0 (vsInt (mMap ps))) (hB10 : B < 10) :
    Calls Tryz.prog 114 #[.slice e0 (mMap ps).length f, .int .i64 B] w fun e w' => ∃ v, e = .returned v ∧ IntsOwn w' w.heap.size v (livesU (mMap ps) B 6) ∧ Below w.heap.size w w' := by
  obtain ⟨i2, hi2, hz0, hz1, hz2⟩ := info_parts infoInt
  have HMS := hide hms
  clear hms
  go_enter Tryz.func114, Tryz.ntmps114
  go_wp2
  go_loopw [5, 8] (fun v i wr => ∃ k : Nat, k ≤ 6 ∧ i = .int .i64 k ∧ wr.ownsRow w.heap.size 3 1 v (livesU (mMap ps) B k).length (vsInt (livesU (mMap ps) B k)) ∧ Below w.heap.size w wr) (fun _ i _ => 6 - (intOf i).toNat)
  case atStart => exact ⟨0, Nat.zero_le _, rfl, World.ownsRow_nil _ _ _ _, Below.refl _ _⟩
  case round =>
    obtain ⟨k, hk, rfl, hown, hbr⟩ := hrel
    have hsr := hbr.size
    by_cases hlt : k < 6
    · have hll : (livesU (mMap ps) B k).length ≤ 156 := by
        have := livesU_len (mMap ps) B k
        rw [mMap_len] at this
        omega
      have HC := hide (containsInt_any e0 (mMap ps) f ((B : Int) * 6 + k) wr (HMS.out.below hbr) (by rw [mMap_len]; decide))
      by_cases hmem : (B : Int) * 6 + k ∈ mMap ps
      · rw [show decide ((B : Int) * 6 + k ∈ mMap ps) = true by simpa using hmem] at HC
        have HE := hide (lives_in hmem)
        clear hmem
        go_wp2_with (first | (go_at_call 113; refine HC.out.mono ?_; rintro e u ⟨rfl, hu⟩; have hu' := hu.symm; subst hu'; clear HC hu) | (at_builtin; go_must (refine wpList_append_one rfl _ _ 23 rfl w.heap.size 3 i2 (.int .i64 0) 8 Tryz.underlying23 hi2 hz0 hz1 hz2 rfl _ _ _ (.int .i64 ((B : Int) * 6 + k)) rfl hown rfl rfl (by omega) (by omega) hsr rfl ?_); intro v' u3 hown' hb'))
        go_roundw
        case rel => exact ⟨k + 1, by omega, by go_num, by rw [HE.out]; simpa using hown', hbr.trans hb'⟩
        case measure => simp [intOf]; omega
      · rw [show decide ((B : Int) * 6 + k ∈ mMap ps) = false by simpa using hmem] at HC
        have HE := hide (lives_out hmem)
        have HOWN := hide hown
        clear hmem hown
        go_wp2_with (first | (go_at_call 113; refine HC.out.mono ?_; rintro e u ⟨rfl, hu⟩; have hu' := hu.symm; subst hu'; clear HC hu))
        go_roundw
        case rel => exact ⟨k + 1, by omega, by go_num, by rw [HE.out]; exact HOWN.out, hbr⟩
        case measure => simp [intOf]; omega
    · obtain rfl : k = 6 := by omega
      have HOWN := hide hown
      clear hown
      go_wp2
      go_ret
      exact ⟨_, rfl, HOWN.out, hbr⟩

end Go.Proofs.YtdicjbabnknjhaaGreat

namespace Go.Proofs.YtdicjbabnknjhaaGreat
open Go.RowKit Go.Shelf

attribute [local go_sem] Oper.semAt_some

theorem cells_set {W : World} {p : Nat} {arr : Array Value} {t : TypeId} (h : W.heap[p]? = some (.cells arr t (0, 0))) (i : Nat) (v : Value) : (W.setCell ⟨p, i, none⟩ v).heap[p]? = some (.cells (arr.setIfInBounds i v) t (0, 0)) := by
  obtain ⟨hlt, hk⟩ := Array.getElem?_eq_some_iff.1 h
  show (W.heap.modify p _)[p]? = _
  rw [Array.getElem?_eq_getElem (by rw [Array.size_modify]; exact hlt), Array.getElem_modify_self, hk]
  rfl
theorem cells_cell {W : World} {p : Nat} {arr : Array Value} {t : TypeId} (h : W.heap[p]? = some (.cells arr t (0, 0))) {i : Nat} {v : Value} (hi : arr[i]? = some v) : W.cell? ⟨p, i, none⟩ = some v := by simp [World.cell?, h, hi]
theorem cells_frozen {W : World} {p : Nat} {arr : Array Value} {t : TypeId} (h : W.heap[p]? = some (.cells arr t (0, 0))) (i : Nat) : W.frozen? ⟨p, i, none⟩ = false := by simp [World.frozen?, h]
theorem cells_kept {A C : World} {row : Option Nat} {p : Nat} {arr : Array Value} {t : TypeId} (h : A.heap[p]? = some (.cells arr t (0, 0))) (hg : A.grownBy C row) (hr : ∀ r, row = some r → ∃ o : Obj, A.heap[r]? = some o ∧ o.isCells = false) : C.heap[p]? = some (.cells arr t (0, 0)) := by
  refine (hg.block p (Array.getElem?_eq_some_iff.1 h).1 (fun e => ?_)).trans h
  obtain ⟨o, ho, hc⟩ := hr p e.symm
  rw [h] at ho; cases ho; cases hc
theorem cells_app {W w1 : World} {Bf p N0 size k : Nat} {v v' : Value} {arr : Array Value} {t e : TypeId} {xs : List Value} {tmp : Obj} (h : W.heap[p]? = some (.cells arr t (0, 0))) (hp : p < N0) (hr : W.ownsRow N0 e size v k xs) (hgrow : (W.alloc tmp).grownBy w1 v.ownBlock) (hne : Bf ≠ p) : (w1.setCell ⟨Bf, 0, none⟩ v').heap[p]? = some (.cells arr t (0, 0)) := by
  have hl := (Array.getElem?_eq_some_iff.1 h).1
  rw [heap_setCell_other w1 ⟨Bf, 0, none⟩ p v' (fun e => hne e.symm), hgrow.block p (by simp; omega) (fun e => by have := (hr.lt p e.symm).1; omega), Below.heap_alloc W _ p hl]
  exact h
theorem keeps_below {B : Nat} {W W' : World} (h : Below W.heap.size W W') : KeepsFrom B W W' :=
  ⟨h.size, fun k _ _ hk _ => (h.block k (Array.getElem?_eq_some_iff.1 hk).1).trans hk⟩

/-- The array 'lives' at block p. -/
def LvA (W : World) (p : Nat) (lv : Nat → Int) : Prop := ∃ arr : Array Value, W.heap[p]? = some (.cells arr 133 (0, 0)) ∧ arr.size = 10 ∧ ∀ i, i < 10 → arr[i]? = some (.int .i64 (lv i))

/-- What holds between two blocks. -/
def WorI (ps : List ByteArray) (ms : List Int) (n : Int) (w : World) (N0 B0 B1 Bl Bu Bn : Nat) (F0 : Array Value) (x y : Value) (pre : List (Fin 10)) (W : World) : Prop :=
  ((∃ v, Boxed W Bu 23 v ∧ W.ownsRow N0 3 1 v (usedL ps n pre).length (vsInt (usedL ps n pre)) ∧ True) ∧ W.heap[Bn]? = some (.cells #[x, y] 32 (0, 0)) ∧ W.heap[B0]? = some (.cells F0 34 (0, 0)) ∧ Boxed W B1 3 (.int .i64 n) ∧ LvA W Bl (lvL ps ms n pre)) ∧ Below w.heap.size w W

theorem worI_own (ps : List ByteArray) (ms : List Int) (n : Int) (w : World) (N0 B0 B1 Bl Bu Bn : Nat) (F0 : Array Value) (x y : Value) (B : Nat) (hB : w.heap.size ≤ B) : OwnFrom B (WorI ps ms n w N0 B0 B1 Bl Bu Bn F0 x y) := by
  refine OwnFrom.and (Own.from ?_ _) (ownFrom_below (Nat.le_refl _) hB)
  intro s A C row hs hg hr
  obtain ⟨h1, h2, h3, h4, arr, h5, h6⟩ := hs
  exact ⟨(holdsRow_own N0 Bu 23 3 1 (fun pre => (usedL ps n pre).length) (fun pre => vsInt (usedL ps n pre)) (fun _ _ => True)) s A C row h1 hg hr, cells_kept h2 hg hr, cells_kept h3 hg hr, cells_kept h4 hg hr, arr, cells_kept h5 hg hr, h6⟩

theorem lv_set {arr : Array Value} {ps : List ByteArray} {ms : List Int} {n : Int} {pre : List (Fin 10)} {x : Fin 10} (hsz : arr.size = 10) (harr : ∀ i, i < 10 → arr[i]? = some (.int .i64 (lvL ps ms n pre i))) (hu : usd ps n x.val = true) : ∀ i, i < 10 → (arr.setIfInBounds x.val (.int .i64 ((livesU ms x.val 6).length : Int)))[i]? = some (.int .i64 (lvL ps ms n (pre ++ [x]) i)) := by
  intro i hi
  by_cases h : x.val = i
  · subst h
    rw [lvL_hit pre hu]
    simp [hsz]
  · rw [lvL_other pre h, Array.getElem?_setIfInBounds_ne h]
    exact harr i hi

theorem worI_miss {ps : List ByteArray} {ms : List Int} {n : Int} {w : World} {N0 B0 B1 Bl Bu Bn : Nat} {F0 : Array Value} {x y : Value} {pre : List (Fin 10)} {z : Fin 10} {W : World} (h : WorI ps ms n w N0 B0 B1 Bl Bu Bn F0 x y pre W) (hu : usd ps n z.val = false) : WorI ps ms n w N0 B0 B1 Bl Bu Bn F0 x y (pre ++ [z]) W := by
  obtain ⟨⟨⟨v, hv, hrow, -⟩, h2, h3, h4, arr, h5, h6, h7⟩, hB⟩ := h
  exact ⟨⟨⟨v, hv, by rw [usedL_miss pre hu]; exact hrow, trivial⟩, h2, h3, h4, arr, h5, h6, fun i hi => by rw [lvL_miss pre hu]; exact h7 i hi⟩, hB⟩

/-- The lives of a block are counted, and noted. -/
theorem worI_step {W u1 : World} {Bl Bu Bn B0 B1 N0 n0 k : Nat} {v z : Value} {arr F0 G0 : Array Value} {t : TypeId} {xs : List Value} {n : Value} (i : Nat) (hb : Below W.heap.size W u1) (hv : Boxed W Bu 23 v) (hrow : W.ownsRow N0 3 1 v k xs) (hbn : W.heap[Bn]? = some (.cells G0 32 (0, 0))) (hb0 : W.heap[B0]? = some (.cells F0 t (0, 0))) (hb1 : Boxed W B1 3 n) (hbl : W.heap[Bl]? = some (.cells arr 133 (0, 0)))
    (hN : Bl < N0) (hn0 : n0 ≤ W.heap.size) (hnl : n0 ≤ Bl) (hu : Bu ≠ Bl) (h1 : Bn ≠ Bl) (h2 : B0 ≠ Bl) (h3 : B1 ≠ Bl) :
    ∃ U2, U2 = u1.setCell ⟨Bl, i, none⟩ z ∧ Boxed U2 Bu 23 v ∧ U2.ownsRow N0 3 1 v k xs ∧ U2.heap[Bn]? = some (.cells G0 32 (0, 0)) ∧ U2.heap[B0]? = some (.cells F0 t (0, 0)) ∧ Boxed U2 B1 3 n ∧ U2.heap[Bl]? = some (.cells (arr.setIfInBounds i z) 133 (0, 0)) ∧ Below n0 W U2 ∧ (∀ B, KeepsFrom B W U2) ∧ W.heap.size ≤ U2.heap.size := by
  have kp : ∀ {p : Nat} {o : Obj}, W.heap[p]? = some o → p ≠ Bl → (u1.setCell ⟨Bl, i, none⟩ z).heap[p]? = some o := fun {p o} h hne =>
    (heap_setCell_other u1 ⟨Bl, i, none⟩ p z (fun e => hne e)).trans ((hb.block p (Array.getElem?_eq_some_iff.1 h).1).trans h)
  have hbU : Below n0 W (u1.setCell ⟨Bl, i, none⟩ z) := (hb.mono hn0).setCell (p := ⟨Bl, i, none⟩) hnl z
  exact ⟨_, rfl, kp hv hu, ownsRow_setCell_below (owns_below hrow hb) hN z, kp hbn h1, kp hb0 h2, kp hb1 h3, cells_set ((hb.block Bl (Array.getElem?_eq_some_iff.1 hbl).1).trans hbl) i z, hbU, fun B => (keeps_below hb).trans ((KeepsOthers.setCell u1 _ _).from B), hbU.size⟩

set_option maxRecDepth 100000 in
set_option maxHeartbeats 12000000 in
theorem implWorstOf_ok (a b e0 : Option Addr) (ps : List ByteArray) (ws : List Int) (c d f : Nat) (q : Int) (w : World) (hp : Rd w a (vsString ps)) (hw : Rd w b (vsInt ws)) (hms : Rd w e0 (vsInt (mMap ps))) (hok : chipOkP ps ws) (hcap : 60 ≤ c) :
    Calls Tryz.prog 95 #[.agg #[.slice a ps.length c, .slice b ws.length d, .slice e0 (mMap ps).length f, .int .i64 q]] w fun e w' => e = .returned (.int .i64 (worstB ps ws (mMap ps))) ∧ Below w.heap.size w w' := by
  obtain ⟨i0, hi, hz0, hz1, hz2⟩ := info_parts infoInt
  have hmf : ∀ (fn : Fn) (first cap : Array Value) (w : World), (Instr.makeFunc fn first cap).run Tryz.prog w = .ok (.func fn first cap) w := fun _ _ _ _ => rfl
  obtain ⟨R, hR⟩ : ∃ R, R = worstB ps ws (mMap ps) := ⟨_, rfl⟩
  rw [← hR]
  obtain ⟨n, hn⟩ : ∃ n, n = nextP ps ws := ⟨_, rfl⟩
  have hnb := nextP_bd ps ws
  have HR : Hid (R = worstB ps ws (mMap ps)) := hR
  clear hR
  have HRM := hide (HR.out.trans (worstB_min (ms := mMap ps) hok.1))
  rw [← hn] at HRM hnb
  obtain ⟨ba, oa, rfl, -⟩ := rd_at (k := 0) hp (by have := hok.1; simp; omega)
  obtain ⟨W1, hW1⟩ : ∃ W1, W1 = w.alloc (Obj.cells #[.slice (some ⟨ba, oa, none⟩) ps.length c, .slice b ws.length d, .slice e0 (mMap ps).length f, .int .i64 q] 34) := ⟨_, rfl⟩
  have hs1 : W1.heap.size = w.heap.size + 1 := by rw [hW1]; simp
  have hbW1 : Below w.heap.size w W1 := by rw [hW1]; exact (Below.refl _ _).alloc (Nat.le_refl _) _
  have f0 : W1.heap[w.heap.size]? = some (.cells #[.slice (some ⟨ba, oa, none⟩) ps.length c, .slice b ws.length d, .slice e0 (mMap ps).length f, .int .i64 q] 34 (0, 0)) := by rw [hW1]; exact World.alloc_heap_new w _
  have HNX := hide (implNext_ok (some ⟨ba, oa, none⟩) b ps ws c d W1 (hp.below hbW1) (hw.below hbW1) hok hcap)
  rw [← hn] at HNX
  have x0 := cells_cell f0 (i := 0) (v := .slice (some ⟨ba, oa, none⟩) ps.length c) rfl
  have x1 := cells_cell f0 (i := 1) (v := .slice b ws.length d) rfl
  have HF0 := hide f0
  have HP := hide hp
  have HW := hide hw
  have HMS := hide hms
  have HOK := hide hok
  have HL := hide hok.1
  have hl60 : ps.length ≤ 60 := by have := hok.1; omega
  clear hp hw hms hok f0 hn
  refine (callsIn_wide (n := 3)).1 ?_
  refine callsIn_of_wp_marks Tryz.func95 rfl trivial ?_ rfl
  simp only [Tryz.ntmps95, List.size_toArray, List.length_cons, List.length_nil, Nat.reduceAdd, Nat.reduceSub, Array.replicate_succ, Array.replicate_zero, List.push_toArray, List.append_toArray, List.nil_append, List.cons_append]
  gi_wp2_with (rw [← hW1]; clear hW1)
  refine ⟨trivial, ?_⟩
  refine (callsIn_wide.2 HNX.out).mono ?_
  rintro e u ⟨rfl, hbu⟩
  obtain ⟨A1, hA1⟩ : ∃ A, A = u.alloc (Obj.cells #[.int .i64 n] 3) := ⟨_, rfl⟩
  obtain ⟨A2, hA2⟩ : ∃ A, A = A1.alloc (Obj.cells #[.int .i64 0, .int .i64 0, .int .i64 0, .int .i64 0, .int .i64 0, .int .i64 0, .int .i64 0, .int .i64 0, .int .i64 0, .int .i64 0] 133) := ⟨_, rfl⟩
  obtain ⟨A3, hA3⟩ : ∃ A, A = A2.alloc (Obj.cells #[.slice none 0 0] 23) := ⟨_, rfl⟩
  obtain ⟨V, hV⟩ : ∃ V, V = A3.alloc (Obj.cells #[.slice (some ⟨ba, oa, none⟩) ps.length c, .slice b ws.length d] 32) := ⟨_, rfl⟩
  have hz1' : A1.heap.size = u.heap.size + 1 := by rw [hA1]; simp
  have hz2' : A2.heap.size = u.heap.size + 1 + 1 := by rw [hA2]; simp [hz1']
  have hz3' : A3.heap.size = u.heap.size + 1 + 1 + 1 := by rw [hA3]; simp [hz2']
  have hsV : V.heap.size = u.heap.size + 1 + 1 + 1 + 1 := by rw [hV]; simp [hz3']
  have g1 : Below u.heap.size u A1 := by rw [hA1]; exact (Below.refl _ _).alloc (Nat.le_refl _) _
  have g2 : Below A1.heap.size A1 A2 := by rw [hA2]; exact (Below.refl _ _).alloc (Nat.le_refl _) _
  have g3 : Below A2.heap.size A2 A3 := by rw [hA3]; exact (Below.refl _ _).alloc (Nat.le_refl _) _
  have g4 : Below A3.heap.size A3 V := by rw [hV]; exact (Below.refl _ _).alloc (Nat.le_refl _) _
  have guV : Below u.heap.size u V := after (after (after g1 g2) g3) g4
  have hsu := hbu.size
  have b0 : V.heap[w.heap.size]? = some (.cells #[.slice (some ⟨ba, oa, none⟩) ps.length c, .slice b ws.length d, .slice e0 (mMap ps).length f, .int .i64 q] 34 (0, 0)) := (guV.block _ (by omega)).trans ((hbu.block _ (by omega)).trans HF0.out)
  have b1 : Boxed V u.heap.size 3 (.int .i64 n) := by
    have h1 : Boxed A1 u.heap.size 3 (.int .i64 n) := by rw [hA1]; exact Boxed.new _ _ _
    exact ((after (after g2 g3) g4).block _ (by omega)).trans h1
  have bl : V.heap[u.heap.size + 1]? = some (.cells #[.int .i64 0, .int .i64 0, .int .i64 0, .int .i64 0, .int .i64 0, .int .i64 0, .int .i64 0, .int .i64 0, .int .i64 0, .int .i64 0] 133 (0, 0)) := by
    have h1 := World.alloc_heap_new A1 (Obj.cells #[.int .i64 0, .int .i64 0, .int .i64 0, .int .i64 0, .int .i64 0, .int .i64 0, .int .i64 0, .int .i64 0, .int .i64 0, .int .i64 0] 133)
    rw [← hA2, hz1'] at h1
    exact ((after g3 g4).block _ (by omega)).trans h1
  have bu : Boxed V (u.heap.size + 1 + 1) 23 (.slice none 0 0) := by
    have h1 := Boxed.new A2 23 (.slice none 0 0)
    rw [← hA3, hz2'] at h1
    exact (g4.block _ (by omega)).trans h1
  have bn : V.heap[u.heap.size + 1 + 1 + 1]? = some (.cells #[.slice (some ⟨ba, oa, none⟩) ps.length c, .slice b ws.length d] 32 (0, 0)) := by
    have h1 := World.alloc_heap_new A3 (Obj.cells #[.slice (some ⟨ba, oa, none⟩) ps.length c, .slice b ws.length d] 32)
    rw [← hV, hz3'] at h1
    exact h1
  have hbV : Below w.heap.size w V := after (after hbW1 hbu) guV
  have y0 : A3.cell? ⟨w.heap.size, 0, none⟩ = some (.slice (some ⟨ba, oa, none⟩) ps.length c) := ((after (after g1 g2) g3).cell (p := ⟨w.heap.size, 0, none⟩) (show w.heap.size < u.heap.size by omega)).trans ((hbu.cell (p := ⟨w.heap.size, 0, none⟩) (show w.heap.size < W1.heap.size by omega)).trans x0)
  have y1 : A3.cell? ⟨w.heap.size, 1, none⟩ = some (.slice b ws.length d) := ((after (after g1 g2) g3).cell (p := ⟨w.heap.size, 1, none⟩) (show w.heap.size < u.heap.size by omega)).trans ((hbu.cell (p := ⟨w.heap.size, 1, none⟩) (show w.heap.size < W1.heap.size by omega)).trans x1)
  have HST := hide (blocks_stops (3 - 1) (by decide) (u.heap.size + 1 + 1 + 1) w.heap.size ba oa b ps ws c d V bn (HP.out.below hbV) (HW.out.below hbV) HOK.out hcap)
  have HBO := hide (blocksOf_any (some ⟨ba, oa, none⟩) b ps.length ws.length c d A3)
  rw [← hV, hz3'] at HBO
  have HBV := hide hbV
  clear x0 x1 HF0 HNX g1 g2 g3 g4 guV hbu hbV
  gi_wp2_with (first | (rw [← hA1, ← hA2, ← hA3]; clear hA1 hA2 hA3) | (refine ⟨trivial, ?_⟩; gi_at_call 117; refine (callsIn_wide.2 HBO.out).mono ?_; rintro e u1 ⟨rfl, hu⟩; have hu' := hu.symm; subst hu') | (gi_at_call 117; refine (callsIn_wide.2 HBO.out).mono ?_; rintro e u1 ⟨rfl, hu⟩; have hu' := hu.symm; subst hu'))
  rw [← hV]
  clear hV HBO hu y0 y1
  have hlv0 : LvA V (u.heap.size + 1) (lvL ps (mMap ps) n []) := by
    refine ⟨_, bl, rfl, fun i hi => ?_⟩
    rw [lvL_nil]
    match i, hi with
    | 0, _ => rfl
    | 1, _ => rfl
    | 2, _ => rfl
    | 3, _ => rfl
    | 4, _ => rfl
    | 5, _ => rfl
    | 6, _ => rfl
    | 7, _ => rfl
    | 8, _ => rfl
    | 9, _ => rfl
  refine wpIn_rangeFunc_ownG (F := Fence.wide) (n := 3) rfl (by decide) (gf := 135) (lb := #[.pointer (some ⟨u.heap.size + 1 + 1 + 1, 0, none⟩)]) rfl trivial (enters_of Tryz.func135 (by kernel_rfl) rfl)
    HST.out kpB_t (kpB_b (by omega) (by omega)) (Below.refl _ _) (fun _ => rfl)
    (WorI ps (mMap ps) n w V.heap.size w.heap.size u.heap.size (u.heap.size + 1) (u.heap.size + 1 + 1) (u.heap.size + 1 + 1 + 1) #[.slice (some ⟨ba, oa, none⟩) ps.length c, .slice b ws.length d, .slice e0 (mMap ps).length f, .int .i64 q] (.slice (some ⟨ba, oa, none⟩) ps.length c) (.slice b ws.length d)) (fun _ _ _ => False)
    (worI_own ps _ n w _ _ _ _ _ _ _ _ _ _ (by omega)) (fun _ _ _ _ _ hs _ _ => hs)
    ⟨⟨⟨_, bu, World.ownsRow_nil _ _ _ _, trivial⟩, bn, b0, b1, hlv0⟩, HBV.out⟩
    (fun x => { tmps := #[.agg #[.slice (some ⟨ba, oa, none⟩) ps.length c, .slice b ws.length d, .slice e0 (mMap ps).length f, .int .i64 q], .pointer (some ⟨w.heap.size, 0, none⟩), .int .i64 0, .pointer (some ⟨u.heap.size, 0, none⟩), .pointer (some ⟨u.heap.size + 1, 0, none⟩), .pointer (some ⟨u.heap.size + 1 + 1, 0, none⟩), .int .i64 ((x.val : Nat) : Int), .slice (some ⟨ba, oa + x.val * 6, none⟩) 6 (c - x.val * 6), undef, .pointer (some ⟨w.heap.size, 0, none⟩), .agg #[.slice (some ⟨ba, oa, none⟩) ps.length c, .slice b ws.length d], .int .i64 n, .pointer (some ⟨w.heap.size, 0, none⟩), .agg #[.slice (some ⟨ba, oa, none⟩) ps.length c, .slice b ws.length d], .func (.func 135) #[] #[.pointer (some ⟨u.heap.size + 1 + 1 + 1, 0, none⟩)], .int .i64 ((x.val : Nat) : Int), .slice (some ⟨ba, oa + x.val * 6, none⟩) 6 (c - x.val * 6), undef, undef, undef, undef, undef, undef, undef, undef, undef, undef, undef, undef, undef, undef, undef, undef, undef, undef, undef, undef, undef, undef, undef, undef, undef, undef, undef, undef, undef], defers := [] }) ?assign ?body ?done ?stop
  case assign =>
    intro l x W K hK
    simp only [encB]
    gi_wp2
    exact hK
  case body =>
    rintro l pre x W hI hlt
    obtain ⟨⟨⟨v, hv, hrow, -⟩, hbn, hb0, hb1, arr, hbl, hsz, harr⟩, hB⟩ := id hI
    have HI := hide hI
    have hx10 := x.isLt
    have HAC := hide (allClear_any (some ⟨ba, oa + x.val * 6, none⟩) (pagesOf ps x.val) (c - x.val * 6) W (rd_pages x.val (HP.out.below hB)) (by rw [pagesOf_len HL.out x.isLt]; decide))
    rw [pagesOf_len HL.out x.isLt] at HAC
    have HIN := hide (inBlock_any n ((x.val : Nat) : Int) W hnb.1 hnb.2 (by omega) (by omega))
    have k1 := hb1.cell
    clear bl bu bn b0 b1 HST hlv0 hI
    cases hcl : allClrB (pagesOf ps x.val) with
    | true =>
      have HE := hide (worI_miss (z := x) HI.out (by simp [usd, hcl]))
      rw [hcl] at HAC
      clear hcl HI hv hrow hbn hb0 hb1 hbl harr
      gi_wp2_with (first
        | (refine ⟨trivial, ?_⟩; gi_at_call 118; refine (CallsIn.inRound l (callsIn_wide.2 HAC.out)).mono ?_; rintro e u ⟨rfl, hu⟩; have hu' := hu.symm; subst hu'; clear HAC)
        | (gi_at_call 118; refine (CallsIn.inRound l (callsIn_wide.2 HAC.out)).mono ?_; rintro e u ⟨rfl, hu⟩; have hu' := hu.symm; subst hu'; clear HAC))
      refine ⟨trivial, ?_⟩
      gi_wp2
      exact ⟨KeepsFrom.refl _ _, KpB.refl _ _ _, HE.out⟩
    | false =>
      rw [hcl] at HAC
      cases hin : inB n ((x.val : Nat) : Int) with
      | true =>
        have HE := hide (worI_miss (z := x) HI.out (by simp [usd, hin]))
        rw [hin] at HIN
        clear hcl hin HI hv hrow hbn hb0 hb1 hbl harr
        gi_wp2_with (first
        | (refine ⟨trivial, ?_⟩; gi_at_call 118; refine (CallsIn.inRound l (callsIn_wide.2 HAC.out)).mono ?_; rintro e u ⟨rfl, hu⟩; have hu' := hu.symm; subst hu'; clear HAC)
        | (gi_at_call 118; refine (CallsIn.inRound l (callsIn_wide.2 HAC.out)).mono ?_; rintro e u ⟨rfl, hu⟩; have hu' := hu.symm; subst hu'; clear HAC)
        | (refine ⟨trivial, ?_⟩; gi_at_call 115; refine (CallsIn.inRound l (callsIn_wide.2 HIN.out)).mono ?_; rintro e u ⟨rfl, hu⟩; have hu' := hu.symm; subst hu'; clear HIN)
        | (gi_at_call 115; refine (CallsIn.inRound l (callsIn_wide.2 HIN.out)).mono ?_; rintro e u ⟨rfl, hu⟩; have hu' := hu.symm; subst hu'; clear HIN))
        exact ⟨KeepsFrom.refl _ _, KpB.refl _ _ _, HE.out⟩
      | false =>
        have hus : usd ps n x.val = true := by simp [usd, hcl, hin]
        rw [hin] at HIN
        have HLI := hide (livesIn_any e0 ps f x.val W (HMS.out.below hB) hx10)
        have z2 := cells_cell hb0 (i := 2) (v := .slice e0 (mMap ps).length f) rfl
        have hlW := hv.lt
        have hpl := usedL_len ps n pre
        have HARR := hide (lv_set hsz harr hus)
        have HUL := hide (usedL_hit (ps := ps) (n := n) pre hus)
        have hax := harr x.val hx10
        have HST2 : Hid (∀ (u1 : World), Below W.heap.size W u1 → _) := fun u1 hb => worI_step (z := .int .i64 ((livesU (mMap ps) x.val 6).length : Int)) (n0 := w.heap.size) x.val hb hv hrow hbn hb0 hb1 hbl (show _ < V.heap.size by omega) hB.size (by omega) (by omega) (by omega) (by omega) (by omega)
        have HBLK := hide hbl
        have HBN := hide hbn
        clear hcl hin hus HI hv hrow hbn hb0 hb1 hbl harr
        gi_wp2_with (first
          | (rw [← hU2]; clear hU2 k3 k4)
          | (refine ⟨trivial, ?_⟩; gi_at_call 118; refine (CallsIn.inRound l (callsIn_wide.2 HAC.out)).mono ?_; rintro e u ⟨rfl, hu⟩; have hu' := hu.symm; subst hu'; clear HAC)
          | (gi_at_call 118; refine (CallsIn.inRound l (callsIn_wide.2 HAC.out)).mono ?_; rintro e u ⟨rfl, hu⟩; have hu' := hu.symm; subst hu'; clear HAC)
          | (refine ⟨trivial, ?_⟩; gi_at_call 115; refine (CallsIn.inRound l (callsIn_wide.2 HIN.out)).mono ?_; rintro e u ⟨rfl, hu⟩; have hu' := hu.symm; subst hu'; clear HIN)
          | (gi_at_call 115; refine (CallsIn.inRound l (callsIn_wide.2 HIN.out)).mono ?_; rintro e u ⟨rfl, hu⟩; have hu' := hu.symm; subst hu'; clear HIN)
          | (refine ⟨trivial, ?_⟩; (gi_at_call 114; refine (CallsIn.inRound l (callsIn_wide.2 HLI.out)).mono ?_; rintro e u1 ⟨v1, rfl, hown1, hbu1⟩; obtain ⟨fa, fc, hv1⟩ := owns_shape hown1; subst hv1; have k3 : u1.cell? ⟨u.heap.size + 1, x.val, none⟩ = some (.int .i64 (lvL ps (mMap ps) n pre x.val)) := cells_cell ((hbu1.block (u.heap.size + 1) (by omega)).trans HBLK.out) hax; have k4 : u1.frozen? ⟨u.heap.size + 1, x.val, none⟩ = false := cells_frozen ((hbu1.block (u.heap.size + 1) (by omega)).trans HBLK.out) x.val; obtain ⟨U2, hU2, hvU, hrowU, hbnU, hb0U, hb1U, hblU, hBU, hKU, hszU⟩ := HST2.out u1 hbu1; have HRU := hide (And.intro hvU hrowU); have HHU := hide (And.intro hbnU (And.intro hb0U (And.intro hb1U hblU))); have HBU := hide hBU; have HKU := hide hKU; have hcU := hvU.cell; clear hown1 hbu1 hbnU hb0U hb1U hblU hBU hKU hvU hrowU HLI))
          | (gi_at_call 114; refine (CallsIn.inRound l (callsIn_wide.2 HLI.out)).mono ?_; rintro e u1 ⟨v1, rfl, hown1, hbu1⟩; obtain ⟨fa, fc, hv1⟩ := owns_shape hown1; subst hv1; have k3 : u1.cell? ⟨u.heap.size + 1, x.val, none⟩ = some (.int .i64 (lvL ps (mMap ps) n pre x.val)) := cells_cell ((hbu1.block (u.heap.size + 1) (by omega)).trans HBLK.out) hax; have k4 : u1.frozen? ⟨u.heap.size + 1, x.val, none⟩ = false := cells_frozen ((hbu1.block (u.heap.size + 1) (by omega)).trans HBLK.out) x.val; obtain ⟨U2, hU2, hvU, hrowU, hbnU, hb0U, hb1U, hblU, hBU, hKU, hszU⟩ := HST2.out u1 hbu1; have HRU := hide (And.intro hvU hrowU); have HHU := hide (And.intro hbnU (And.intro hb0U (And.intro hb1U hblU))); have HBU := hide hBU; have HKU := hide hKU; have hcU := hvU.cell; clear hown1 hbu1 hbnU hb0U hb1U hblU hBU hKU hvU hrowU HLI)
          | (gi_at_builtin; refine wpListIn_append_own _ rfl _ _ 23 rfl V.heap.size 3 i0 (.int .i64 0) 1 8 Tryz.underlying23 hi hz0 hz1 hz2 rfl (by decide) _ _ _ rfl (HRU.out.2.alloc _) ⟨U2.heap.size, 0, none⟩ 1 1 [.int .i64 ((x.val : Nat) : Int)] rfl rfl (cell_one_new _ _ _) (by simp [Value.oneCell']) (by unfold maxLen; omega) (by omega) (by simp; omega) ?_; intro v' w1 hown' hgrow _; obtain ⟨g', cap', rfl⟩ := ownsRow_succ hown'; obtain ⟨hv1, hv2, hr2, hk2, hb2⟩ := HRU.out.1.appended (by decide) (owns_mono HRU.out.2 (show w.heap.size ≤ V.heap.size by omega)) (show w.heap.size ≤ U2.heap.size by omega) (by omega) (owns_mono hown' (show w.heap.size ≤ V.heap.size by omega)) hgrow; have hc1 := hv1.cell; have hf1 := hv1.frozen))
        have hbk := cells_app (Bf := u.heap.size + 1 + 1) (v' := .slice (some ⟨g', 0, none⟩) ((usedL ps n pre).length + 1) cap') HHU.out.1 (show _ < V.heap.size by omega) HRU.out.2 hgrow (by omega)
        exact ⟨(HKU.out _).trans (hk2.from _), ⟨HBU.out.trans hb2, hbk.trans HBN.out.symm⟩, ⟨⟨_, hv2, by rw [HUL.out]; simpa using ownsRow_setCell_below hown' (a := ⟨u.heap.size + 1 + 1, 0, none⟩) (show _ < V.heap.size by simp; omega) _, trivial⟩, hbk, cells_app HHU.out.2.1 (show _ < V.heap.size by omega) HRU.out.2 hgrow (by omega), cells_app HHU.out.2.2.1 (show _ < V.heap.size by omega) HRU.out.2 hgrow (by omega), _, cells_app HHU.out.2.2.2 (show _ < V.heap.size by omega) HRU.out.2 hgrow (by omega), by rw [Array.size_setIfInBounds]; exact hsz, HARR.out⟩, hB.trans (HBU.out.trans hb2)⟩
  case done =>
    rintro D ys W hD rfl ⟨⟨⟨v, hv, hrow, -⟩, hbn, hb0, hb1, arr, hbl, hsz, harr⟩, hB⟩ hK
    have hlv : ∀ i, i < 10 → W.cell? ⟨u.heap.size + 1, i, none⟩ = some (.int .i64 (lvL ps (mMap ps) n (blk 10) i)) := fun i hi => cells_cell hbl (harr i hi)
    have k1 : W.cell? ⟨w.heap.size, 1, none⟩ = some (.slice b ws.length d) := cells_cell hb0 rfl
    have hDW : D < W.heap.size := (Array.getElem?_eq_some_iff.1 hK).1
    have hlW : u.heap.size + 1 < W.heap.size := (Array.getElem?_eq_some_iff.1 hbl).1
    have hul := usedL_len ps n (blk 10)
    rw [blk_len (Nat.le_refl _)] at hul
    obtain ⟨fa, fc, rfl⟩ := owns_shape hrow
    have hcv := hv.cell
    have HLV := hide hlv
    clear bl bu bn b0 b1 HST hlv0 hbn hb0 hb1 hbl harr hlv
    by_cases hnil : usedL ps n (blk 10) = []
    · have HRV : Hid (R = -1) := by show _ = _; rw [HRM.out, if_pos hnil]
      rw [hnil] at hcv
      clear hrow hv HRM k1 HLV
      gi_wp2
      refine ⟨by simp, .inl ⟨_, _, rfl, run_takeDeferred hK, ?_⟩⟩
      exact ⟨_, results_tmp rfl _ _ _, by rw [HRV.out]; rfl, hB.trans (belowK_b (w := w) (Nat.le_refl _) W D _ _ (by omega) hK rfl rfl)⟩
    · have hbd : ∀ x ∈ usedL ps n (blk 10), 0 ≤ x ∧ x < 10 := fun x hx => usedL_bd hx
      have hmb := minG_mem (cf := wcmp (lvL ps (mMap ps) n (blk 10)) ws) _ hbd hnil
      have hpos : 0 < (usedL ps n (blk 10)).length := List.length_pos_iff.2 hnil
      have HMN := hide (minFunc2_any (u.heap.size + 1) w.heap.size (lvL ps (mMap ps) n (blk 10)) fa b (usedL ps n (blk 10)) ws fc d W (rd_of_own hrow) hlW HLV.out k1 (HW.out.below hB) HOK.out.2.1 (by omega) hbd hnil)
      have HRV := hide (HRM.out.trans (if_neg hnil))
      obtain ⟨M, hM⟩ : ∃ M, M = minG (wcmp (lvL ps (mMap ps) n (blk 10)) ws) (usedL ps n (blk 10)) := ⟨_, rfl⟩
      rw [← hM] at hmb HMN HRV
      obtain ⟨m, rfl⟩ : ∃ m : Nat, M = m := ⟨M.toNat, by omega⟩
      rw [Int.toNat_natCast] at HRV
      have hlz : ¬ (((usedL ps n (blk 10)).length : Int) == 0) = true := by simp; omega
      have hlz' : (((usedL ps n (blk 10)).length : Int) == 0) = false := by simp; omega
      have hlm := HLV.out m (by omega)
      obtain ⟨Z, hZ⟩ : ∃ Z, Z = lvL ps (mMap ps) n (blk 10) m := ⟨_, rfl⟩
      rw [← hZ] at hlm HRV
      clear hnil hrow hv HRM k1 HLV hM hbd hZ
      gi_wp2_with fail
      refine ⟨trivial, ?_⟩
      refine (callsIn_wide.2 HMN.out).mono ?_
      rintro e u1 ⟨rfl, hbu⟩
      have hlm1 := (hbu.cell (p := ⟨u.heap.size + 1, m, none⟩) hlW).trans hlm
      have hK1 : u1.heap[D]? = some (.deferred (some [])) := (hbu.block D hDW).trans hK
      have hB1 := after hB hbu
      clear HMN hlm hbu hcv
      by_cases h6 : Z = 6
      · have HV := hide (HRV.out.trans (if_pos h6))
        subst h6
        clear HRV
        gi_wp2
        refine ⟨by simp, .inl ⟨_, _, rfl, run_takeDeferred hK1, ?_⟩⟩
        exact ⟨_, results_tmp rfl _ _ _, by rw [HV.out]; rfl, hB1.trans (belowK_b (w := w) (Nat.le_refl _) u1 D _ _ (by omega) hK1 rfl rfl)⟩
      · have HV := hide (HRV.out.trans (if_neg h6))
        have h6b : (Z == 6) = false := by simpa using h6
        clear HRV
        gi_wp2
        refine ⟨by simp, .inl ⟨_, _, rfl, run_takeDeferred hK1, ?_⟩⟩
        exact ⟨_, results_tmp rfl _ _ _, by rw [HV.out]; rfl, hB1.trans (belowK_b (w := w) (Nat.le_refl _) u1 D _ _ (by omega) hK1 rfl rfl)⟩
  case stop =>
    rintro D c pre W _ _ h _
    exact h.elim

end Go.Proofs.YtdicjbabnknjhaaGreat

namespace Go.Proofs.YtdicjbabnknjhaaGreat
open Go.RowKit

theorem implRec_fn (ps : List ByteArray) (p : Nat) (t : ByteArray) (ht : ps[p]? = some t) (hs : t.size ≤ 1048576) : ∃ (s q : Int) (d : ByteArray) (B : Bool), recC ps p = (s, q, d) ∧ ∀ u, Calls Tryz.prog 70 #[.string t] u fun e w' => e = .returned (.tuple #[.agg #[.int .i64 s, .int .i64 q, .string d], .bool B]) ∧ Below u.heap.size u w' := by
  have he : ps[p]?.getD ByteArray.empty = t := by rw [ht]; rfl
  cases hr : recR t with
  | none => exact ⟨0, 0, ByteArray.empty, false, recC_none (by rw [he]; exact hr), fun u => (implRecRead_any t u hs).mono fun e w' h => ⟨h.2.1 hr, h.2.2⟩⟩
  | some r => obtain ⟨s, q, d⟩ := r; exact ⟨s, q, d, true, recC_some (by rw [he]; exact hr), fun u => (implRecRead_any t u hs).mono fun e w' h => ⟨h.1 s q d hr, h.2.2⟩⟩

/-- What sector s of a chip that is right has. -/
def secD (ps : List ByteArray) (s : Int) : ByteArray := if 0 ≤ s ∧ s ≤ 25 then dataAt ps ((mMap ps)[s.toNat]?.getD (-1)) else ByteArray.empty
theorem sectOf_eq {ps : List ByteArray} {ws ms : List Int} {q : Int} (s : Int) (h : ftlOkB ps ws ms q = true) : sectOf ps ws ms q s = secD ps s := by
  unfold sectOf secD
  simp [h]

set_option maxRecDepth 100000 in
set_option maxHeartbeats 3200000 in
theorem implSectorOf_any (a e0 : Option Addr) (p1 : Value) (ps : List ByteArray) (c f : Nat) (q s : Int) (w : World) (hp : Rd w a (vsString ps)) (hms : Rd w e0 (vsInt (mMap ps))) (hch : ps.length = 60) (hs : ∀ s ∈ ps, s.size ≤ 1048576) :
    Calls Tryz.prog 35 #[.agg #[.slice a ps.length c, p1, .slice e0 (mMap ps).length f, .int .i64 q], .int .i64 s] w fun e w' => e = .returned (.string (secD ps s)) ∧ Below w.heap.size w w' := by
  obtain ⟨R, hR⟩ : ∃ R, R = secD ps s := ⟨_, rfl⟩
  rw [← hR]
  obtain ⟨A, hA⟩ : ∃ A, A = w.alloc (Obj.cells #[.slice a ps.length c, p1, .slice e0 (mMap ps).length f, .int .i64 q] 34) := ⟨_, rfl⟩
  have hbA : Below w.heap.size w A := by rw [hA]; exact (Below.refl _ _).alloc (Nat.le_refl _) _
  have xA : At A w.heap.size [.slice a ps.length c, p1, .slice e0 (mMap ps).length f, .int .i64 q] := by rw [hA]; exact at_new w [.slice a ps.length c, p1, .slice e0 (mMap ps).length f, .int .i64 q] _
  have x0 : A.cell? ⟨w.heap.size, 0, none⟩ = some (.slice a ps.length c) := xA.2 0 (by simp)
  have x2 : A.cell? ⟨w.heap.size, 2, none⟩ = some (.slice e0 (mMap ps).length f) := xA.2 2 (by simp)
  obtain ⟨V, hV⟩ : ∃ V, V = A.alloc (Obj.cells #[.slice e0 (mMap ps).length f] 23) := ⟨_, rfl⟩
  have hbV : Below A.heap.size A V := by rw [hV]; exact (Below.refl _ _).alloc (Nat.le_refl _) _
  have cV : V.cell? ⟨A.heap.size, 0, none⟩ = some (.slice e0 (mMap ps).length f) := by rw [hV]; simp
  have hbwV := after hbA hbV
  have z0 := (hbV.cell (p := ⟨w.heap.size, 0, none⟩) (lt_of_cell x0)).trans x0
  have HPI := hide (placeIn_any e0 (mMap ps).length f A)
  rw [← hV] at HPI
  have HRV := hide (hms.below hbwV)
  have HPV := hide (hp.below hbwV)
  have HS := hide hs
  have HCH := hide hch
  have HR0 := hide hR
  clear hR hp hms hs hch xA hbV hV hbA
  go_enter Tryz.func35, Tryz.ntmps35
  go_wp2_with fail
  rw [← hA]
  clear hA
  refine HPI.out.mono ?_
  rintro e u ⟨rfl, hu⟩
  have hu' := hu.symm
  subst hu'
  clear HPI hu x0 x2
  by_cases hin : 0 ≤ s ∧ s ≤ 25
  · obtain ⟨S, rfl⟩ : ∃ S : Nat, s = S := ⟨s.toNat, by omega⟩
    obtain ⟨o, ho, ho1, ho2⟩ := map_old (ps := ps) (k := 60) (s := S) (by omega)
    have ho' : (mMap ps)[S]? = some o := ho
    have HR : Hid (R = dataAt ps o) := by show _ = _; rw [HR0.out, secD, if_pos hin, Int.toNat_natCast, ho']; rfl
    have HPL := hide (place_in A.heap.size e0 (mMap ps) f S o V cV HRV.out (by rw [mMap_len]; decide) ho')
    clear ho ho' HR0
    go_wp2_with fail
    refine HPL.out.mono ?_
    rintro e u ⟨rfl, hu⟩
    have hu' := hu.symm
    subst hu'
    clear HPL hu
    by_cases hneg : o = -1
    · have HR2 : Hid (R = ByteArray.empty) := by show _ = _; rw [HR.out, dataAt, if_pos (by omega)]
      subst hneg
      go_wp2
      go_ret
      exact ⟨by rw [HR2.out]; rfl, hbwV⟩
    · obtain ⟨p, rfl⟩ : ∃ p : Nat, o = p := ⟨o.toNat, by omega⟩
      have HR2 : Hid (R = (recC ps p).2.2) := by show _ = _; rw [HR.out, dataAt, if_neg (by omega), Int.toNat_natCast]
      have hp60 : p < ps.length := by have := HCH.out; omega
      have hpi : (p : Int) < (ps.length : Int) := by omega
      obtain ⟨bp, op, t, rfl, hct, HT⟩ := rdString_at HPV.out hp60
      obtain ⟨s1, q1, d1, B1, he1, hcall⟩ := implRec_fn ps p t HT.out (HS.out t (List.mem_of_getElem? HT.out))
      have HC := hide (hcall V)
      have HE := hide he1
      have ht : ((p : Int) == -1) = false := by simp
      clear hcall he1 hneg
      go_wp2_with fail
      refine HC.out.mono ?_
      rintro e w2 ⟨rfl, hb2⟩
      have hbw2 := after hbwV hb2
      clear hb2 HC z0 hct
      go_wp2
      go_ret
      exact ⟨by rw [HR2.out, HE.out]; rfl, hbw2.alloc hbw2.size _⟩
  · have HR : Hid (R = ByteArray.empty) := by show _ = _; rw [HR0.out, secD, if_neg hin]
    have HPL := hide (place_out A.heap.size e0 (mMap ps) f s V cV (by rw [mMap_len]; decide) (by rw [mMap_len]; omega))
    clear HR0
    go_wp2_with fail
    refine HPL.out.mono ?_
    rintro e u ⟨rfl, hu⟩
    have hu' := hu.symm
    subst hu'
    clear HPL hu hin
    go_wp2
    go_ret
    exact ⟨by rw [HR.out]; rfl, hbwV⟩

end Go.Proofs.YtdicjbabnknjhaaGreat
