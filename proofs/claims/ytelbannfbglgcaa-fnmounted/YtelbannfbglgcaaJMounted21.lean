/-
  Acts in a row, and what becomes of a chip by them: a right chip stays one.
  What is planned, as mathematics: a record burnt, a block cleaned, room made, a plan; a right chip stays one.
  Work under way in the specification (l5Work): a block of six cells, its rows the call's own; what each store makes of it. And 'append' of one act.
-/
import Derived.Test.YtelbannfbglgcaaJMounted20
import Derived.Test.YtelbannfbglgcaaJMounted4
import Derived.Test.YtelbannfbglgcaaJMounted16
import Derived.Test.YtelbannfbglgcaaJMounted12
import Derived.Lib.OwnKind
import Derived.OneCell
namespace Go.Proofs.Ytelbannfbglgcaa
open Go.RowKit

theorem mem_set {α : Type} {l : List α} {i : Nat} {x y : α} (h : y ∈ l.set i x) : y ∈ l ∨ y = x := List.mem_or_eq_of_mem_set h
theorem wipeP_mem {ps : List ByteArray} {B : Nat} {s : ByteArray} : ∀ {m : Nat}, s ∈ wipeP ps B m → s ∈ ps ∨ s = ByteArray.empty := by
  intro m
  induction m with
  | zero => intro h; exact .inl h
  | succ m ih =>
    intro h
    rcases mem_set h with h | h
    · exact ih h
    · exact .inr h
theorem burn_right {ps : List ByteArray} {ws : List Int} {page : Int} {text : ByteArray} (hok : chipOkP ps ws) : chipOkP (burnP ps ws page text) (burnW ps ws) := by
  by_cases hy : burnOk ps page text
  · have e1 : burnP ps ws page text = ps.set page.toNat text := by simp [burnP, hok, hy]
    have e2 : burnW ps ws = ws := by simp [burnW, hok]
    rw [e1, e2]
    refine ⟨by rw [List.length_set]; exact hok.1, hok.2.1, fun s h => ?_, hok.2.2.2⟩
    rcases mem_set h with h | h
    · exact hok.2.2.1 s h
    · rw [h]; exact hy.2.2.2.2
  · have e1 : burnP ps ws page text = ps := by simp [burnP, hok, hy]
    have e2 : burnW ps ws = ws := by simp [burnW, hok]
    rw [e1, e2]; exact hok
theorem clear_right {ps : List ByteArray} {ws : List Int} {block : Int} (hok : chipOkP ps ws) : chipOkP (clearP ps ws block) (clearW ps ws block) := by
  by_cases hy : clearOk ws block
  · have e1 : clearP ps ws block = wipeP ps block.toNat 6 := by simp [clearP, halfQ, hok, hy]
    have e2 : clearW ps ws block = ws.set block.toNat (ws[block.toNat]?.getD 0 + 1) := by simp [clearW, hok, hy]
    rw [e1, e2]
    refine ⟨by rw [wipeP_len]; exact hok.1, by rw [List.length_set]; exact hok.2.1, fun s h => ?_, fun x h => ?_⟩
    · rcases wipeP_mem h with h | h
      · exact hok.2.2.1 s h
      · rw [h]; decide
    · rcases mem_set h with h | h
      · exact hok.2.2.2 x h
      · have hk : block.toNat < ws.length := by have := hok.2.1; have := hy.1; have := hy.2.1; omega
        have hx := hok.2.2.2 ws[block.toNat] (List.getElem_mem hk)
        have h3 := hy.2.2
        rw [List.getElem?_eq_getElem hk] at h h3
        simp at h h3
        omega
  · have e1 : clearP ps ws block = ps := by simp [clearP, halfQ, hok, hy]
    have e2 : clearW ps ws block = ws := by simp [clearW, hok, hy]
    rw [e1, e2]; exact hok
theorem apply_right {ps : List ByteArray} {ws : List Int} {kind at_ : Int} {text : ByteArray} (hok : chipOkP ps ws) : chipOkP (applyP ps ws kind at_ text) (applyW ps ws kind at_) := by
  have hB := chipOkB_true hok
  unfold applyP applyW
  by_cases k1 : kind = 1
  · rw [if_pos k1, if_pos k1]; exact burn_right hok
  · by_cases k2 : kind = 2
    · rw [if_neg k1, if_neg k1, if_pos k2, if_pos k2]; exact clear_right hok
    · rw [if_neg k1, if_neg k1, if_neg k2, if_neg k2, if_pos hB, if_pos hB]; exact hok

/-- All acts of a row, up to the first that can't be done. -/
noncomputable def actAll (ps : List ByteArray) (ws : List Int) : List (Int × Int × ByteArray) → List ByteArray × List Int × Bool
  | [] => (ps, ws, true)
  | x :: xs => if applyF ps ws x.1 x.2.1 x.2.2 = true then actAll (applyP ps ws x.1 x.2.1 x.2.2) (applyW ps ws x.1 x.2.1) xs else (ps, ws, false)

/-- The cells of a row of acts. -/
def vsAct (xs : List (Int × Int × ByteArray)) : List Value := xs.flatMap fun x => [.int .i64 x.1, .int .i64 x.2.1, .string x.2.2]
theorem vsAct_at : ∀ (xs : List (Int × Int × ByteArray)) (k : Nat) (x : Int × Int × ByteArray), xs[k]? = some x → (vsAct xs)[k * 3]? = some (.int .i64 x.1) ∧ (vsAct xs)[k * 3 + 1]? = some (.int .i64 x.2.1) ∧ (vsAct xs)[k * 3 + 2]? = some (.string x.2.2) := by
  intro xs
  induction xs with
  | nil => intro k x h; simp at h
  | cons y ys ih =>
    intro k x h
    cases k with
    | zero => simp at h; subst h; simp [vsAct]
    | succ k =>
      have := ih k x (by simpa using h)
      have e : vsAct (y :: ys) = [.int .i64 y.1, .int .i64 y.2.1, .string y.2.2] ++ vsAct ys := rfl
      rw [e, List.getElem?_append_right (by simp; omega), List.getElem?_append_right (by simp; omega), List.getElem?_append_right (by simp; omega)]
      have a0 : (k + 1) * 3 - 3 = k * 3 := by omega
      have a1 : (k + 1) * 3 + 1 - 3 = k * 3 + 1 := by omega
      have a2 : (k + 1) * 3 + 2 - 3 = k * 3 + 2 := by omega
      simp only [List.length_cons, List.length_nil, Nat.zero_add, Nat.reduceAdd, a0, a1, a2]
      exact this
theorem rdAct_at {w : World} {a : Option Addr} {xs : List (Int × Int × ByteArray)} {k : Nat} (h : Rd w a (vsAct xs)) (hk : k < xs.length) :
    ∃ b off x, a = some ⟨b, off, none⟩ ∧ w.cell? ⟨b, off + k * 3, none⟩ = some (.int .i64 x.1) ∧ w.cell? ⟨b, off + k * 3 + 1, none⟩ = some (.int .i64 x.2.1) ∧ w.cell? ⟨b, off + k * 3 + 2, none⟩ = some (.string x.2.2) ∧ Hid (xs[k]? = some x) := by
  obtain ⟨h0, h1, h2⟩ := vsAct_at xs k xs[k] (List.getElem?_eq_getElem hk)
  rcases h with h | ⟨b, off, ha, hc⟩
  · rw [h] at h0; simp at h0
  · exact ⟨b, off, xs[k], ha, hc _ _ h0, hc _ _ h1, hc _ _ h2, List.getElem?_eq_getElem hk⟩
end Go.Proofs.Ytelbannfbglgcaa

namespace Go.Proofs.Ytelbannfbglgcaa
open Go.RowKit

/-- The first block with a property. -/
theorem first_hit {ps : List ByteArray} (h : ∃ B, B < 10 ∧ hitP ps B) : ∃ B, B < 10 ∧ hitP ps B ∧ ∀ b, b < B → ¬ hitP ps b := by
  classical
  obtain ⟨B0, hB0, hp0⟩ := h
  revert hB0 hp0
  refine Nat.strongRecOn (motive := fun B0 => B0 < 10 → hitP ps B0 → ∃ B, B < 10 ∧ hitP ps B ∧ ∀ b, b < B → ¬ hitP ps b) B0 ?_
  intro n ih hn hp
  by_cases hx : ∃ c, c < n ∧ hitP ps c
  · obtain ⟨c, hc, hcp⟩ := hx
    exact ih c hc (by omega) hcp
  · exact ⟨n, hn, hp, fun c hc hcp => hx ⟨c, hc, hcp⟩⟩

/-- A page that is clear, as a place of the list. -/
theorem emp_at {ps : List ByteArray} {B j : Nat} (hl : ps.length = 60) (hp : B * 6 + j < 60) (h : Emp ps B j) : ps[B * 6 + j]? = some ByteArray.empty := by
  unfold Emp at h
  rw [List.getElem?_eq_getElem (by omega)] at h ⊢
  exact congrArg some h

/-- The next page is a clear one. -/
theorem next_clear {ps : List ByteArray} {ws : List Int} {p : Nat} (hl : ps.length = 60) (h : nextP ps ws = (p : Int)) : p < 60 ∧ ps[p]? = some ByteArray.empty := by
  by_cases hh : ∃ B, B < 10 ∧ hitP ps B
  · obtain ⟨B, hB, hhit, hmin⟩ := first_hit hh
    have hn := nextP_hit (ws := ws) hB hhit hmin
    obtain ⟨i, hi0, hi6, he, hne⟩ := hit_not hhit
    have hi := (hit_of hi0 hi6 he hne).2
    have hpi : p = B * 6 + i := by omega
    refine ⟨by omega, ?_⟩
    rw [hpi]
    exact emp_at hl (by omega) (he i (Nat.le_refl _) hi6)
  · have hno : ∀ b, b < 10 → ¬ hitP ps b := fun b hb hp => hh ⟨b, hb, hp⟩
    have hn := nextP_none (ws := ws) hno
    by_cases hf : freeB ps 10 = []
    · rw [if_pos hf] at hn; omega
    · rw [if_neg hf] at hn
      have hm := minF_mem (ws := ws) (freeB ps 10) (fun x hx => by have := freeB_bd ps 10 x hx; omega) hf
      obtain ⟨b, hb⟩ : ∃ b : Nat, minF ws (freeB ps 10) = b := ⟨(minF ws (freeB ps 10)).toNat, by omega⟩
      have hpb : p = b * 6 := by omega
      have hb10 : b < 10 := by omega
      have hcl : (clr ps b 6).1 = 6 := next_free (ps := ps) (ws := ws) hb10 (by omega)
      have h0 := (clr_all ps b 6).1 (by rw [hcl]; rfl) 0 (by omega)
      refine ⟨by omega, ?_⟩
      rw [hpb]
      exact emp_at (j := 0) hl (by omega) h0

theorem recT_none {s q : Int} {d : ByteArray} (h : recOkB s q d = false) : recT s q d = ByteArray.empty := by
  unfold recT recB
  rw [if_neg (by rw [h]; decide)]
  rfl
theorem recT_some {s q : Int} {d : ByteArray} (h : recOkB s q d = true) : recT s q d ≠ ByteArray.empty := by
  intro he
  have := recR_of h
  rw [he, recR_empty] at this
  cases this
/-- Whether a record is right does not hang on a number that is. -/
theorem recOkB_seq {s q q' : Int} {d : ByteArray} (h1 : 1 ≤ q ∧ q ≤ 1000000000) (h2 : 1 ≤ q' ∧ q' ≤ 1000000000) : recOkB s q d = recOkB s q' d := by
  unfold recOkB
  have e1 : decide (1 ≤ q ∧ q ≤ 1000000000) = true := by simpa using h1
  have e2 : decide (1 ≤ q' ∧ q' ≤ 1000000000) = true := by simpa using h2
  rw [e1, e2]
theorem mSeq_bd (ps : List ByteArray) : 1 ≤ mSeq ps ∧ mSeq ps ≤ 1000000000 := (mUpto_len ps 60).2.2

/-- A record is burnt on the next page. -/
noncomputable def pBurn (ps : List ByteArray) (ws : List Int) (s : Int) (d : ByteArray) : Option (List ByteArray × (Int × Int × ByteArray)) :=
  if nextP ps ws < 0 ∨ recOkB s (mSeq ps) d = false ∨ mSeq ps = 1000000000 then none
  else some (ps.set (nextP ps ws).toNat (recT s (mSeq ps) d), (1, nextP ps ws, recT s (mSeq ps) d))
/-- What lives in a block is burnt elsewhere. -/
noncomputable def pMove (B : Nat) (ws : List Int) : List Int → List ByteArray → List (Int × Int × ByteArray) → Option (List ByteArray × List (Int × Int × ByteArray))
  | [], ps, acts => some (ps, acts)
  | x :: xs, ps, acts =>
    if nextP ps ws < 0 ∨ nextP ps ws / 6 = (B : Int) then none
    else match pBurn ps ws (recC ps x.toNat).1 (recC ps x.toNat).2.2 with
      | none => none
      | some r => pMove B ws xs r.1 (acts ++ [r.2])
/-- A block is cleaned. -/
noncomputable def pClean (B : Nat) (ps : List ByteArray) (ws : List Int) (acts : List (Int × Int × ByteArray)) : Option (List ByteArray × List Int × List (Int × Int × ByteArray)) :=
  match pMove B ws (livesU (mMap ps) B 6) ps acts with
  | none => none
  | some r => if ws[B]?.getD 0 = 1000000000 then none else some (wipeP r.1 B 6, ws.set B (ws[B]?.getD 0 + 1), r.2 ++ [(2, (B : Int), ByteArray.empty)])
/-- The same, behind the burns. -/
noncomputable def pCleanOf (B : Nat) (ws : List Int) (M : Option (List ByteArray × List (Int × Int × ByteArray))) : Option (List ByteArray × List Int × List (Int × Int × ByteArray)) :=
  match M with
  | none => none
  | some r => if ws[B]?.getD 0 = 1000000000 then none else some (wipeP r.1 B 6, ws.set B (ws[B]?.getD 0 + 1), r.2 ++ [(2, (B : Int), ByteArray.empty)])
theorem pClean_of (B : Nat) (ps : List ByteArray) (ws : List Int) (acts : List (Int × Int × ByteArray)) : pClean B ps ws acts = pCleanOf B ws (pMove B ws (livesU (mMap ps) B 6) ps acts) := rfl
/-- There is room for one more. -/
def pEnough (ps : List ByteArray) (ws : List Int) : Prop := 2 < (freeB ps 10).length ∨ ((freeB ps 10).length = 2 ∧ 0 ≤ openB ps ws)
noncomputable def pRoom : Nat → List ByteArray → List Int → List (Int × Int × ByteArray) → Option (List ByteArray × List Int × List (Int × Int × ByteArray))
  | 0, ps, ws, acts => some (ps, ws, acts)
  | n + 1, ps, ws, acts => open Classical in
    if pEnough ps ws then some (ps, ws, acts)
    else if worstB ps ws (mMap ps) < 0 then none
    else match pClean (worstB ps ws (mMap ps)).toNat ps ws acts with
      | none => none
      | some r => pRoom n r.1 r.2.1 r.2.2
noncomputable def pPlan (ps : List ByteArray) (ws : List Int) (s : Int) (d : ByteArray) : Option (List ByteArray × List Int × List (Int × Int × ByteArray)) :=
  if recOkB s (mSeq ps) d = false then none
  else match pRoom 10 ps ws [] with
    | none => none
    | some r => match pBurn r.1 r.2.1 s d with
      | none => none
      | some b => some (b.1, r.2.1, r.2.2 ++ [b.2])

theorem pBurn_none {ps : List ByteArray} {ws : List Int} {s : Int} {d : ByteArray} (h : nextP ps ws < 0 ∨ recOkB s (mSeq ps) d = false ∨ mSeq ps = 1000000000) : pBurn ps ws s d = none := by unfold pBurn; rw [if_pos h]
theorem pBurn_some {ps : List ByteArray} {ws : List Int} {s : Int} {d : ByteArray} {p : Nat} (h1 : nextP ps ws = (p : Int)) (h2 : recOkB s (mSeq ps) d = true) (h3 : mSeq ps ≠ 1000000000) : pBurn ps ws s d = some (ps.set p (recT s (mSeq ps) d), (1, (p : Int), recT s (mSeq ps) d)) := by
  unfold pBurn
  rw [if_neg (by rw [h1, h2]; rintro (h | h | h); omega; cases h; exact h3 h), h1]
  rfl
/-- What a burn turns of what is mounted. -/
theorem pBurn_mount {ps : List ByteArray} {ws : List Int} {s : Int} {d : ByteArray} {p : Nat} (hl : ps.length = 60) (h1 : nextP ps ws = (p : Int)) (h2 : recOkB s (mSeq ps) d = true) (h3 : mSeq ps ≠ 1000000000) :
    mMap (ps.set p (recT s (mSeq ps) d)) = (mMap ps).set s.toNat (p : Int) ∧ mSeq (ps.set p (recT s (mSeq ps) d)) = mSeq ps + 1 := by
  obtain ⟨hp, hc⟩ := next_clear hl h1
  exact burn_mount hl hp hc (by have := mSeq_bd ps; omega) (recR_of h2)
theorem set_right {ps : List ByteArray} {ws : List Int} {p : Nat} {t : ByteArray} (h : chipOkP ps ws) (ht : t.size ≤ 800) : chipOkP (ps.set p t) ws := by
  refine ⟨by rw [List.length_set]; exact h.1, h.2.1, fun s hs => ?_, h.2.2.2⟩
  rcases mem_set hs with hs | hs
  · exact h.2.2.1 s hs
  · rw [hs]; exact ht
theorem pBurn_right {ps : List ByteArray} {ws : List Int} {s : Int} {d : ByteArray} {r : List ByteArray × (Int × Int × ByteArray)} (h : chipOkP ps ws) (hb : pBurn ps ws s d = some r) : chipOkP r.1 ws := by
  unfold pBurn at hb
  split at hb
  · cases hb
  · injection hb with hb
    rw [← hb]
    exact set_right h (by have := recT_size s (mSeq ps) d; omega)
theorem pMove_right {B : Nat} {ws : List Int} : ∀ (xs : List Int) (ps : List ByteArray) (acts : List (Int × Int × ByteArray)) (r : List ByteArray × List (Int × Int × ByteArray)), chipOkP ps ws → pMove B ws xs ps acts = some r → chipOkP r.1 ws ∧ r.2.length = acts.length + xs.length := by
  intro xs
  induction xs with
  | nil =>
    intro ps acts r h hm
    simp only [pMove] at hm
    injection hm with hm
    rw [← hm]
    exact ⟨h, by simp⟩
  | cons x xs ih =>
    intro ps acts r h hm
    simp only [pMove] at hm
    split at hm
    · cases hm
    · cases hb : pBurn ps ws (recC ps x.toNat).1 (recC ps x.toNat).2.2 with
      | none => rw [hb] at hm; cases hm
      | some b =>
        rw [hb] at hm
        obtain ⟨k1, k2⟩ := ih b.1 _ r (pBurn_right h hb) hm
        exact ⟨k1, by rw [k2]; simp; omega⟩
theorem lives_bd {ms : List Int} {B : Nat} : ∀ i, ∀ x ∈ livesU ms B i, (B : Int) * 6 ≤ x ∧ x < (B : Int) * 6 + i := by
  intro i
  induction i with
  | zero => intro x hx; simp [livesU] at hx
  | succ i ih =>
    intro x hx
    simp only [livesU, List.mem_append, List.mem_filter, beq_iff_eq] at hx
    rcases hx with hx | hx
    · have := ih x hx; omega
    · omega
theorem wipe_right {ps : List ByteArray} {ws : List Int} {B : Nat} (h : chipOkP ps ws) (hw : ws[B]?.getD 0 ≠ 1000000000) : chipOkP (wipeP ps B 6) (ws.set B (ws[B]?.getD 0 + 1)) := by
  refine ⟨by rw [wipeP_len]; exact h.1, by rw [List.length_set]; exact h.2.1, fun s hs => ?_, fun x hx => ?_⟩
  · rcases wipeP_mem hs with hs | hs
    · exact h.2.2.1 s hs
    · rw [hs]; decide
  · by_cases hB : B < ws.length
    · have hx0 := h.2.2.2 ws[B] (List.getElem_mem hB)
      rw [List.getElem?_eq_getElem hB] at hx hw
      simp only [Option.getD_some] at hx hw
      rcases mem_set hx with hx | hx
      · exact h.2.2.2 x hx
      · omega
    · rw [List.set_eq_of_length_le (by omega)] at hx
      exact h.2.2.2 x hx
theorem pClean_right {B : Nat} {ps : List ByteArray} {ws : List Int} {acts : List (Int × Int × ByteArray)} {r : List ByteArray × List Int × List (Int × Int × ByteArray)} (h : chipOkP ps ws) (hc : pClean B ps ws acts = some r) : chipOkP r.1 r.2.1 ∧ r.2.2.length ≤ acts.length + 157 := by
  unfold pClean at hc
  cases hm : pMove B ws (livesU (mMap ps) B 6) ps acts with
  | none => rw [hm] at hc; cases hc
  | some m =>
    rw [hm] at hc
    simp only [] at hc
    split at hc
    · cases hc
    · next hw =>
      injection hc with hc
      obtain ⟨k1, k2⟩ := pMove_right _ _ _ _ h hm
      have hl := livesU_len (mMap ps) B 6
      rw [mMap_len] at hl
      rw [← hc]
      exact ⟨wipe_right k1 hw, by simp only [List.length_append, List.length_cons, List.length_nil]; omega⟩
theorem pRoom_right : ∀ (n : Nat) (ps : List ByteArray) (ws : List Int) (acts : List (Int × Int × ByteArray)) (r : List ByteArray × List Int × List (Int × Int × ByteArray)), chipOkP ps ws → pRoom n ps ws acts = some r → chipOkP r.1 r.2.1 ∧ r.2.2.length ≤ acts.length + 157 * n := by
  intro n
  induction n with
  | zero =>
    intro ps ws acts r h hr
    simp only [pRoom] at hr
    injection hr with hr
    rw [← hr]
    exact ⟨h, by simp only []; omega⟩
  | succ n ih =>
    intro ps ws acts r h hr
    simp only [pRoom] at hr
    split at hr
    · injection hr with hr
      rw [← hr]
      exact ⟨h, by simp only []; omega⟩
    · split at hr
      · cases hr
      · cases hc : pClean (worstB ps ws (mMap ps)).toNat ps ws acts with
        | none => rw [hc] at hr; cases hr
        | some c =>
          rw [hc] at hr
          obtain ⟨k1, k2⟩ := pClean_right h hc
          obtain ⟨k3, k4⟩ := ih _ _ _ _ k1 hr
          exact ⟨k3, by omega⟩
theorem pPlan_right {ps : List ByteArray} {ws : List Int} {s : Int} {d : ByteArray} {r : List ByteArray × List Int × List (Int × Int × ByteArray)} (h : chipOkP ps ws) (hp : pPlan ps ws s d = some r) : chipOkP r.1 r.2.1 ∧ r.2.2.length ≤ 1571 := by
  unfold pPlan at hp
  split at hp
  · cases hp
  · cases hr : pRoom 10 ps ws [] with
    | none => rw [hr] at hp; cases hp
    | some m =>
      rw [hr] at hp
      simp only [] at hp
      obtain ⟨k1, k2⟩ := pRoom_right _ _ _ _ _ h hr
      cases hb : pBurn m.1 m.2.1 s d with
      | none => rw [hb] at hp; cases hp
      | some b =>
        rw [hb] at hp
        injection hp with hp
        rw [← hp]
        exact ⟨pBurn_right k1 hb, by simp only [List.length_append, List.length_cons, List.length_nil] at k2 ⊢; omega⟩

/-- The worst block is not free. -/
theorem worst_used {ps : List ByteArray} {ws ms : List Int} {b : Nat} (hl : ps.length = 60) (h : worstB ps ws ms = (b : Int)) : b < 10 ∧ (b : Int) ∉ freeB ps 10 ∧ (b : Int) ≠ openB ps ws := by
  rw [worstB_min hl] at h
  split at h
  · omega
  · next hne =>
    split at h
    · omega
    · have hin := minG_in (cf := wcmp (lvL ps ms (nextP ps ws) (blk 10)) ws) (usedL ps (nextP ps ws) (blk 10)) (fun x hx => (usedL_bd hx).1) hne
      rw [h] at hin
      obtain ⟨x, hx, hu, he⟩ := usedL_mem hin
      have hb : x.val = b := by omega
      rw [hb] at hu
      have hb10 : b < 10 := by have := x.isLt; omega
      have hno : ¬ ((clr ps b 6).1 = 6 ∨ (b : Int) = openB ps ws) := fun h' => by
        rw [(usd_iff (ws := ws) hl hb10).2 h'] at hu; cases hu
      refine ⟨hb10, fun hf => hno (.inl ?_), fun ho => hno (.inr ho)⟩
      have hmem : ∀ (k : Nat) (y : Int), y ∈ freeB ps k → ∃ c : Nat, y = c ∧ (clr ps c 6).1 = 6 := by
        intro k
        induction k with
        | zero => intro y hy; simp [freeB] at hy
        | succ k ih =>
          intro y hy
          unfold freeB at hy
          split at hy
          · next hk =>
            rcases List.mem_append.1 hy with hy | hy
            · exact ih y hy
            · exact ⟨k, by simpa using hy, hk⟩
          · exact ih y hy
      obtain ⟨c, hc, hcl⟩ := hmem 10 _ hf
      obtain rfl : b = c := by omega
      exact hcl
/-- Where there are free blocks there is a next page. -/
theorem next_of_free {ps : List ByteArray} {ws : List Int} (h : freeB ps 10 ≠ []) : 0 ≤ nextP ps ws := by
  by_cases hh : ∃ B, B < 10 ∧ hitP ps B
  · obtain ⟨B, hB, hhit, hmin⟩ := first_hit hh
    have hn := nextP_hit (ws := ws) hB hhit hmin
    have hb6 := clr_bd ps B 6
    unfold hitP at hhit
    omega
  · have hno : ∀ b, b < 10 → ¬ hitP ps b := fun b hb hp => hh ⟨b, hb, hp⟩
    have hn := nextP_none (ws := ws) hno
    rw [if_neg h] at hn
    have hm := minF_mem (ws := ws) (freeB ps 10) (fun x hx => by have := freeB_bd ps 10 x hx; omega) h
    omega
/-- Room, as the program asks for it. -/
theorem enough_iff {ps : List ByteArray} {ws : List Int} : ¬ pEnough ps ws ↔ ((freeB ps 10).length < 2 ∨ ((freeB ps 10).length = 2 ∧ nextP ps ws % 6 = 0)) := by
  unfold pEnough
  by_cases h2 : (freeB ps 10).length = 2
  · have hn := next_of_free (ws := ws) (ps := ps) (by intro h; rw [h] at h2; cases h2)
    unfold openB
    constructor
    · intro h
      right
      refine ⟨h2, ?_⟩
      by_cases h6 : nextP ps ws % 6 = 0
      · exact h6
      · exact absurd (.inr ⟨h2, by rw [if_neg (by omega)]; omega⟩) h
    · rintro (h | ⟨-, h⟩)
      · omega
      · rintro (h' | ⟨-, h'⟩)
        · omega
        · rw [if_pos (.inr h)] at h'; omega
  · omega
end Go.Proofs.Ytelbannfbglgcaa

namespace Go.Proofs.Ytelbannfbglgcaa
open Go.RowKit

theorem wk_set {W : World} {p : Nat} {arr : Array Value} {t : TypeId} (h : W.heap[p]? = some (.cells arr t (0, 0))) (i : Nat) (v : Value) : (W.setCell ⟨p, i, none⟩ v).heap[p]? = some (.cells (arr.setIfInBounds i v) t (0, 0)) := by
  have hlt := lt_of_block h
  have h' : W.heap[p] = .cells arr t (0, 0) := by simpa [Array.getElem?_eq_getElem hlt] using h
  show (W.heap.modify p _)[p]? = _
  rw [Array.getElem?_eq_getElem (by simpa using hlt), Array.getElem_modify_self, h']
  rfl
theorem wk_cell {W : World} {p : Nat} {arr : Array Value} {t : TypeId} (h : W.heap[p]? = some (.cells arr t (0, 0))) {i : Nat} {v : Value} (hi : arr[i]? = some v) : W.cell? ⟨p, i, none⟩ = some v := by simp [World.cell?, h, hi]
theorem wk_frozen {W : World} {p : Nat} {arr : Array Value} {t : TypeId} (h : W.heap[p]? = some (.cells arr t (0, 0))) (i : Nat) : W.frozen? ⟨p, i, none⟩ = false := by simp [World.frozen?, h]
theorem kind_ne {w : World} {base : Nat} {e t : TypeId} {size : Nat} {v : Value} {n p : Nat} {xs : List Value} {arr : Array Value} (h : w.ownsRow base e size v n xs) (hp : w.heap[p]? = some (.cells arr t (0, 0))) (hne : e ≠ t) : v.ownBlock ≠ some p := by
  intro hb
  obtain ⟨c, fz, hk⟩ := Lib.ownsRow_kind h p hb
  rw [hp] at hk
  injection hk with hk
  injection hk with _ hk _
  exact hne hk.symm
theorem kind_ne2 {w : World} {base base' : Nat} {e e' : TypeId} {size size' : Nat} {v v' : Value} {n n' : Nat} {xs xs' : List Value} (h : w.ownsRow base e size v n xs) (h' : w.ownsRow base' e' size' v' n' xs') (hne : e ≠ e') (k : Nat) (hk : v.ownBlock = some k) : v'.ownBlock ≠ some k := by
  intro hb
  obtain ⟨c, fz, h1⟩ := Lib.ownsRow_kind h k hk
  obtain ⟨c', fz', h2⟩ := Lib.ownsRow_kind h' k hb
  rw [h1] at h2
  injection h2 with h2
  injection h2 with _ h2 _
  exact hne h2

theorem frozen_far {w w' : World} {row : Option Nat} (hg : w.grownBy w' row) (a : Addr) (hlt : a.block < w.heap.size) (hne : some a.block ≠ row) : w'.frozen? a = w.frozen? a := World.frozen?_of_block (hg.block a.block hlt hne)

/-- Work under way in block P. -/
def WorkAt (w : World) (P base g1 k1 g2 k2 g3 k3 : Nat) (v4 : Option Addr) (k4 : Nat) (ps : List ByteArray) (ws ms : List Int) (q : Int) (cs : List (Int × Int × ByteArray)) (ok : Bool) : Prop :=
  w.heap[P]? = some (.cells #[.slice (some ⟨g1, 0, none⟩) ps.length k1, .slice (some ⟨g2, 0, none⟩) ws.length k2, .slice (some ⟨g3, 0, none⟩) ms.length k3, .int .i64 q, .slice v4 cs.length k4, .bool ok] 162 (0, 0)) ∧ base ≤ P ∧
    w.ownsRow base 9 1 (.slice (some ⟨g1, 0, none⟩) ps.length k1) ps.length (vsString ps) ∧ w.ownsRow base 3 1 (.slice (some ⟨g2, 0, none⟩) ws.length k2) ws.length (vsInt ws) ∧
    w.ownsRow base 3 1 (.slice (some ⟨g3, 0, none⟩) ms.length k3) ms.length (vsInt ms) ∧ w.ownsRow base 68 3 (.slice v4 cs.length k4) cs.length (vsAct cs) ∧ g2 ≠ g3
def Work (w : World) (P base : Nat) (ps : List ByteArray) (ws ms : List Int) (q : Int) (cs : List (Int × Int × ByteArray)) (ok : Bool) : Prop :=
  ∃ g1 k1 g2 k2 g3 k3 v4 k4, WorkAt w P base g1 k1 g2 k2 g3 k3 v4 k4 ps ws ms q cs ok

section
variable {w : World} {P base g1 k1 g2 k2 g3 k3 : Nat} {v4 : Option Addr} {k4 : Nat} {ps : List ByteArray} {ws ms : List Int} {q : Int} {cs : List (Int × Int × ByteArray)} {ok : Bool}
theorem WorkAt.lt (h : WorkAt w P base g1 k1 g2 k2 g3 k3 v4 k4 ps ws ms q cs ok) : P < w.heap.size ∧ base ≤ P ∧ base ≤ w.heap.size := by
  have h1 := lt_of_block h.1
  have h2 := h.2.1
  exact ⟨h1, h2, by omega⟩
theorem WorkAt.cells (h : WorkAt w P base g1 k1 g2 k2 g3 k3 v4 k4 ps ws ms q cs ok) :
    (w.cell? ⟨P, 0, none⟩ = some (.slice (some ⟨g1, 0, none⟩) ps.length k1) ∧ w.cell? ⟨P, 1, none⟩ = some (.slice (some ⟨g2, 0, none⟩) ws.length k2) ∧ w.cell? ⟨P, 2, none⟩ = some (.slice (some ⟨g3, 0, none⟩) ms.length k3) ∧
    w.cell? ⟨P, 3, none⟩ = some (.int .i64 q) ∧ w.cell? ⟨P, 4, none⟩ = some (.slice v4 cs.length k4) ∧ w.cell? ⟨P, 5, none⟩ = some (.bool ok)) ∧ ∀ i, w.frozen? ⟨P, i, none⟩ = false :=
  ⟨⟨wk_cell h.1 rfl, wk_cell h.1 rfl, wk_cell h.1 rfl, wk_cell h.1 rfl, wk_cell h.1 rfl, wk_cell h.1 rfl⟩, fun i => wk_frozen h.1 i⟩
theorem WorkAt.ne (h : WorkAt w P base g1 k1 g2 k2 g3 k3 v4 k4 ps ws ms q cs ok) : g1 ≠ P ∧ g2 ≠ P ∧ g3 ≠ P ∧ (Value.slice v4 cs.length k4).ownBlock ≠ some P ∧ g1 ≠ g2 ∧ g1 ≠ g3 ∧
    (Value.slice v4 cs.length k4).ownBlock ≠ some g1 ∧ (Value.slice v4 cs.length k4).ownBlock ≠ some g2 ∧ (Value.slice v4 cs.length k4).ownBlock ≠ some g3 := by
  obtain ⟨h0, hb, h1, h2, h3, h4, hne⟩ := h
  refine ⟨fun e => kind_ne h1 h0 (by decide) (by rw [← e]; rfl), fun e => kind_ne h2 h0 (by decide) (by rw [← e]; rfl), fun e => kind_ne h3 h0 (by decide) (by rw [← e]; rfl), kind_ne h4 h0 (by decide),
    fun e => kind_ne2 h1 h2 (by decide) g1 rfl (by rw [e]; rfl), fun e => kind_ne2 h1 h3 (by decide) g1 rfl (by rw [e]; rfl), fun e => kind_ne2 h4 h1 (by decide) g1 e rfl, fun e => kind_ne2 h4 h2 (by decide) g2 e rfl, fun e => kind_ne2 h4 h3 (by decide) g3 e rfl⟩
theorem WorkAt.below {w' : World} (h : WorkAt w P base g1 k1 g2 k2 g3 k3 v4 k4 ps ws ms q cs ok) (hb : Below w.heap.size w w') : WorkAt w' P base g1 k1 g2 k2 g3 k3 v4 k4 ps ws ms q cs ok := by
  obtain ⟨h0, hB, h1, h2, h3, h4, hne⟩ := h
  exact ⟨(hb.block P (lt_of_block h0)).trans h0, hB, owns_below h1 hb, owns_below h2 hb, owns_below h3 hb, owns_below h4 hb, hne⟩
theorem WorkAt.rd (h : WorkAt w P base g1 k1 g2 k2 g3 k3 v4 k4 ps ws ms q cs ok) : Rd w (some ⟨g1, 0, none⟩) (vsString ps) ∧ Rd w (some ⟨g2, 0, none⟩) (vsInt ws) ∧ Rd w (some ⟨g3, 0, none⟩) (vsInt ms) :=
  ⟨rd_of_own h.2.2.1, rd_of_own h.2.2.2.1, rd_of_own h.2.2.2.2.1⟩
theorem WorkAt.flag (h : WorkAt w P base g1 k1 g2 k2 g3 k3 v4 k4 ps ws ms q cs ok) (b : Bool) : WorkAt (w.setCell ⟨P, 5, none⟩ (.bool b)) P base g1 k1 g2 k2 g3 k3 v4 k4 ps ws ms q cs b ∧ Below base w (w.setCell ⟨P, 5, none⟩ (.bool b)) := by
  obtain ⟨n1, n2, n3, n4, -⟩ := h.ne
  obtain ⟨h0, hB, h1, h2, h3, h4, hne⟩ := h
  refine ⟨⟨wk_set h0 5 _, hB, ownsRow_setCell_other h1 (by simpa [Value.ownBlock] using n1) _, ownsRow_setCell_other h2 (by simpa [Value.ownBlock] using n2) _, ownsRow_setCell_other h3 (by simpa [Value.ownBlock] using n3) _, ownsRow_setCell_other h4 n4 _, hne⟩, (Below.refl _ _).setCell hB _⟩
theorem WorkAt.seq (h : WorkAt w P base g1 k1 g2 k2 g3 k3 v4 k4 ps ws ms q cs ok) (z : Int) : WorkAt (w.setCell ⟨P, 3, none⟩ (.int .i64 z)) P base g1 k1 g2 k2 g3 k3 v4 k4 ps ws ms z cs ok ∧ Below base w (w.setCell ⟨P, 3, none⟩ (.int .i64 z)) := by
  obtain ⟨n1, n2, n3, n4, -⟩ := h.ne
  obtain ⟨h0, hB, h1, h2, h3, h4, hne⟩ := h
  refine ⟨⟨wk_set h0 3 _, hB, ownsRow_setCell_other h1 (by simpa [Value.ownBlock] using n1) _, ownsRow_setCell_other h2 (by simpa [Value.ownBlock] using n2) _, ownsRow_setCell_other h3 (by simpa [Value.ownBlock] using n3) _, ownsRow_setCell_other h4 n4 _, hne⟩, (Below.refl _ _).setCell hB _⟩
theorem WorkAt.page (h : WorkAt w P base g1 k1 g2 k2 g3 k3 v4 k4 ps ws ms q cs ok) (j : Nat) (t : ByteArray) : WorkAt (w.setCell ⟨g1, j, none⟩ (.string t)) P base g1 k1 g2 k2 g3 k3 v4 k4 (ps.set j t) ws ms q cs ok ∧ Below base w (w.setCell ⟨g1, j, none⟩ (.string t)) := by
  obtain ⟨n1, n2, n3, n4, n5, n6, n7, n8, n9⟩ := h.ne
  obtain ⟨h0, hB, h1, h2, h3, h4, hne⟩ := h
  have hst := h1.stored j (.string t)
  have e : (vsString ps).set j (.string t) = vsString (ps.set j t) := by simp [List.map_set]
  rw [e] at hst
  refine ⟨⟨?_, hB, ?_, ownsRow_setCell_other h2 (by simp [Value.ownBlock]; omega) _, ownsRow_setCell_other h3 (by simp [Value.ownBlock]; omega) _, ownsRow_setCell_other h4 n7 _, hne⟩, (Below.refl _ _).setCell (owns_lt h1).1 _⟩
  · rw [Below.heap_setCell _ _ _ _ (fun e => n1 e.symm), List.length_set]; exact h0
  · rw [List.length_set]; exact hst.1
theorem WorkAt.map (h : WorkAt w P base g1 k1 g2 k2 g3 k3 v4 k4 ps ws ms q cs ok) (j : Nat) (z : Int) : WorkAt (w.setCell ⟨g3, j, none⟩ (.int .i64 z)) P base g1 k1 g2 k2 g3 k3 v4 k4 ps ws (ms.set j z) q cs ok ∧ Below base w (w.setCell ⟨g3, j, none⟩ (.int .i64 z)) := by
  obtain ⟨n1, n2, n3, n4, n5, n6, n7, n8, n9⟩ := h.ne
  obtain ⟨h0, hB, h1, h2, h3, h4, hne⟩ := h
  have hst := h3.stored j (.int .i64 z)
  have e : (vsInt ms).set j (.int .i64 z) = vsInt (ms.set j z) := by simp [List.map_set]
  rw [e] at hst
  refine ⟨⟨?_, hB, ownsRow_setCell_other h1 (by simp [Value.ownBlock]; omega) _, ownsRow_setCell_other h2 (by simp [Value.ownBlock]; omega) _, ?_, ownsRow_setCell_other h4 n9 _, hne⟩, (Below.refl _ _).setCell (owns_lt h3).1 _⟩
  · rw [Below.heap_setCell _ _ _ _ (fun e => n3 e.symm), List.length_set]; exact h0
  · rw [List.length_set]; exact hst.1
theorem owns3_shape {w : World} {base : Nat} {e : TypeId} {size : Nat} {v : Value} {n : Nat} {xs : List Value} (h : w.ownsRow base e size v n xs) : ∃ a c, v = .slice a n c := by
  rcases h with ⟨_, ⟨rfl, rfl⟩ | ⟨g, cap, cur, rfl, -⟩⟩
  · exact ⟨_, _, rfl⟩
  · exact ⟨_, _, rfl⟩
theorem vsAct_snoc (cs : List (Int × Int × ByteArray)) (x : Int × Int × ByteArray) : vsAct cs ++ [.int .i64 x.1, .int .i64 x.2.1, .string x.2.2] = vsAct (cs ++ [x]) := by simp [vsAct]
/-- One more act is laid down. -/
theorem WorkAt.act {u : World} {v : Value} (x : Int × Int × ByteArray) (h : WorkAt w P base g1 k1 g2 k2 g3 k3 v4 k4 ps ws ms q cs ok) (hg : w.grownBy u (Value.slice v4 cs.length k4).ownBlock) (hv : u.ownsRow base 68 3 v (cs.length + 1) (vsAct cs ++ [.int .i64 x.1, .int .i64 x.2.1, .string x.2.2])) :
    ∃ a k, v = .slice a (cs ++ [x]).length k ∧ WorkAt (u.setCell ⟨P, 4, none⟩ v) P base g1 k1 g2 k2 g3 k3 a k ps ws ms q (cs ++ [x]) ok ∧ Below base w (u.setCell ⟨P, 4, none⟩ v) := by
  obtain ⟨n1, n2, n3, n4, n5, n6, n7, n8, n9⟩ := h.ne
  have hlt := h.lt
  obtain ⟨h0, hB, h1, h2, h3, h4, hne⟩ := h
  obtain ⟨a, k, rfl⟩ := owns3_shape hv
  have hl : cs.length + 1 = (cs ++ [x]).length := by simp
  rw [vsAct_snoc, hl] at hv
  rw [hl]
  have hP : u.heap[P]? = some (.cells #[.slice (some ⟨g1, 0, none⟩) ps.length k1, .slice (some ⟨g2, 0, none⟩) ws.length k2, .slice (some ⟨g3, 0, none⟩) ms.length k3, .int .i64 q, .slice v4 cs.length k4, .bool ok] 162 (0, 0)) := (hg.block P (lt_of_block h0) (fun e => n4 e.symm)).trans h0
  have u1 := h1.kept hg (.inr (fun e => n7 e.symm))
  have u2 := h2.kept hg (.inr (fun e => n8 e.symm))
  have u3 := h3.kept hg (.inr (fun e => n9 e.symm))
  have hb : Below base w u := (Below.refl _ _).grown hg hlt.2.2 (fun k hk => (h4.lt k hk).1)
  refine ⟨a, k, rfl, ⟨wk_set hP 4 _, hB, ownsRow_setCell_other u1 (by simpa [Value.ownBlock] using n1) _, ownsRow_setCell_other u2 (by simpa [Value.ownBlock] using n2) _, ownsRow_setCell_other u3 (by simpa [Value.ownBlock] using n3) _, ownsRow_setCell_other hv ?_ _, hne⟩, hb.setCell hB _⟩
  exact kind_ne hv hP (by decide)
/-- Blocks of other kinds than those at work are kept. -/
def Fr (P g1 g3 : Nat) (u u' : World) : Prop := u.heap.size ≤ u'.heap.size ∧ ∀ k, k < u.heap.size → k ≠ P → k ≠ g1 → k ≠ g3 → (∀ c fz, u.heap[k]? ≠ some (.cells c 68 fz)) → u'.heap[k]? = u.heap[k]?
theorem Fr.of_below {P g1 g3 : Nat} {u u' : World} (h : Below u.heap.size u u') : Fr P g1 g3 u u' := ⟨h.size, fun k hk _ _ _ _ => h.block k hk⟩
theorem Fr.trans {P g1 g3 : Nat} {u u' u'' : World} (h : Fr P g1 g3 u u') (k : Fr P g1 g3 u' u'') : Fr P g1 g3 u u'' :=
  ⟨Nat.le_trans h.1 k.1, fun j hj a b c d => by
    have e := h.2 j hj a b c d
    rw [← e]
    exact k.2 j (Nat.lt_of_lt_of_le hj h.1) a b c (fun x y => by rw [e]; exact d x y)⟩
theorem Fr.set {P g1 g3 : Nat} {u u' : World} (h : Fr P g1 g3 u u') {p : Nat} (hp : p = P ∨ p = g1 ∨ p = g3) (i : Nat) (v : Value) : Fr P g1 g3 u (u'.setCell ⟨p, i, none⟩ v) :=
  ⟨by simpa [World.setCell] using h.1, fun j hj a b c d => by
    rw [Below.heap_setCell _ _ _ _ (fun e => by simp at e; omega)]
    exact h.2 j hj a b c d⟩
theorem Fr.grown {P g1 g3 base n : Nat} {u u' : World} {v : Value} {xs : List Value} (h : u.grownBy u' v.ownBlock) (ho : u.ownsRow base 68 3 v n xs) : Fr P g1 g3 u u' :=
  ⟨h.size, fun j hj _ _ _ d => h.block j hj (fun e => by obtain ⟨c, fz, hk⟩ := Lib.ownsRow_kind ho j e.symm; exact d c fz hk)⟩
theorem Fr.row {P g1 g3 base n size : Nat} {u u' : World} {v : Value} {e : TypeId} {xs : List Value} (h : Fr P g1 g3 u u') (ho : u.ownsRow base e size v n xs) (he : e ≠ 68) (hne : ∀ k, v.ownBlock = some k → k ≠ P ∧ k ≠ g1 ∧ k ≠ g3) : u'.ownsRow base e size v n xs := by
  obtain ⟨h1, h2⟩ := ho
  refine ⟨h1, ?_⟩
  rcases h2 with h2 | ⟨g, cap, cur, hv, hg, hh, r⟩
  · exact .inl h2
  · obtain ⟨n1, n2, n3⟩ := hne g (by rw [hv]; rfl)
    refine .inr ⟨g, cap, cur, hv, hg, ?_, r⟩
    rw [h.2 g (lt_of_block hh) n1 n2 n3 (fun c fz hx => by rw [hh] at hx; injection hx with hx; injection hx with _ hx _; exact he hx)]
    exact hh
/-- The acts of work, whatever else it has. -/
def ActsAt (w : World) (P base : Nat) (v4 : Option Addr) (k4 : Nat) (cs : List (Int × Int × ByteArray)) (ok : Bool) : Prop :=
  ∃ x0 x1 x2 x3, w.heap[P]? = some (.cells #[x0, x1, x2, x3, .slice v4 cs.length k4, .bool ok] 162 (0, 0)) ∧ base ≤ P ∧ w.ownsRow base 68 3 (.slice v4 cs.length k4) cs.length (vsAct cs)
theorem WorkAt.acts (h : WorkAt w P base g1 k1 g2 k2 g3 k3 v4 k4 ps ws ms q cs ok) : ActsAt w P base v4 k4 cs ok := ⟨_, _, _, _, h.1, h.2.1, h.2.2.2.2.2.1⟩
theorem ActsAt.below {w w' : World} (h : ActsAt w P base v4 k4 cs ok) (hb : Below w.heap.size w w') : ActsAt w' P base v4 k4 cs ok := by
  obtain ⟨x0, x1, x2, x3, h0, hB, h4⟩ := h
  exact ⟨x0, x1, x2, x3, (hb.block P (lt_of_block h0)).trans h0, hB, owns_below h4 hb⟩
theorem ActsAt.only {w w' : World} {L : List (Option Nat)} (h : ActsAt w P base v4 k4 cs ok) (hO : OnlyIn w w' L) (hP : some P ∉ L) (ha : ∀ k, (Value.slice v4 cs.length k4).ownBlock = some k → some k ∉ L) : ActsAt w' P base v4 k4 cs ok := by
  obtain ⟨x0, x1, x2, x3, h0, hB, h4⟩ := h
  exact ⟨x0, x1, x2, x3, (hO.block P (lt_of_block h0) hP).trans h0, hB, hO.owns h4 ha⟩
theorem ActsAt.cells {w : World} (h : ActsAt w P base v4 k4 cs ok) : (∃ x0 x1 x2 x3, w.cell? ⟨P, 0, none⟩ = some x0 ∧ w.cell? ⟨P, 1, none⟩ = some x1 ∧ w.cell? ⟨P, 2, none⟩ = some x2 ∧ w.cell? ⟨P, 3, none⟩ = some x3) ∧ w.cell? ⟨P, 4, none⟩ = some (.slice v4 cs.length k4) ∧ w.cell? ⟨P, 5, none⟩ = some (.bool ok) ∧ (∀ i, w.frozen? ⟨P, i, none⟩ = false) ∧ P < w.heap.size := by
  obtain ⟨x0, x1, x2, x3, h0, hB, h4⟩ := h
  exact ⟨⟨x0, x1, x2, x3, wk_cell h0 rfl, wk_cell h0 rfl, wk_cell h0 rfl, wk_cell h0 rfl⟩, wk_cell h0 rfl, wk_cell h0 rfl, fun i => wk_frozen h0 i, lt_of_block h0⟩
/-- What is mounted anew is laid into work. -/
theorem ActsAt.mount {w : World} {nb c d f : Nat} {a b e : Option Addr} {z : Int} (h : ActsAt w P base v4 k4 cs ok) (hf : FtlOwn w nb (.agg #[.slice a ps.length c, .slice b ws.length d, .slice e ms.length f, .int .i64 z]) ps ws ms z) (hn : base ≤ nb) (hl : ps.length = 60) (hm : ws.length = 10) (hk : ms.length = 26) :
    Work ((((w.setCell ⟨P, 0, none⟩ (.slice a ps.length c)).setCell ⟨P, 1, none⟩ (.slice b ws.length d)).setCell ⟨P, 2, none⟩ (.slice e ms.length f)).setCell ⟨P, 3, none⟩ (.int .i64 z)) P base ps ws ms z cs ok ∧
    Below base w ((((w.setCell ⟨P, 0, none⟩ (.slice a ps.length c)).setCell ⟨P, 1, none⟩ (.slice b ws.length d)).setCell ⟨P, 2, none⟩ (.slice e ms.length f)).setCell ⟨P, 3, none⟩ (.int .i64 z)) := by
  obtain ⟨x0, x1, x2, x3, h0, hB, h4⟩ := h
  obtain ⟨v1, v2, v3, hv, o1, o2, o3, -, -, hne⟩ := hf
  injection hv with hv
  simp at hv
  obtain ⟨rfl, rfl, rfl⟩ := hv
  obtain ⟨g1, c', e1, -⟩ := owns_form o1 (by omega)
  obtain ⟨g2, d', e2, -⟩ := owns_form o2 (by omega)
  obtain ⟨g3, f', e3, -⟩ := owns_form o3 (by omega)
  injection e1 with e1 _ _
  injection e2 with e2 _ _
  injection e3 with e3 _ _
  subst e1 e2 e3
  have m1 := kind_ne o1 h0 (by decide)
  have m2 := kind_ne o2 h0 (by decide)
  have m3 := kind_ne o3 h0 (by decide)
  have m4 := kind_ne h4 h0 (by decide)
  have st : ∀ {e : TypeId} {size : Nat} {v : Value} {n : Nat} {xs : List Value} (y0 y1 y2 y3 : Value), w.ownsRow base e size v n xs → v.ownBlock ≠ some P → ((((w.setCell ⟨P, 0, none⟩ y0).setCell ⟨P, 1, none⟩ y1).setCell ⟨P, 2, none⟩ y2).setCell ⟨P, 3, none⟩ y3).ownsRow base e size v n xs := fun y0 y1 y2 y3 ho hn =>
    ownsRow_setCell_other (ownsRow_setCell_other (ownsRow_setCell_other (ownsRow_setCell_other ho hn _) hn _) hn _) hn _
  refine ⟨⟨g1, c, g2, d, g3, f, v4, k4, ?_, hB, st _ _ _ _ (owns_mono o1 hn) m1, st _ _ _ _ (owns_mono o2 hn) m2, st _ _ _ _ (owns_mono o3 hn) m3, st _ _ _ _ h4 m4, fun e => hne g2 rfl (by rw [e]; rfl)⟩, ((((Below.refl _ _).setCell hB _).setCell hB _).setCell hB _).setCell hB _⟩
  exact wk_set (wk_set (wk_set (wk_set h0 0 _) 1 _) 2 _) 3 _
end
theorem infoAct : (Try.prog.info? 68).map (fun i => (i.zero, i.size, i.bytes)) = some (some (Value.agg #[.int .i64 0, .int .i64 0, .string ⟨#[]⟩]), 3, 32) := by kernel_rfl
/-- 'append(acts, act)', acts being the call's own. -/
theorem wpList_append_act {P : Program} {w w0 : World} {ops : Array Oper} {rest : List Oper} {o : Oper} {a : Act} {Q : Exit → Act → World → Prop} (hgd : o.guard = none) (s x : Operand) (t : TypeId)
    (ho : o.op = .call { callee := .builtin .append, args := #[s, x], argTypes := #[t, t] })
    (base : Nat) (e : TypeId) (i : TypeInfo) (z : Value) (bytes : Nat) (ht : P.underlying t = some (.slice e)) (hi : P.info? e = some i) (hz : i.zero = some z)
    (hsize : i.size = 3) (hby : i.bytes = bytes) (hzs : z.cells.size = 3)
    (v : Value) (n : Nat) (xs : List Value) (u0 u1 u2 : Value) (hs : a.eval s = v) (hown : w0.ownsRow base e 3 v n xs) (h1 : u0.oneCell' = true ∧ u1.oneCell' = true ∧ u2.oneCell' = true)
    (hx : a.eval x = .slice (some ⟨w0.heap.size, 0, none⟩) 1 1)
    (hbytes : (n + 1) * bytes ≤ 140737488355328) (hn : n ≤ 140737488355327) (hbase : base ≤ w0.heap.size)
    (hw : w = w0.alloc (.cells #[u0, u1, u2] e)) (h : ∀ v' w', w'.ownsRow base e 3 v' (n + 1) (xs ++ [u0, u1, u2]) → w0.grownBy w' v.ownBlock → wpList P ops Q rest (a.put o.dst v') w') : wpList P ops Q (o :: rest) a w := by
  subst hw
  refine wpList_append_own _ hgd s x t ho base e i z 3 bytes ht hi hz hsize hby hzs (by decide) v n xs hs (hown.alloc _) ⟨w0.heap.size, 0, none⟩ 1 1 [u0, u1, u2] hx rfl ?_ ?_ (by unfold maxLen; omega) hbytes (by simp; omega) ?_
  · intro j y hj
    match j, hj with
    | 0, hj => simp at hj; subst hj; simp [Addr.add]
    | 1, hj => simp at hj; subst hj; simp [Addr.add]
    | 2, hj => simp at hj; subst hj; simp [Addr.add]
  · intro y hy
    simp at hy
    rcases hy with rfl | rfl | rfl
    · exact h1.1
    · exact h1.2.1
    · exact h1.2.2
  · intro v' w' k1 k2 _
    exact h v' w' k1 (grown_trans (World.grownBy_alloc w0 _ _) k2)
end Go.Proofs.Ytelbannfbglgcaa
