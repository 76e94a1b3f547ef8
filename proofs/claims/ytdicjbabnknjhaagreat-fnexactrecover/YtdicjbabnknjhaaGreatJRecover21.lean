/-
  Contract of the specification's Apply.
  Acts in a row, and what becomes of a chip by them: a right chip stays one.
  What is planned, as mathematics: a record burnt, a block cleaned, room made, a plan; a right chip stays one.
-/
import Derived.Test.YtdicjbabnknjhaaGreatJRecover17
import Derived.Test.YtdicjbabnknjhaaGreatJRecover20
import Derived.Test.YtdicjbabnknjhaaGreatJRecover2
import Derived.Test.YtdicjbabnknjhaaGreatJRecover11
namespace Go.Proofs.YtdicjbabnknjhaaGreat
open Go.RowKit

/-- What Apply tells, and the chip that it hands back. -/
noncomputable def applyF (ps : List ByteArray) (ws : List Int) (kind at_ : Int) (text : ByteArray) : Bool := if kind = 1 then burnF ps ws at_ text else if kind = 2 then clearF ps ws at_ else false
noncomputable def applyP (ps : List ByteArray) (ws : List Int) (kind at_ : Int) (text : ByteArray) : List ByteArray := if kind = 1 then burnP ps ws at_ text else if kind = 2 then clearP ps ws at_ else if chipOkB ps ws = true then ps else []
noncomputable def applyW (ps : List ByteArray) (ws : List Int) (kind at_ : Int) : List Int := if kind = 1 then burnW ps ws else if kind = 2 then clearW ps ws at_ else if chipOkB ps ws = true then ws else []

end Go.Proofs.YtdicjbabnknjhaaGreat

namespace Go.Proofs.YtdicjbabnknjhaaGreat
open Go.RowKit

theorem mem_set {α : Type} {l : List α} {i : Nat} {x y : α} (h : y ∈ l.set i x) : y ∈ l ∨ y = x := List.mem_or_eq_of_mem_set h
theorem wipeP_mem {ps : List ByteArray} {B : Nat} {s : ByteArray} : ∀ {m : Nat}, s ∈ wipeP ps B m → s ∈ ps ∨ s = ByteArray.empty := by
  intro m
  induction m with
  | zero => intro h; exact .inl h
  | succ m ih =>
    intro h
    rcases mem_set h with h | h
    · exact ih h
    · exact .inr h
theorem burn_right {ps : List ByteArray} {ws : List Int} {page : Int} {text : ByteArray} (hok : chipOkP ps ws) : chipOkP (burnP ps ws page text) (burnW ps ws) := by
  by_cases hy : burnOk ps page text
  · have e1 : burnP ps ws page text = ps.set page.toNat text := by simp [burnP, hok, hy]
    have e2 : burnW ps ws = ws := by simp [burnW, hok]
    rw [e1, e2]
    refine ⟨by rw [List.length_set]; exact hok.1, hok.2.1, fun s h => ?_, hok.2.2.2⟩
    rcases mem_set h with h | h
    · exact hok.2.2.1 s h
    · rw [h]; exact hy.2.2.2.2
  · have e1 : burnP ps ws page text = ps := by simp [burnP, hok, hy]
    have e2 : burnW ps ws = ws := by simp [burnW, hok]
    rw [e1, e2]; exact hok
theorem clear_right {ps : List ByteArray} {ws : List Int} {block : Int} (hok : chipOkP ps ws) : chipOkP (clearP ps ws block) (clearW ps ws block) := by
  by_cases hy : clearOk ws block
  · have e1 : clearP ps ws block = wipeP ps block.toNat 6 := by simp [clearP, halfQ, hok, hy]
    have e2 : clearW ps ws block = ws.set block.toNat (ws[block.toNat]?.getD 0 + 1) := by simp [clearW, hok, hy]
    rw [e1, e2]
    refine ⟨by rw [wipeP_len]; exact hok.1, by rw [List.length_set]; exact hok.2.1, fun s h => ?_, fun x h => ?_⟩
    · rcases wipeP_mem h with h | h
      · exact hok.2.2.1 s h
      · rw [h]; decide
    · rcases mem_set h with h | h
      · exact hok.2.2.2 x h
      · have hk : block.toNat < ws.length := by have := hok.2.1; have := hy.1; have := hy.2.1; omega
        have hx := hok.2.2.2 ws[block.toNat] (List.getElem_mem hk)
        have h3 := hy.2.2
        rw [List.getElem?_eq_getElem hk] at h h3
        simp at h h3
        omega
  · have e1 : clearP ps ws block = ps := by simp [clearP, halfQ, hok, hy]
    have e2 : clearW ps ws block = ws := by simp [clearW, hok, hy]
    rw [e1, e2]; exact hok
theorem apply_right {ps : List ByteArray} {ws : List Int} {kind at_ : Int} {text : ByteArray} (hok : chipOkP ps ws) : chipOkP (applyP ps ws kind at_ text) (applyW ps ws kind at_) := by
  have hB := chipOkB_true hok
  unfold applyP applyW
  by_cases k1 : kind = 1
  · rw [if_pos k1, if_pos k1]; exact burn_right hok
  · by_cases k2 : kind = 2
    · rw [if_neg k1, if_neg k1, if_pos k2, if_pos k2]; exact clear_right hok
    · rw [if_neg k1, if_neg k1, if_neg k2, if_neg k2, if_pos hB, if_pos hB]; exact hok

/-- All acts of a row, up to the first that can't be done. -/
noncomputable def actAll (ps : List ByteArray) (ws : List Int) : List (Int × Int × ByteArray) → List ByteArray × List Int × Bool
  | [] => (ps, ws, true)
  | x :: xs => if applyF ps ws x.1 x.2.1 x.2.2 = true then actAll (applyP ps ws x.1 x.2.1 x.2.2) (applyW ps ws x.1 x.2.1) xs else (ps, ws, false)

/-- The cells of a row of acts. -/
def vsAct (xs : List (Int × Int × ByteArray)) : List Value := xs.flatMap fun x => [.int .i64 x.1, .int .i64 x.2.1, .string x.2.2]
theorem vsAct_at : ∀ (xs : List (Int × Int × ByteArray)) (k : Nat) (x : Int × Int × ByteArray), xs[k]? = some x → (vsAct xs)[k * 3]? = some (.int .i64 x.1) ∧ (vsAct xs)[k * 3 + 1]? = some (.int .i64 x.2.1) ∧ (vsAct xs)[k * 3 + 2]? = some (.string x.2.2) := by
  intro xs
  induction xs with
  | nil => intro k x h; simp at h
  | cons y ys ih =>
    intro k x h
    cases k with
    | zero => simp at h; subst h; simp [vsAct]
    | succ k =>
      have := ih k x (by simpa using h)
      have e : vsAct (y :: ys) = [.int .i64 y.1, .int .i64 y.2.1, .string y.2.2] ++ vsAct ys := rfl
      rw [e, List.getElem?_append_right (by simp; omega), List.getElem?_append_right (by simp; omega), List.getElem?_append_right (by simp; omega)]
      have a0 : (k + 1) * 3 - 3 = k * 3 := by omega
      have a1 : (k + 1) * 3 + 1 - 3 = k * 3 + 1 := by omega
      have a2 : (k + 1) * 3 + 2 - 3 = k * 3 + 2 := by omega
      simp only [List.length_cons, List.length_nil, Nat.zero_add, Nat.reduceAdd, a0, a1, a2]
      exact this
theorem rdAct_at {w : World} {a : Option Addr} {xs : List (Int × Int × ByteArray)} {k : Nat} (h : Rd w a (vsAct xs)) (hk : k < xs.length) :
    ∃ b off x, a = some ⟨b, off, none⟩ ∧ w.cell? ⟨b, off + k * 3, none⟩ = some (.int .i64 x.1) ∧ w.cell? ⟨b, off + k * 3 + 1, none⟩ = some (.int .i64 x.2.1) ∧ w.cell? ⟨b, off + k * 3 + 2, none⟩ = some (.string x.2.2) ∧ Hid (xs[k]? = some x) := by
  obtain ⟨h0, h1, h2⟩ := vsAct_at xs k xs[k] (List.getElem?_eq_getElem hk)
  rcases h with h | ⟨b, off, ha, hc⟩
  · rw [h] at h0; simp at h0
  · exact ⟨b, off, xs[k], ha, hc _ _ h0, hc _ _ h1, hc _ _ h2, List.getElem?_eq_getElem hk⟩
end Go.Proofs.YtdicjbabnknjhaaGreat

namespace Go.Proofs.YtdicjbabnknjhaaGreat
open Go.RowKit

/-- The first block with a property. -/
theorem first_hit {ps : List ByteArray} (h : ∃ B, B < 10 ∧ hitP ps B) : ∃ B, B < 10 ∧ hitP ps B ∧ ∀ b, b < B → ¬ hitP ps b := by
  classical
  obtain ⟨B0, hB0, hp0⟩ := h
  revert hB0 hp0
  refine Nat.strongRecOn (motive := fun B0 => B0 < 10 → hitP ps B0 → ∃ B, B < 10 ∧ hitP ps B ∧ ∀ b, b < B → ¬ hitP ps b) B0 ?_
  intro n ih hn hp
  by_cases hx : ∃ c, c < n ∧ hitP ps c
  · obtain ⟨c, hc, hcp⟩ := hx
    exact ih c hc (by omega) hcp
  · exact ⟨n, hn, hp, fun c hc hcp => hx ⟨c, hc, hcp⟩⟩

/-- A page that is clear, as a place of the list. -/
theorem emp_at {ps : List ByteArray} {B j : Nat} (hl : ps.length = 60) (hp : B * 6 + j < 60) (h : Emp ps B j) : ps[B * 6 + j]? = some ByteArray.empty := by
  unfold Emp at h
  rw [List.getElem?_eq_getElem (by omega)] at h ⊢
  exact congrArg some h

/-- The next page is a clear one. -/
theorem next_clear {ps : List ByteArray} {ws : List Int} {p : Nat} (hl : ps.length = 60) (h : nextP ps ws = (p : Int)) : p < 60 ∧ ps[p]? = some ByteArray.empty := by
  by_cases hh : ∃ B, B < 10 ∧ hitP ps B
  · obtain ⟨B, hB, hhit, hmin⟩ := first_hit hh
    have hn := nextP_hit (ws := ws) hB hhit hmin
    obtain ⟨i, hi0, hi6, he, hne⟩ := hit_not hhit
    have hi := (hit_of hi0 hi6 he hne).2
    have hpi : p = B * 6 + i := by omega
    refine ⟨by omega, ?_⟩
    rw [hpi]
    exact emp_at hl (by omega) (he i (Nat.le_refl _) hi6)
  · have hno : ∀ b, b < 10 → ¬ hitP ps b := fun b hb hp => hh ⟨b, hb, hp⟩
    have hn := nextP_none (ws := ws) hno
    by_cases hf : freeB ps 10 = []
    · rw [if_pos hf] at hn; omega
    · rw [if_neg hf] at hn
      have hm := minF_mem (ws := ws) (freeB ps 10) (fun x hx => by have := freeB_bd ps 10 x hx; omega) hf
      obtain ⟨b, hb⟩ : ∃ b : Nat, minF ws (freeB ps 10) = b := ⟨(minF ws (freeB ps 10)).toNat, by omega⟩
      have hpb : p = b * 6 := by omega
      have hb10 : b < 10 := by omega
      have hcl : (clr ps b 6).1 = 6 := next_free (ps := ps) (ws := ws) hb10 (by omega)
      have h0 := (clr_all ps b 6).1 (by rw [hcl]; rfl) 0 (by omega)
      refine ⟨by omega, ?_⟩
      rw [hpb]
      exact emp_at (j := 0) hl (by omega) h0

theorem recT_none {s q : Int} {d : ByteArray} (h : recOkB s q d = false) : recT s q d = ByteArray.empty := by
  unfold recT recB
  rw [if_neg (by rw [h]; decide)]
  rfl
theorem recT_some {s q : Int} {d : ByteArray} (h : recOkB s q d = true) : recT s q d ≠ ByteArray.empty := by
  intro he
  have := recR_of h
  rw [he, recR_empty] at this
  cases this
/-- Whether a record is right does not hang on a number that is. -/
theorem recOkB_seq {s q q' : Int} {d : ByteArray} (h1 : 1 ≤ q ∧ q ≤ 1000000000) (h2 : 1 ≤ q' ∧ q' ≤ 1000000000) : recOkB s q d = recOkB s q' d := by
  unfold recOkB
  have e1 : decide (1 ≤ q ∧ q ≤ 1000000000) = true := by simpa using h1
  have e2 : decide (1 ≤ q' ∧ q' ≤ 1000000000) = true := by simpa using h2
  rw [e1, e2]
theorem mSeq_bd (ps : List ByteArray) : 1 ≤ mSeq ps ∧ mSeq ps ≤ 1000000000 := (mUpto_len ps 60).2.2

/-- A record is burnt on the next page. -/
noncomputable def pBurn (ps : List ByteArray) (ws : List Int) (s : Int) (d : ByteArray) : Option (List ByteArray × (Int × Int × ByteArray)) :=
  if nextP ps ws < 0 ∨ recOkB s (mSeq ps) d = false ∨ mSeq ps = 1000000000 then none
  else some (ps.set (nextP ps ws).toNat (recT s (mSeq ps) d), (1, nextP ps ws, recT s (mSeq ps) d))
/-- What lives in a block is burnt elsewhere. -/
noncomputable def pMove (B : Nat) (ws : List Int) : List Int → List ByteArray → List (Int × Int × ByteArray) → Option (List ByteArray × List (Int × Int × ByteArray))
  | [], ps, acts => some (ps, acts)
  | x :: xs, ps, acts =>
    if nextP ps ws < 0 ∨ nextP ps ws / 6 = (B : Int) then none
    else match pBurn ps ws (recC ps x.toNat).1 (recC ps x.toNat).2.2 with
      | none => none
      | some r => pMove B ws xs r.1 (acts ++ [r.2])
/-- A block is cleaned. -/
noncomputable def pClean (B : Nat) (ps : List ByteArray) (ws : List Int) (acts : List (Int × Int × ByteArray)) : Option (List ByteArray × List Int × List (Int × Int × ByteArray)) :=
  match pMove B ws (livesU (mMap ps) B 6) ps acts with
  | none => none
  | some r => if ws[B]?.getD 0 = 1000000000 then none else some (wipeP r.1 B 6, ws.set B (ws[B]?.getD 0 + 1), r.2 ++ [(2, (B : Int), ByteArray.empty)])
/-- The same, behind the burns. -/
noncomputable def pCleanOf (B : Nat) (ws : List Int) (M : Option (List ByteArray × List (Int × Int × ByteArray))) : Option (List ByteArray × List Int × List (Int × Int × ByteArray)) :=
  match M with
  | none => none
  | some r => if ws[B]?.getD 0 = 1000000000 then none else some (wipeP r.1 B 6, ws.set B (ws[B]?.getD 0 + 1), r.2 ++ [(2, (B : Int), ByteArray.empty)])
theorem pClean_of (B : Nat) (ps : List ByteArray) (ws : List Int) (acts : List (Int × Int × ByteArray)) : pClean B ps ws acts = pCleanOf B ws (pMove B ws (livesU (mMap ps) B 6) ps acts) := rfl
/-- There is room for one more. -/
def pEnough (ps : List ByteArray) (ws : List Int) : Prop := 2 < (freeB ps 10).length ∨ ((freeB ps 10).length = 2 ∧ 0 ≤ openB ps ws)
noncomputable def pRoom : Nat → List ByteArray → List Int → List (Int × Int × ByteArray) → Option (List ByteArray × List Int × List (Int × Int × ByteArray))
  | 0, ps, ws, acts => some (ps, ws, acts)
  | n + 1, ps, ws, acts => open Classical in
    if pEnough ps ws then some (ps, ws, acts)
    else if worstB ps ws (mMap ps) < 0 then none
    else match pClean (worstB ps ws (mMap ps)).toNat ps ws acts with
      | none => none
      | some r => pRoom n r.1 r.2.1 r.2.2
noncomputable def pPlan (ps : List ByteArray) (ws : List Int) (s : Int) (d : ByteArray) : Option (List ByteArray × List Int × List (Int × Int × ByteArray)) :=
  if recOkB s (mSeq ps) d = false then none
  else match pRoom 10 ps ws [] with
    | none => none
    | some r => match pBurn r.1 r.2.1 s d with
      | none => none
      | some b => some (b.1, r.2.1, r.2.2 ++ [b.2])

theorem pBurn_none {ps : List ByteArray} {ws : List Int} {s : Int} {d : ByteArray} (h : nextP ps ws < 0 ∨ recOkB s (mSeq ps) d = false ∨ mSeq ps = 1000000000) : pBurn ps ws s d = none := by unfold pBurn; rw [if_pos h]
theorem pBurn_some {ps : List ByteArray} {ws : List Int} {s : Int} {d : ByteArray} {p : Nat} (h1 : nextP ps ws = (p : Int)) (h2 : recOkB s (mSeq ps) d = true) (h3 : mSeq ps ≠ 1000000000) : pBurn ps ws s d = some (ps.set p (recT s (mSeq ps) d), (1, (p : Int), recT s (mSeq ps) d)) := by
  unfold pBurn
  rw [if_neg (by rw [h1, h2]; rintro (h | h | h); omega; cases h; exact h3 h), h1]
  rfl
/-- What a burn turns of what is mounted. -/
theorem pBurn_mount {ps : List ByteArray} {ws : List Int} {s : Int} {d : ByteArray} {p : Nat} (hl : ps.length = 60) (h1 : nextP ps ws = (p : Int)) (h2 : recOkB s (mSeq ps) d = true) (h3 : mSeq ps ≠ 1000000000) :
    mMap (ps.set p (recT s (mSeq ps) d)) = (mMap ps).set s.toNat (p : Int) ∧ mSeq (ps.set p (recT s (mSeq ps) d)) = mSeq ps + 1 := by
  obtain ⟨hp, hc⟩ := next_clear hl h1
  exact burn_mount hl hp hc (by have := mSeq_bd ps; omega) (recR_of h2)
theorem set_right {ps : List ByteArray} {ws : List Int} {p : Nat} {t : ByteArray} (h : chipOkP ps ws) (ht : t.size ≤ 800) : chipOkP (ps.set p t) ws := by
  refine ⟨by rw [List.length_set]; exact h.1, h.2.1, fun s hs => ?_, h.2.2.2⟩
  rcases mem_set hs with hs | hs
  · exact h.2.2.1 s hs
  · rw [hs]; exact ht
theorem pBurn_right {ps : List ByteArray} {ws : List Int} {s : Int} {d : ByteArray} {r : List ByteArray × (Int × Int × ByteArray)} (h : chipOkP ps ws) (hb : pBurn ps ws s d = some r) : chipOkP r.1 ws := by
  unfold pBurn at hb
  split at hb
  · cases hb
  · injection hb with hb
    rw [← hb]
    exact set_right h (by have := recT_size s (mSeq ps) d; omega)
theorem pMove_right {B : Nat} {ws : List Int} : ∀ (xs : List Int) (ps : List ByteArray) (acts : List (Int × Int × ByteArray)) (r : List ByteArray × List (Int × Int × ByteArray)), chipOkP ps ws → pMove B ws xs ps acts = some r → chipOkP r.1 ws ∧ r.2.length = acts.length + xs.length := by
  intro xs
  induction xs with
  | nil =>
    intro ps acts r h hm
    simp only [pMove] at hm
    injection hm with hm
    rw [← hm]
    exact ⟨h, by simp⟩
  | cons x xs ih =>
    intro ps acts r h hm
    simp only [pMove] at hm
    split at hm
    · cases hm
    · cases hb : pBurn ps ws (recC ps x.toNat).1 (recC ps x.toNat).2.2 with
      | none => rw [hb] at hm; cases hm
      | some b =>
        rw [hb] at hm
        obtain ⟨k1, k2⟩ := ih b.1 _ r (pBurn_right h hb) hm
        exact ⟨k1, by rw [k2]; simp; omega⟩
theorem lives_bd {ms : List Int} {B : Nat} : ∀ i, ∀ x ∈ livesU ms B i, (B : Int) * 6 ≤ x ∧ x < (B : Int) * 6 + i := by
  intro i
  induction i with
  | zero => intro x hx; simp [livesU] at hx
  | succ i ih =>
    intro x hx
    simp only [livesU, List.mem_append, List.mem_filter, beq_iff_eq] at hx
    rcases hx with hx | hx
    · have := ih x hx; omega
    · omega
theorem wipe_right {ps : List ByteArray} {ws : List Int} {B : Nat} (h : chipOkP ps ws) (hw : ws[B]?.getD 0 ≠ 1000000000) : chipOkP (wipeP ps B 6) (ws.set B (ws[B]?.getD 0 + 1)) := by
  refine ⟨by rw [wipeP_len]; exact h.1, by rw [List.length_set]; exact h.2.1, fun s hs => ?_, fun x hx => ?_⟩
  · rcases wipeP_mem hs with hs | hs
    · exact h.2.2.1 s hs
    · rw [hs]; decide
  · by_cases hB : B < ws.length
    · have hx0 := h.2.2.2 ws[B] (List.getElem_mem hB)
      rw [List.getElem?_eq_getElem hB] at hx hw
      simp only [Option.getD_some] at hx hw
      rcases mem_set hx with hx | hx
      · exact h.2.2.2 x hx
      · omega
    · rw [List.set_eq_of_length_le (by omega)] at hx
      exact h.2.2.2 x hx
theorem pClean_right {B : Nat} {ps : List ByteArray} {ws : List Int} {acts : List (Int × Int × ByteArray)} {r : List ByteArray × List Int × List (Int × Int × ByteArray)} (h : chipOkP ps ws) (hc : pClean B ps ws acts = some r) : chipOkP r.1 r.2.1 ∧ r.2.2.length ≤ acts.length + 157 := by
  unfold pClean at hc
  cases hm : pMove B ws (livesU (mMap ps) B 6) ps acts with
  | none => rw [hm] at hc; cases hc
  | some m =>
    rw [hm] at hc
    simp only [] at hc
    split at hc
    · cases hc
    · next hw =>
      injection hc with hc
      obtain ⟨k1, k2⟩ := pMove_right _ _ _ _ h hm
      have hl := livesU_len (mMap ps) B 6
      rw [mMap_len] at hl
      rw [← hc]
      exact ⟨wipe_right k1 hw, by simp only [List.length_append, List.length_cons, List.length_nil]; omega⟩
theorem pRoom_right : ∀ (n : Nat) (ps : List ByteArray) (ws : List Int) (acts : List (Int × Int × ByteArray)) (r : List ByteArray × List Int × List (Int × Int × ByteArray)), chipOkP ps ws → pRoom n ps ws acts = some r → chipOkP r.1 r.2.1 ∧ r.2.2.length ≤ acts.length + 157 * n := by
  intro n
  induction n with
  | zero =>
    intro ps ws acts r h hr
    simp only [pRoom] at hr
    injection hr with hr
    rw [← hr]
    exact ⟨h, by simp only []; omega⟩
  | succ n ih =>
    intro ps ws acts r h hr
    simp only [pRoom] at hr
    split at hr
    · injection hr with hr
      rw [← hr]
      exact ⟨h, by simp only []; omega⟩
    · split at hr
      · cases hr
      · cases hc : pClean (worstB ps ws (mMap ps)).toNat ps ws acts with
        | none => rw [hc] at hr; cases hr
        | some c =>
          rw [hc] at hr
          obtain ⟨k1, k2⟩ := pClean_right h hc
          obtain ⟨k3, k4⟩ := ih _ _ _ _ k1 hr
          exact ⟨k3, by omega⟩
theorem pPlan_right {ps : List ByteArray} {ws : List Int} {s : Int} {d : ByteArray} {r : List ByteArray × List Int × List (Int × Int × ByteArray)} (h : chipOkP ps ws) (hp : pPlan ps ws s d = some r) : chipOkP r.1 r.2.1 ∧ r.2.2.length ≤ 1571 := by
  unfold pPlan at hp
  split at hp
  · cases hp
  · cases hr : pRoom 10 ps ws [] with
    | none => rw [hr] at hp; cases hp
    | some m =>
      rw [hr] at hp
      simp only [] at hp
      obtain ⟨k1, k2⟩ := pRoom_right _ _ _ _ _ h hr
      cases hb : pBurn m.1 m.2.1 s d with
      | none => rw [hb] at hp; cases hp
      | some b =>
        rw [hb] at hp
        injection hp with hp
        rw [← hp]
        exact ⟨pBurn_right k1 hb, by simp only [List.length_append, List.length_cons, List.length_nil] at k2 ⊢; omega⟩

/-- The worst block is not free. -/
theorem worst_used {ps : List ByteArray} {ws ms : List Int} {b : Nat} (hl : ps.length = 60) (h : worstB ps ws ms = (b : Int)) : b < 10 ∧ (b : Int) ∉ freeB ps 10 ∧ (b : Int) ≠ openB ps ws := by
  rw [worstB_min hl] at h
  split at h
  · omega
  · next hne =>
    split at h
    · omega
    · have hin := minG_in (cf := wcmp (lvL ps ms (nextP ps ws) (blk 10)) ws) (usedL ps (nextP ps ws) (blk 10)) (fun x hx => (usedL_bd hx).1) hne
      rw [h] at hin
      obtain ⟨x, hx, hu, he⟩ := usedL_mem hin
      have hb : x.val = b := by omega
      rw [hb] at hu
      have hb10 : b < 10 := by have := x.isLt; omega
      have hno : ¬ ((clr ps b 6).1 = 6 ∨ (b : Int) = openB ps ws) := fun h' => by
        rw [(usd_iff (ws := ws) hl hb10).2 h'] at hu; cases hu
      refine ⟨hb10, fun hf => hno (.inl ?_), fun ho => hno (.inr ho)⟩
      have hmem : ∀ (k : Nat) (y : Int), y ∈ freeB ps k → ∃ c : Nat, y = c ∧ (clr ps c 6).1 = 6 := by
        intro k
        induction k with
        | zero => intro y hy; simp [freeB] at hy
        | succ k ih =>
          intro y hy
          unfold freeB at hy
          split at hy
          · next hk =>
            rcases List.mem_append.1 hy with hy | hy
            · exact ih y hy
            · exact ⟨k, by simpa using hy, hk⟩
          · exact ih y hy
      obtain ⟨c, hc, hcl⟩ := hmem 10 _ hf
      obtain rfl : b = c := by omega
      exact hcl
/-- Where there are free blocks there is a next page. -/
theorem next_of_free {ps : List ByteArray} {ws : List Int} (h : freeB ps 10 ≠ []) : 0 ≤ nextP ps ws := by
  by_cases hh : ∃ B, B < 10 ∧ hitP ps B
  · obtain ⟨B, hB, hhit, hmin⟩ := first_hit hh
    have hn := nextP_hit (ws := ws) hB hhit hmin
    have hb6 := clr_bd ps B 6
    unfold hitP at hhit
    omega
  · have hno : ∀ b, b < 10 → ¬ hitP ps b := fun b hb hp => hh ⟨b, hb, hp⟩
    have hn := nextP_none (ws := ws) hno
    rw [if_neg h] at hn
    have hm := minF_mem (ws := ws) (freeB ps 10) (fun x hx => by have := freeB_bd ps 10 x hx; omega) h
    omega
/-- Room, as the program asks for it. -/
theorem enough_iff {ps : List ByteArray} {ws : List Int} : ¬ pEnough ps ws ↔ ((freeB ps 10).length < 2 ∨ ((freeB ps 10).length = 2 ∧ nextP ps ws % 6 = 0)) := by
  unfold pEnough
  by_cases h2 : (freeB ps 10).length = 2
  · have hn := next_of_free (ws := ws) (ps := ps) (by intro h; rw [h] at h2; cases h2)
    unfold openB
    constructor
    · intro h
      right
      refine ⟨h2, ?_⟩
      by_cases h6 : nextP ps ws % 6 = 0
      · exact h6
      · exact absurd (.inr ⟨h2, by rw [if_neg (by omega)]; omega⟩) h
    · rintro (h | ⟨-, h⟩)
      · omega
      · rintro (h' | ⟨-, h'⟩)
        · omega
        · rw [if_pos (.inr h)] at h'; omega
  · omega
end Go.Proofs.YtdicjbabnknjhaaGreat
