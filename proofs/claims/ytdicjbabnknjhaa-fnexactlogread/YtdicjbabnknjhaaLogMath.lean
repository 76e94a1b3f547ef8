/-
  The log against its text: a batch, its text, what a text tells.
-/
import Derived.Test.YtdicjbabnknjhaaRecMath
import Derived.Test.YtdicjbabnknjhaaImplRec
namespace Go.Proofs.Ytdicjbabnknjhaa
open Go.RowKit

/-- The put at a place is of a sector ahead of the log, and of none that stands ahead of it. -/
def putInP (L : List (Int × ByteArray)) (k : Nat) : Prop := ∃ x, L[k]? = some x ∧ (0 ≤ x.1 ∧ x.1 ≤ 23) ∧ ∀ j, j < k → ∀ y, L[j]? = some y → y.1 ≠ x.1
def inP (L : List (Int × ByteArray)) : Prop := L.length ≤ 3 ∧ ∀ k, k < L.length → putInP L k
def shortP (L : List (Int × ByteArray)) : Prop := ∀ x ∈ L, x.2.size ≤ 400
def putBt (x : Int × ByteArray) : List Int := putB x.1 ++ textB x.2
def putsB (L : List (Int × ByteArray)) : List Int := L.flatMap putBt
def logRest (L : List (Int × ByteArray)) : List Int := putB L.length ++ putsB L
def logFull (L : List (Int × ByteArray)) : List Int := putB (sumOf (logRest L)) ++ logRest L
open Classical in
noncomputable def logB (L : List (Int × ByteArray)) : List Int := if inP L ∧ shortP L ∧ L ≠ [] ∧ (logFull L).length ≤ 400 then logFull L else []
noncomputable def logT (L : List (Int × ByteArray)) : ByteArray := strOf (logB L)

theorem putBt_bytes (x : Int × ByteArray) : IsBytes (putBt x) := (putB_bytes _).app (textB_bytes _)
theorem putsB_bytes : ∀ (L : List (Int × ByteArray)), IsBytes (putsB L) := by
  intro L z hz
  obtain ⟨x, -, h⟩ := List.mem_flatMap.1 hz
  exact putBt_bytes x z h
theorem putsB_snoc (L : List (Int × ByteArray)) (x : Int × ByteArray) : putsB (L ++ [x]) = putsB L ++ putBt x := by simp [putsB]
theorem putsB_cons (L : List (Int × ByteArray)) (x : Int × ByteArray) : putsB (x :: L) = putBt x ++ putsB L := by simp [putsB]
theorem putBt_len (x : Int × ByteArray) : (putBt x).length ≤ 410 := by
  have h1 := putB_len x.1
  have h2 := textB_len x.2
  simp [putBt]; omega
theorem putsB_len (L : List (Int × ByteArray)) : (putsB L).length ≤ 410 * L.length := by
  induction L with
  | nil => simp [putsB]
  | cons x L ih => rw [putsB_cons, List.length_append, List.length_cons]; have := putBt_len x; omega
theorem logRest_bytes (L : List (Int × ByteArray)) : IsBytes (logRest L) := (putB_bytes _).app (putsB_bytes L)
theorem logFull_bytes (L : List (Int × ByteArray)) : IsBytes (logFull L) := (putB_bytes _).app (logRest_bytes L)
theorem logB_bytes (L : List (Int × ByteArray)) : IsBytes (logB L) := by
  unfold logB
  split
  · exact logFull_bytes L
  · intro z hz; simp at hz
theorem logB_len (L : List (Int × ByteArray)) : (logB L).length ≤ 400 := by
  unfold logB
  split
  · next h => exact h.2.2.2
  · simp
theorem logT_size (L : List (Int × ByteArray)) : (logT L).size ≤ 400 := by unfold logT; rw [strOf_size]; exact logB_len L
theorem strOf_nil : strOf [] = ByteArray.empty := rfl
theorem logT_no {L : List (Int × ByteArray)} (h : ¬ (inP L ∧ shortP L ∧ L ≠ [] ∧ (logFull L).length ≤ 400)) : logT L = ByteArray.empty := by unfold logT logB; rw [if_neg h]; rfl
theorem logT_yes {L : List (Int × ByteArray)} (h : inP L ∧ shortP L ∧ L ≠ [] ∧ (logFull L).length ≤ 400) : logT L = strOf (logFull L) := by unfold logT logB; rw [if_pos h]
theorem logFull_pos (L : List (Int × ByteArray)) : 0 < (logFull L).length := by
  have hs := sumOf_bd (logRest L)
  have : 0 < (putB (sumOf (logRest L))).length := by
    unfold putB
    rw [if_pos (by omega)]
    exact (numF_len 4 _).1
  simp [logFull]; omega
theorem logT_some {L : List (Int × ByteArray)} (h : logT L ≠ ByteArray.empty) : inP L ∧ shortP L ∧ L ≠ [] ∧ (logFull L).length ≤ 400 := Classical.byContradiction fun hn => h (logT_no hn)

/-- A put that begins at a place. -/
def getP (zs : List Int) (i : Nat) : Option (Int × List Int × Nat) :=
  match getN zs (i : Int) with
  | none => none
  | some (s, j) => match getT zs (j : Int) with
    | none => none
    | some (ys, l) => some (s, ys, l)
/-- So many puts, one behind the other, behind those that were read. -/
def getL (zs : List Int) : Nat → Nat → List (Int × ByteArray) → Option (List (Int × ByteArray))
  | 0, _, acc => some acc
  | n + 1, i, acc => match getP zs i with
    | none => none
    | some (s, ys, l) => getL zs n l (acc ++ [(s, strOf ys)])
theorem getP_no1 {zs : List Int} {i : Nat} (h : getN zs (i : Int) = none) : getP zs i = none := by unfold getP; rw [h]
theorem getP_no2 {zs : List Int} {i j : Nat} {s : Int} (h : getN zs (i : Int) = some (s, j)) (h2 : getT zs (j : Int) = none) : getP zs i = none := by unfold getP; rw [h]; simp only []; rw [h2]
theorem getP_yes {zs : List Int} {i j l : Nat} {s : Int} {ys : List Int} (h : getN zs (i : Int) = some (s, j)) (h2 : getT zs (j : Int) = some (ys, l)) : getP zs i = some (s, ys, l) := by unfold getP; rw [h]; simp only []; rw [h2]
theorem getL_no {zs : List Int} {n i : Nat} {acc : List (Int × ByteArray)} (h : getP zs i = none) : getL zs (n + 1) i acc = none := by unfold getL; rw [h]
theorem getL_yes {zs : List Int} {n i l : Nat} {s : Int} {ys : List Int} {acc : List (Int × ByteArray)} (h : getP zs i = some (s, ys, l)) : getL zs (n + 1) i acc = getL zs n l (acc ++ [(s, strOf ys)]) := by rw [getL, h]
theorem getL_len {zs : List Int} : ∀ (n i : Nat) (acc L : List (Int × ByteArray)), getL zs n i acc = some L → L.length = acc.length + n := by
  intro n
  induction n with
  | zero => intro i acc L h; simp [getL] at h; subst h; simp
  | succ n ih =>
    intro i acc L h
    cases hp : getP zs i with
    | none => rw [getL_no hp] at h; cases h
    | some r =>
      obtain ⟨s, ys, l⟩ := r
      rw [getL_yes hp] at h
      have := ih _ _ _ h
      rw [List.length_append, List.length_singleton] at this
      omega

open Classical in
/-- What a text tells: the batch whose text it is. -/
noncomputable def logR (t : ByteArray) : Option (List (Int × ByteArray)) :=
  match getN (strB t) 0 with
  | none => none
  | some (_, i) => match getN (strB t) (i : Int) with
    | none => none
    | some (n, j) => if 3 < n then none else match getL (strB t) n.toNat j [] with
      | none => none
      | some L => if t ≠ ByteArray.empty ∧ logT L = t then some L else none
/-- The puts that a text would tell, were it one. -/
def logI (t : ByteArray) : List (Int × ByteArray) :=
  match getN (strB t) 0 with
  | none => []
  | some (_, i) => match getN (strB t) (i : Int) with
    | none => []
    | some (n, j) => (getL (strB t) (min n.toNat 3) j []).getD []

theorem getT_mid2 {d : ByteArray} (p r : List Int) (h : ¬ 400 < d.size) : getT (p ++ (textB d ++ r)) (p.length : Int) = some (strB d, p.length + (textB d).length) := by
  unfold getT textB
  rw [if_neg h, List.append_assoc, getN_mid p (strB d ++ r) (by omega) (by omega)]
  simp only []
  have hl := strB_len d
  rw [if_neg (by rw [List.length_append, List.length_append, List.length_append]; omega)]
  have e : (p ++ (putB ↑d.size ++ (strB d ++ r))).drop (p.length + (putB ↑d.size).length) = strB d ++ r := by
    rw [← List.append_assoc, ← List.length_append, List.drop_left]
  rw [e]
  have e2 : ((d.size : Nat) : Int).toNat = (strB d).length := by omega
  rw [e2, List.take_left, List.length_append, Nat.add_assoc]
theorem getL_mid : ∀ (M : List (Int × ByteArray)) (p : List Int) (acc : List (Int × ByteArray)), (∀ x ∈ M, (0 ≤ x.1 ∧ x.1 ≤ 1000000000) ∧ x.2.size ≤ 400) → getL (p ++ putsB M) M.length p.length acc = some (acc ++ M) := by
  intro M
  induction M with
  | nil => intro p acc _; simp [getL]
  | cons x M ih =>
    intro p acc h
    obtain ⟨⟨h0, h1⟩, h2⟩ := h x (by simp)
    have e1 : p ++ putsB (x :: M) = p ++ (putB x.1 ++ (textB x.2 ++ putsB M)) := by rw [putsB_cons, putBt]; simp
    have g1 : getN (p ++ putsB (x :: M)) (p.length : Int) = some (x.1, p.length + (putB x.1).length) := by rw [e1]; exact getN_mid p _ h0 h1
    have e2 : p ++ putsB (x :: M) = (p ++ putB x.1) ++ (textB x.2 ++ putsB M) := by rw [e1]; simp
    have g2 : getT (p ++ putsB (x :: M)) ((p.length + (putB x.1).length : Nat) : Int) = some (strB x.2, p.length + (putB x.1).length + (textB x.2).length) := by
      have := getT_mid2 (d := x.2) (p ++ putB x.1) (putsB M) (by omega)
      rw [List.length_append] at this
      rw [e2]; exact this
    have e3 : p ++ putsB (x :: M) = (p ++ putBt x) ++ putsB M := by rw [e1, putBt]; simp
    rw [List.length_cons, getL_yes (getP_yes g1 g2), strOf_strB]
    have := ih (p ++ putBt x) (acc ++ [x]) (fun y hy => h y (by simp [hy]))
    rw [e3]
    have e4 : (p ++ putBt x).length = p.length + (putB x.1).length + (textB x.2).length := by simp [putBt]; omega
    rw [e4] at this
    rw [this]
    simp

theorem in_bd {L : List (Int × ByteArray)} (h : inP L) (hs : shortP L) : ∀ x ∈ L, (0 ≤ x.1 ∧ x.1 ≤ 1000000000) ∧ x.2.size ≤ 400 := by
  intro x hx
  obtain ⟨k, hk, he⟩ := List.mem_iff_getElem.1 hx
  obtain ⟨y, hy, hb, -⟩ := h.2 k hk
  rw [List.getElem?_eq_getElem hk, he] at hy
  cases hy
  exact ⟨by omega, hs x hx⟩
/-- What the bytes of a batch's text tell. -/
theorem full_reads {L : List (Int × ByteArray)} (h : inP L) (hs : shortP L) :
    ∃ i j : Nat, getN (logFull L) 0 = some (sumOf (logRest L), i) ∧ getN (logFull L) (i : Int) = some ((L.length : Int), j) ∧ getL (logFull L) L.length j [] = some L := by
  have hsum := sumOf_bd (logRest L)
  refine ⟨(putB (sumOf (logRest L))).length, (putB (sumOf (logRest L))).length + (putB (L.length : Int)).length, getN_putB _ (by omega) (by omega), ?_, ?_⟩
  · have := getN_mid (x := (L.length : Int)) (putB (sumOf (logRest L))) (putsB L) (by omega) (by have := h.1; omega)
    exact this
  · have := getL_mid L (putB (sumOf (logRest L)) ++ putB (L.length : Int)) [] (in_bd h hs)
    rw [List.length_append] at this
    have e : logFull L = putB (sumOf (logRest L)) ++ putB (L.length : Int) ++ putsB L := by simp [logFull, logRest]
    rw [e]
    simpa using this
theorem text_ne {t : ByteArray} (h : 0 < t.size) : t ≠ ByteArray.empty := by rintro rfl; simp at h
theorem logT_ne {L : List (Int × ByteArray)} (h : inP L ∧ shortP L ∧ L ≠ [] ∧ (logFull L).length ≤ 400) : logT L ≠ ByteArray.empty := by
  apply text_ne
  rw [logT_yes h, strOf_size]; exact logFull_pos L
theorem logR_of {L : List (Int × ByteArray)} (h : logT L ≠ ByteArray.empty) : logR (logT L) = some L := by
  have hb := logT_some h
  obtain ⟨i, j, h1, h2, h3⟩ := full_reads hb.1 hb.2.1
  have e : strB (logT L) = logFull L := by rw [logT_yes hb, strB_strOf (logFull_bytes L)]
  unfold logR
  rw [e, h1]
  simp only []
  rw [h2]
  simp only []
  rw [if_neg (by have := hb.1.1; omega), Int.toNat_natCast, h3]
  simp [h]
theorem logR_some {t : ByteArray} {L : List (Int × ByteArray)} (h : logR t = some L) : logT L = t ∧ t ≠ ByteArray.empty := by
  unfold logR at h
  split at h
  · cases h
  · split at h
    · cases h
    · split at h
      · cases h
      · split at h
        · cases h
        · split at h
          · next hc => cases h; exact ⟨hc.2, hc.1⟩
          · cases h
theorem logR_iff {t : ByteArray} {L : List (Int × ByteArray)} : logR t = some L ↔ logT L = t ∧ t ≠ ByteArray.empty :=
  ⟨logR_some, fun ⟨h1, h2⟩ => by rw [← h1]; exact logR_of (by rw [h1]; exact h2)⟩
/-- Read back: a text's puts, were it one, are its batch. -/
theorem logI_of {L : List (Int × ByteArray)} (h : logT L ≠ ByteArray.empty) : logI (logT L) = L := by
  have hb := logT_some h
  obtain ⟨i, j, h1, h2, h3⟩ := full_reads hb.1 hb.2.1
  have e : strB (logT L) = logFull L := by rw [logT_yes hb, strB_strOf (logFull_bytes L)]
  unfold logI
  rw [e, h1]
  simp only []
  rw [h2]
  simp only []
  rw [Int.toNat_natCast, Nat.min_eq_left hb.1.1, h3]
  rfl
/-- The text is that of the puts that it would tell: then it is a batch's. -/
theorem logI_text {t : ByteArray} (h0 : logI t ≠ []) (h : logT (logI t) = t) : logR t = some (logI t) := by
  refine logR_iff.2 ⟨h, fun h1 => h0 ?_⟩
  subst h1
  unfold logI
  simp [strB, getN, getF]
theorem logI_none {t : ByteArray} (h : ¬ (logI t ≠ [] ∧ logT (logI t) = t)) : logR t = none := by
  cases hr : logR t with
  | none => rfl
  | some L =>
    obtain ⟨h1, h2⟩ := logR_some hr
    have h3 : logT L ≠ ByteArray.empty := by rw [h1]; exact h2
    have h4 := logI_of h3
    rw [h1] at h4
    have hb := logT_some h3
    exact absurd ⟨by rw [h4]; exact hb.2.2.1, by rw [h4]; exact h1⟩ h

end Go.Proofs.Ytdicjbabnknjhaa
