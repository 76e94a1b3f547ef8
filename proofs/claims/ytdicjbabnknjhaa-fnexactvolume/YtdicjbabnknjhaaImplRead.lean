/-
  Contracts of the program's RecRead, and of recOf: a panic is recovered, the record is then none.
-/
import Derived.Test.YtdicjbabnknjhaaImplRec
namespace Go.Proofs.Ytdicjbabnknjhaa
open Go.RowKit

/-- What bytes tell of a record. -/
def recD (zs : List Int) : Option (Int × Int × List Int) :=
  match getN zs 0 with
  | none => none
  | some (n, j) => if n = sumOf (zs.drop j) then
      match getR (zs.drop j) 0 with
      | none => none
      | some (s, q, ys, l) => if l = (zs.drop j).length ∧ recOkB s q (strOf ys) = true then some (s, q, ys) else none
    else none

theorem recD_no1 {zs : List Int} (h : getN zs 0 = none) : recD zs = none := by unfold recD; rw [h]
theorem recD_no2 {zs : List Int} {n : Int} {j : Nat} (h : getN zs 0 = some (n, j)) (h2 : n ≠ sumOf (zs.drop j)) : recD zs = none := by unfold recD; rw [h]; simp only []; rw [if_neg h2]
theorem recD_no3 {zs : List Int} {n : Int} {j : Nat} (h : getN zs 0 = some (n, j)) (h3 : getR (zs.drop j) 0 = none) : recD zs = none := by
  unfold recD; rw [h]; simp only []; rw [h3]; simp
theorem recD_no4 {zs : List Int} {n s q : Int} {j l : Nat} {ys : List Int} (h : getN zs 0 = some (n, j)) (h3 : getR (zs.drop j) 0 = some (s, q, ys, l)) (h4 : ¬ (l = (zs.drop j).length ∧ recOkB s q (strOf ys) = true)) : recD zs = none := by
  unfold recD; rw [h]; simp only []; rw [h3]; simp only []; rw [if_neg h4]; simp
theorem recD_yes {zs : List Int} {n s q : Int} {j l : Nat} {ys : List Int} (h : getN zs 0 = some (n, j)) (h2 : n = sumOf (zs.drop j)) (h3 : getR (zs.drop j) 0 = some (s, q, ys, l)) (h4 : l = (zs.drop j).length ∧ recOkB s q (strOf ys) = true) : recD zs = some (s, q, ys) := by
  unfold recD; rw [h]; simp only []; rw [if_pos h2, h3]; simp only []; rw [if_pos h4]

theorem getR_parts {zs : List Int} {i s q : Int} {ys : List Int} {l : Nat} (h : getR zs i = some (s, q, ys, l)) : ∃ j k : Nat, getN zs i = some (s, j) ∧ getN zs (j : Int) = some (q, k) ∧ getT zs (k : Int) = some (ys, l) := by
  unfold getR at h
  split at h
  · simp at h
  · split at h
    · simp at h
    · split at h
      · simp at h
      · simp only [Option.some.injEq, Prod.mk.injEq] at h
        obtain ⟨rfl, rfl, rfl, rfl⟩ := h
        exact ⟨_, _, by assumption, by assumption, by assumption⟩

theorem take_on {zs : List Int} {i j : Nat} (h : i ≤ j) : zs.take i ++ (zs.drop i).take (j - i) = zs.take j := by
  have e : j = i + (j - i) := by omega
  conv => rhs; rw [e, List.take_add]

theorem getR_rest {zs : List Int} (hb : IsBytes zs) {s q : Int} {ys : List Int} {l : Nat} (h : getR zs 0 = some (s, q, ys, l)) : restB s q (strOf ys) = zs.take l := by
  obtain ⟨j, k, h1, h2, h3⟩ := getR_parts h
  have a1 := getN_inv hb h1
  have a2 := getN_inv hb h2
  have a3 := getT_inv hb h3
  obtain ⟨-, b1, c1⟩ := a1
  obtain ⟨-, b2, c2⟩ := a2
  obtain ⟨-, b3, -, -, c3⟩ := a3
  simp only [Int.toNat_natCast] at c1 c2 c3
  unfold restB
  rw [c1, c2, c3]
  have e1 : (zs.drop (0 : Int).toNat).take (j - (0 : Int).toNat) = zs.take j := by simp
  rw [e1, take_on (by omega), take_on (by omega)]

theorem recD_is (t : ByteArray) (s q : Int) (ys : List Int) (h : recD (strB t) = some (s, q, ys)) : recR t = some (s, q, strOf ys) := by
  have hb := strB_bytes t
  unfold recD at h
  split at h
  · simp at h
  · rename_i n j hg
    split at h
    · rename_i hs
      split at h
      · simp at h
      · rename_i s' q' ys' l hr
        split at h
        · rename_i hok
          simp only [Option.some.injEq, Prod.mk.injEq] at h
          obtain ⟨rfl, rfl, rfl⟩ := h
          obtain ⟨rfl, hok⟩ := hok
          refine recR_iff.2 ⟨hok, ?_⟩
          have hbd : IsBytes ((strB t).drop j) := fun z hz => hb z (List.mem_of_mem_drop hz)
          have e := getR_rest hbd hr
          rw [List.take_length] at e
          have a1 := (getN_inv hb hg).2.2
          simp at a1
          unfold recT recB
          rw [if_pos hok, e, ← hs, a1, List.take_append_drop, strOf_strB]
        · simp at h
    · simp at h

theorem recD_of {t : ByteArray} {s q : Int} {d : ByteArray} (h : recR t = some (s, q, d)) : recD (strB t) = some (s, q, strB d) := by
  obtain ⟨hok, ht⟩ := recR_iff.1 h
  obtain ⟨⟨s0, s1⟩, ⟨q0, q1⟩, hd⟩ := recOkB_iff.1 hok
  have hB : strB t = putB (sumOf (restB s q d)) ++ restB s q d := by
    rw [← ht, recT, strB_strOf (recB_bytes s q d), recB, if_pos hok]
  have hsum := sumOf_bd (restB s q d)
  have hg : getN (strB t) 0 = some (sumOf (restB s q d), (putB (sumOf (restB s q d))).length) := by
    rw [hB]; exact getN_putB _ (by omega) (by omega)
  have hdr : (strB t).drop (putB (sumOf (restB s q d))).length = restB s q d := by rw [hB]; simp
  have e1 : restB s q d = putB s ++ (putB q ++ textB d) := by simp [restB]
  have e2 : restB s q d = (putB s ++ putB q) ++ textB d := rfl
  have hR : getR (restB s q d) 0 = some (s, q, strB d, (restB s q d).length) := by
    refine getR_yes (j := (putB s).length) (k := (putB s ++ putB q).length) ?_ ?_ ?_
    · rw [e1]; exact getN_putB _ s0 (by omega)
    · rw [e1, getN_mid _ _ (by omega) q1]; simp
    · rw [e2, getT_mid _ (by omega)]; simp [Nat.add_assoc]
  exact recD_yes hg (by rw [hdr]) (by rw [hdr]; exact hR) (by rw [hdr, strOf_strB]; exact ⟨rfl, hok⟩)

theorem recD_none {t : ByteArray} : recD (strB t) = none ↔ recR t = none := by
  constructor
  · intro h
    cases hr : recR t with
    | none => rfl
    | some r => obtain ⟨s, q, d⟩ := r; rw [recD_of hr] at h; simp at h
  · intro h
    cases hr : recD (strB t) with
    | none => rfl
    | some r => obtain ⟨s, q, d⟩ := r; rw [recD_is _ _ _ _ hr] at h; simp at h

set_option maxRecDepth 100000 in
set_option maxHeartbeats 800000 in
theorem recOf1_panicking (B : Nat) (x0 x1 x2 : Value) (u : TypeId) (pv : Value) (older : List PanicEntry) (w : World) (h : C3 w B x0 x1 x2) :
    CallsD Try.prog 81 #[.pointer (some ⟨B, 0, none⟩)] (.panicking ({ v := .iface u pv, recovered := false } :: older)) w fun e u' w' =>
      e = .returned (.tuple #[]) ∧ u' = .panicking ({ v := .iface u pv, recovered := true } :: older) ∧ w' = ((w.setCell ⟨B, 0, none⟩ (.int .i64 0)).setCell ⟨B, 1, none⟩ (.int .i64 0)).setCell ⟨B, 2, none⟩ (.string ⟨#[]⟩) := by
  obtain ⟨⟨h1, h2, h3⟩, hf⟩ := h
  have f1 := hf 0
  have f2 := hf 1
  have f3 := hf 2
  refine callsD_of_wpS Try.func81 rfl fun c₀ cs hu => ?_
  apply wpS_seq
  apply wpS_region
  simp [wpOpsS, go_sem, recoverD, hu, Try.ntmps81, Exit.thenS]
  refine wpS_cond (t := true) (by simp [Act.eval, Array.replicate]) ?_
  simp only [if_true]
  apply wpS_region
  simp [wpOpsS, go_sem, h1, h2, h3, f1, f2, f3, bodyPostS, results, Try.results81]

theorem recOf1_idle (B : Nat) (w : World) :
    CallsD Try.prog 81 #[.pointer (some ⟨B, 0, none⟩)] .returning w fun e u' w' => e = .returned (.tuple #[]) ∧ u' = .returning ∧ w' = w := by
  refine callsD_of_wpS Try.func81 rfl fun c₀ cs hu => ?_
  apply wpS_seq
  apply wpS_region
  simp [wpOpsS, go_sem, recoverD, hu, Try.ntmps81, Exit.thenS]
  refine wpS_cond (t := false) (by simp [Act.eval, Array.replicate]) ?_
  simp only [Bool.false_eq_true, if_false]
  refine wpS_of_wp (wp_skip ?_)
  cases c₀
  simp_all [bodyPostS, results, Try.results81]

end Go.Proofs.Ytdicjbabnknjhaa
