/-
  Contracts of the program's RecRead, and of recOf: a panic is recovered, the record is then none.
  Contracts of the program's recOf and RecRead.
  Contract of the program's RecRead.
-/
import Derived.Test.YtelbannfbglgcaaJMounted30
namespace Go.Proofs.Ytelbannfbglgcaa
open Go.RowKit

/-- What bytes tell of a record. -/
def recD (zs : List Int) : Option (Int × Int × List Int) :=
  match getN zs 0 with
  | none => none
  | some (n, j) => if n = sumOf (zs.drop j) then
      match getR (zs.drop j) 0 with
      | none => none
      | some (s, q, ys, l) => if l = (zs.drop j).length ∧ recOkB s q (strOf ys) = true then some (s, q, ys) else none
    else none

theorem recD_no1 {zs : List Int} (h : getN zs 0 = none) : recD zs = none := by unfold recD; rw [h]
theorem recD_no2 {zs : List Int} {n : Int} {j : Nat} (h : getN zs 0 = some (n, j)) (h2 : n ≠ sumOf (zs.drop j)) : recD zs = none := by unfold recD; rw [h]; simp only []; rw [if_neg h2]
theorem recD_no3 {zs : List Int} {n : Int} {j : Nat} (h : getN zs 0 = some (n, j)) (h3 : getR (zs.drop j) 0 = none) : recD zs = none := by
  unfold recD; rw [h]; simp only []; rw [h3]; simp
theorem recD_no4 {zs : List Int} {n s q : Int} {j l : Nat} {ys : List Int} (h : getN zs 0 = some (n, j)) (h3 : getR (zs.drop j) 0 = some (s, q, ys, l)) (h4 : ¬ (l = (zs.drop j).length ∧ recOkB s q (strOf ys) = true)) : recD zs = none := by
  unfold recD; rw [h]; simp only []; rw [h3]; simp only []; rw [if_neg h4]; simp
theorem recD_yes {zs : List Int} {n s q : Int} {j l : Nat} {ys : List Int} (h : getN zs 0 = some (n, j)) (h2 : n = sumOf (zs.drop j)) (h3 : getR (zs.drop j) 0 = some (s, q, ys, l)) (h4 : l = (zs.drop j).length ∧ recOkB s q (strOf ys) = true) : recD zs = some (s, q, ys) := by
  unfold recD; rw [h]; simp only []; rw [if_pos h2, h3]; simp only []; rw [if_pos h4]

theorem getR_parts {zs : List Int} {i s q : Int} {ys : List Int} {l : Nat} (h : getR zs i = some (s, q, ys, l)) : ∃ j k : Nat, getN zs i = some (s, j) ∧ getN zs (j : Int) = some (q, k) ∧ getT zs (k : Int) = some (ys, l) := by
  unfold getR at h
  split at h
  · simp at h
  · split at h
    · simp at h
    · split at h
      · simp at h
      · simp only [Option.some.injEq, Prod.mk.injEq] at h
        obtain ⟨rfl, rfl, rfl, rfl⟩ := h
        exact ⟨_, _, by assumption, by assumption, by assumption⟩

theorem take_on {zs : List Int} {i j : Nat} (h : i ≤ j) : zs.take i ++ (zs.drop i).take (j - i) = zs.take j := by
  have e : j = i + (j - i) := by omega
  conv => rhs; rw [e, List.take_add]

theorem getR_rest {zs : List Int} (hb : IsBytes zs) {s q : Int} {ys : List Int} {l : Nat} (h : getR zs 0 = some (s, q, ys, l)) : restB s q (strOf ys) = zs.take l := by
  obtain ⟨j, k, h1, h2, h3⟩ := getR_parts h
  have a1 := getN_inv hb h1
  have a2 := getN_inv hb h2
  have a3 := getT_inv hb h3
  obtain ⟨-, b1, c1⟩ := a1
  obtain ⟨-, b2, c2⟩ := a2
  obtain ⟨-, b3, -, -, c3⟩ := a3
  simp only [Int.toNat_natCast] at c1 c2 c3
  unfold restB
  rw [c1, c2, c3]
  have e1 : (zs.drop (0 : Int).toNat).take (j - (0 : Int).toNat) = zs.take j := by simp
  rw [e1, take_on (by omega), take_on (by omega)]

theorem recD_is (t : ByteArray) (s q : Int) (ys : List Int) (h : recD (strB t) = some (s, q, ys)) : recR t = some (s, q, strOf ys) := by
  have hb := strB_bytes t
  unfold recD at h
  split at h
  · simp at h
  · rename_i n j hg
    split at h
    · rename_i hs
      split at h
      · simp at h
      · rename_i s' q' ys' l hr
        split at h
        · rename_i hok
          simp only [Option.some.injEq, Prod.mk.injEq] at h
          obtain ⟨rfl, rfl, rfl⟩ := h
          obtain ⟨rfl, hok⟩ := hok
          refine recR_iff.2 ⟨hok, ?_⟩
          have hbd : IsBytes ((strB t).drop j) := fun z hz => hb z (List.mem_of_mem_drop hz)
          have e := getR_rest hbd hr
          rw [List.take_length] at e
          have a1 := (getN_inv hb hg).2.2
          simp at a1
          unfold recT recB
          rw [if_pos hok, e, ← hs, a1, List.take_append_drop, strOf_strB]
        · simp at h
    · simp at h

theorem recD_of {t : ByteArray} {s q : Int} {d : ByteArray} (h : recR t = some (s, q, d)) : recD (strB t) = some (s, q, strB d) := by
  obtain ⟨hok, ht⟩ := recR_iff.1 h
  obtain ⟨⟨s0, s1⟩, ⟨q0, q1⟩, hd⟩ := recOkB_iff.1 hok
  have hB : strB t = putB (sumOf (restB s q d)) ++ restB s q d := by
    rw [← ht, recT, strB_strOf (recB_bytes s q d), recB, if_pos hok]
  have hsum := sumOf_bd (restB s q d)
  have hg : getN (strB t) 0 = some (sumOf (restB s q d), (putB (sumOf (restB s q d))).length) := by
    rw [hB]; exact getN_putB _ (by omega) (by omega)
  have hdr : (strB t).drop (putB (sumOf (restB s q d))).length = restB s q d := by rw [hB]; simp
  have e1 : restB s q d = putB s ++ (putB q ++ textB d) := by simp [restB]
  have e2 : restB s q d = (putB s ++ putB q) ++ textB d := rfl
  have hR : getR (restB s q d) 0 = some (s, q, strB d, (restB s q d).length) := by
    refine getR_yes (j := (putB s).length) (k := (putB s ++ putB q).length) ?_ ?_ ?_
    · rw [e1]; exact getN_putB _ s0 (by omega)
    · rw [e1, getN_mid _ _ (by omega) q1]; simp
    · rw [e2, getT_mid _ (by omega)]; simp [Nat.add_assoc]
  exact recD_yes hg (by rw [hdr]) (by rw [hdr]; exact hR) (by rw [hdr, strOf_strB]; exact ⟨rfl, hok⟩)

theorem recD_none {t : ByteArray} : recD (strB t) = none ↔ recR t = none := by
  constructor
  · intro h
    cases hr : recR t with
    | none => rfl
    | some r => obtain ⟨s, q, d⟩ := r; rw [recD_of hr] at h; simp at h
  · intro h
    cases hr : recD (strB t) with
    | none => rfl
    | some r => obtain ⟨s, q, d⟩ := r; rw [recD_is _ _ _ _ hr] at h; simp at h

set_option maxRecDepth 100000 in
set_option maxHeartbeats 800000 in
theorem recOf1_panicking (B : Nat) (x0 x1 x2 : Value) (u : TypeId) (pv : Value) (older : List PanicEntry) (w : World) (h : C3 w B x0 x1 x2) :
    CallsD Try.prog 111 #[.pointer (some ⟨B, 0, none⟩)] (.panicking ({ v := .iface u pv, recovered := false } :: older)) w fun e u' w' =>
      e = .returned (.tuple #[]) ∧ u' = .panicking ({ v := .iface u pv, recovered := true } :: older) ∧ w' = ((w.setCell ⟨B, 0, none⟩ (.int .i64 0)).setCell ⟨B, 1, none⟩ (.int .i64 0)).setCell ⟨B, 2, none⟩ (.string ⟨#[]⟩) := by
  obtain ⟨⟨h1, h2, h3⟩, hf⟩ := h
  have f1 := hf 0
  have f2 := hf 1
  have f3 := hf 2
  refine callsD_of_wpS Try.func111 rfl fun c₀ cs hu => ?_
  apply wpS_seq
  apply wpS_region
  simp [wpOpsS, go_sem, recoverD, hu, Try.ntmps111, Exit.thenS]
  refine wpS_cond (t := true) (by simp [Act.eval, Array.replicate]) ?_
  simp only [if_true]
  apply wpS_region
  simp [wpOpsS, go_sem, h1, h2, h3, f1, f2, f3, bodyPostS, results, Try.results111]

theorem recOf1_idle (B : Nat) (w : World) :
    CallsD Try.prog 111 #[.pointer (some ⟨B, 0, none⟩)] .returning w fun e u' w' => e = .returned (.tuple #[]) ∧ u' = .returning ∧ w' = w := by
  refine callsD_of_wpS Try.func111 rfl fun c₀ cs hu => ?_
  apply wpS_seq
  apply wpS_region
  simp [wpOpsS, go_sem, recoverD, hu, Try.ntmps111, Exit.thenS]
  refine wpS_cond (t := false) (by simp [Act.eval, Array.replicate]) ?_
  simp only [Bool.false_eq_true, if_false]
  refine wpS_of_wp (wp_skip ?_)
  cases c₀
  simp_all [bodyPostS, results, Try.results111]

end Go.Proofs.Ytelbannfbglgcaa

namespace Go.Proofs.Ytelbannfbglgcaa
open Go.RowKit

theorem rd_drop {w : World} {b off : Nat} {zs : List Int} (j : Nat) (h : ∀ i, i < zs.length → w.cell? ⟨b, off + i, none⟩ = some (.int .u8 (zs.getD i 0))) : Rd w (some ⟨b, off + j, none⟩) (u8s (zs.drop j)) := by
  refine .inr ⟨b, off + j, rfl, fun i v hv => ?_⟩
  have hi : i < (zs.drop j).length := by
    rcases Nat.lt_or_ge i (zs.drop j).length with h' | h'
    · exact h'
    · exfalso; simp only [u8s, List.getElem?_map] at hv; rw [List.getElem?_eq_none (by omega)] at hv; simp at hv
  simp at hi
  have := h (j + i) (by omega)
  rw [← Nat.add_assoc] at this
  rw [this]
  simp [u8s] at hv
  obtain ⟨z, hz, rfl⟩ := hv
  simp [hz]

theorem C3.belowAt {B : Nat} {u u' : World} {p : Nat} {x0 x1 x2 : Value} (h : C3 u p x0 x1 x2) (hb : Below B u u') (hp : p < B) : C3 u' p x0 x1 x2 :=
  ⟨⟨(hb.cell (p := ⟨p, 0, none⟩) hp).trans h.1.1, (hb.cell (p := ⟨p, 1, none⟩) hp).trans h.1.2.1, (hb.cell (p := ⟨p, 2, none⟩) hp).trans h.1.2.2⟩, fun j => (hb.frozen (p := ⟨p, j, none⟩) hp).trans (h.2 j)⟩
/-- The record that recOf hands back. -/
def recV (r : Option (Int × Int × List Int)) : Value :=
  match r with
  | none => .agg #[.int .i64 0, .int .i64 0, .string ⟨#[]⟩]
  | some (s, q, ys) => .agg #[.int .i64 s, .int .i64 q, .string (strOf ys)]
theorem recV_no {r : Option (Int × Int × List Int)} (h : r = none) : Value.agg #[.int .i64 0, .int .i64 0, .string ⟨#[]⟩] = recV r := by subst h; rfl
theorem recV_yes {r : Option (Int × Int × List Int)} {s q : Int} {ys : List Int} (h : r = some (s, q, ys)) : Value.agg #[.int .i64 s, .int .i64 q, .string (strOf ys)] = recV r := by subst h; rfl

set_option maxRecDepth 100000 in
set_option maxHeartbeats 3200000 in
theorem recOf_any (a : Option Addr) (zs : List Int) (cap : Nat) (w : World) (hr : Rd w a (u8s zs)) (hb : IsBytes zs) (hm : zs.length ≤ 1048576) (hcap : zs.length ≤ cap) :
    Calls Try.prog 76 #[.slice a zs.length cap] w fun e w' => e = .returned (recV (recD zs)) ∧ Below w.heap.size w w' := by
  have hmf : ∀ (fn : Fn) (first cap : Array Value) (w : World), (Instr.makeFunc fn first cap).run Try.prog w = .ok (.func fn first cap) w := fun _ _ _ _ => rfl
  obtain ⟨A, hA⟩ : ∃ A, A = w.alloc (Obj.cells #[.int .i64 0, .int .i64 0, .string ⟨#[]⟩] 50) := ⟨_, rfl⟩
  obtain ⟨A2, hA2⟩ : ∃ A2, A2 = A.alloc (Obj.cells #[.int .i64 0] 3) := ⟨_, rfl⟩
  obtain ⟨W, hW⟩ : ∃ W, W = A2.setCell ⟨w.heap.size + 1, 0, none⟩ (.int .i64 0) := ⟨_, rfl⟩
  have hsA : A.heap.size = w.heap.size + 1 := by rw [hA]; simp
  have hbA : Below w.heap.size w A := by rw [hA]; exact (Below.refl _ _).alloc (Nat.le_refl _) _
  have hbAA : Below A.heap.size A A2 := by rw [hA2]; exact (Below.refl _ _).alloc (Nat.le_refl _) _
  have q0 : A2.cell? ⟨w.heap.size + 1, 0, none⟩ = some (.int .i64 0) := by rw [hA2, ← hsA]; simp
  have g0 : A2.frozen? ⟨w.heap.size + 1, 0, none⟩ = false := by rw [hA2, ← hsA]; simp
  have hbAW : Below A.heap.size A W := by rw [hW]; exact hbAA.setCell (by show _ ≤ _; simp; omega) _
  have hbW := after hbA hbAW
  have k0 : C3 W w.heap.size (.int .i64 0) (.int .i64 0) (.string ⟨#[]⟩) := by
    have : C3 A w.heap.size (.int .i64 0) (.int .i64 0) (.string ⟨#[]⟩) := by rw [hA]; exact c3_new _ _ _ _ _
    exact this.below hbAW
  have p0 : W.cell? ⟨w.heap.size + 1, 0, none⟩ = some (.int .i64 0) := by rw [hW]; exact World.cell?_setCell_same _ _ _ q0
  have f0 : W.frozen? ⟨w.heap.size + 1, 0, none⟩ = false := by rw [hW]; simpa using g0
  have HR : Hid (∀ u, Below (w.heap.size + 1) W u → Rd u a (u8s zs)) := fun u hu => hr.below (hbW.trans (hu.mono (by omega)))
  clear hbA hbAW hr hsA hbAA
  go_enter_defers Try.func76, Try.ntmps76
  go_wp2_with (first | (rw [← hA]) | (rw [← hA2]; clear hA hA2))
  rw [← hW]
  clear hW q0 g0
  refine (takeNum_any a zs cap (w.heap.size + 1) 0 W HR.out hb hm p0 f0).mono ?_
  rintro e w1 ⟨hb1, ht⟩
  have c1 : C3 w1 w.heap.size (.int .i64 0) (.int .i64 0) (.string ⟨#[]⟩)  := k0.belowAt hb1 (by omega)
  have hbw1 : Below w.heap.size w w1 := hbW.trans (hb1.mono (by omega))
  cases hg : getN zs 0 with
  | none =>
    rw [hg] at ht
    obtain ⟨s, rfl⟩ := ht
    have hT := hide (recV_no (recD_no1 hg))
    clear hg HR p0 f0 k0
    go_wp2
    refine leaves_cons (f := 111) (args := #[.pointer (some ⟨w.heap.size, 0, none⟩)]) (by simp) (by simp [go_sem]) ?_
    refine (recOf1_panicking w.heap.size _ _ _ 9 _ [] _ c1).mono ?_
    rintro e u' w'' ⟨rfl, rfl, rfl⟩
    obtain ⟨⟨x0, x1, x2⟩, -⟩ := c1
    rw [← hT.out]
    simp [Leaves, settle, results, Try.results76, go_sem, x0, x1, x2]
    exact ((hbw1.setCell (Nat.le_refl _) _).setCell (Nat.le_refl _) _).setCell (Nat.le_refl _) _
  | some r =>
    obtain ⟨n, j⟩ := r
    rw [hg] at ht
    obtain ⟨rfl, p1, f1⟩ := ht
    have hbd := getN_bd hb hg
    have hj : j ≤ zs.length := hbd.2.2.1
    have hrd := HR.out w1 hb1
    obtain ⟨b, off, rfl, hc⟩ := rd_u8 (k := 0) hrd (by omega)
    have H1 := hide hg
    clear hg hrd p0 f0 k0
    by_cases hcj : zs.length = j
    · subst hcj
      have hd0 : zs.drop zs.length = [] := by simp
      have hT := hide (recV_no (recD_no3 H1.out (by rw [hd0]; rfl)))
      have RS := hide (implSum_any (some ⟨b, off, none⟩) [] 0 w1 (.inl rfl) (by intro z hz; simp at hz) (by simp))
      clear hc HR
      go_wp2_with fail
      refine RS.out.mono ?_
      rintro e u ⟨rfl, hu⟩
      have hu' := hu.symm
      subst hu'
      obtain ⟨S, hS⟩ : ∃ S, S = sumOf [] := ⟨_, rfl⟩
      rw [← hS]
      clear hS RS
      by_cases hn : n = S
      · subst hn
        have hnn : (n != n) = false := by simp
        obtain ⟨V, hV⟩ : ∃ V, V = w1.setCell ⟨w.heap.size + 1, 0, none⟩ (.int .i64 0) := ⟨_, rfl⟩
        have p2 : V.cell? ⟨w.heap.size + 1, 0, none⟩ = some (.int .i64 0) := by rw [hV]; exact World.cell?_setCell_same _ _ _ p1
        have f2 : V.frozen? ⟨w.heap.size + 1, 0, none⟩ = false := by rw [hV]; simpa using f1
        have hbV : Below (w.heap.size + 1) w1 V := by rw [hV]; exact (Below.refl (w.heap.size + 1) w1).setCell (p := ⟨w.heap.size + 1, 0, none⟩) (Nat.le_refl _) _
        have c2 := c1.belowAt hbV (by omega)
        have hbwV : Below w.heap.size w V := hbw1.trans (hbV.mono (by omega))
        have TR := hide (takeRec_any (some ⟨b, off, none⟩) [] 0 (w.heap.size + 1) 0 V (fun _ _ => .inl rfl) (by intro z hz; simp at hz) (by simp) (by simp) p2 f2)
        have hn0 : getR [] 0 = none := rfl
        rw [hn0] at TR
        clear p2 f2 hbV c1 hbw1
        go_wp2_with fail
        rw [← hV]
        clear hV p1 f1
        refine TR.out.mono ?_
        rintro e w3 ⟨hb3, s, rfl⟩
        have c3 := c2.belowAt hb3 (by omega)
        have hbw3 : Below w.heap.size w w3 := hbwV.trans (hb3.mono (by omega))
        clear c2 hb3 hbwV
        go_wp2
        refine leaves_cons (f := 111) (args := #[.pointer (some ⟨w.heap.size, 0, none⟩)]) (by simp) (by simp [go_sem]) ?_
        refine (recOf1_panicking w.heap.size _ _ _ 9 _ [] _ c3).mono ?_
        rintro e u' w'' ⟨rfl, rfl, rfl⟩
        obtain ⟨⟨x0, x1, x2⟩, -⟩ := c3
        rw [← hT.out]
        simp [Leaves, settle, results, Try.results76, go_sem, x0, x1, x2]
        exact ((hbw3.setCell (Nat.le_refl _) _).setCell (Nat.le_refl _) _).setCell (Nat.le_refl _) _
      · have hnn : (n != S) = true := by simpa using hn
        clear p1 f1
        obtain ⟨⟨x0, x1, x2⟩, xf⟩ := c1
        have y0 := xf 0
        have y1 := xf 1
        have y2 := xf 2
        clear xf
        go_wp2
        refine leaves_cons (f := 111) (args := #[.pointer (some ⟨w.heap.size, 0, none⟩)]) (by simp) (by simp [go_sem]) ?_
        refine (recOf1_idle w.heap.size _).mono ?_
        rintro e u' w'' ⟨rfl, rfl, rfl⟩
        rw [← hT.out]
        simp [Leaves, settle, results, Try.results76, go_sem, x0, x1, x2]
        exact ((hbw1.setCell (Nat.le_refl _) _).setCell (Nat.le_refl _) _).setCell (Nat.le_refl _) _
    · have hlt : j < zs.length := by omega
      obtain ⟨Z, hZ⟩ : ∃ Z, Z = zs.drop j := ⟨_, rfl⟩
      have hZl : zs.length - j = Z.length := by rw [hZ]; simp
      have hZb : IsBytes Z := by rw [hZ]; exact fun z hz => hb z (List.mem_of_mem_drop hz)
      have HZ := hide hZ
      have HRZ : Hid (∀ u, Below (w.heap.size + 1) w1 u → Rd u (some ⟨b, off + j, none⟩) (u8s Z)) := by
        intro u hu
        obtain ⟨b', off', hab, hc'⟩ := rd_u8 (k := 0) (HR.out u (hb1.trans hu)) (by omega)
        cases hab
        rw [HZ.out]
        exact rd_drop j hc'
      have RS := hide (implSum_any (some ⟨b, off + j, none⟩) Z Z.length w1 (HRZ.out w1 (Below.refl _ _)) hZb (by unfold maxLen; omega))
      clear hc HR hZ
      go_wp2_with fail
      refine RS.out.mono ?_
      rintro e u ⟨rfl, hu⟩
      have hu' := hu.symm
      subst hu'
      obtain ⟨S, hS⟩ : ∃ S, S = sumOf Z := ⟨_, rfl⟩
      rw [← hS]
      have HS := hide hS
      clear hS RS
      by_cases hn : n = S
      · have HN := hide hn
        subst hn
        have hnn : (n != n) = false := by simp
        obtain ⟨V, hV⟩ : ∃ V, V = w1.setCell ⟨w.heap.size + 1, 0, none⟩ (.int .i64 0) := ⟨_, rfl⟩
        have p2 : V.cell? ⟨w.heap.size + 1, 0, none⟩ = some (.int .i64 0) := by rw [hV]; exact World.cell?_setCell_same _ _ _ p1
        have f2 : V.frozen? ⟨w.heap.size + 1, 0, none⟩ = false := by rw [hV]; simpa using f1
        have hbV : Below (w.heap.size + 1) w1 V := by rw [hV]; exact (Below.refl (w.heap.size + 1) w1).setCell (p := ⟨w.heap.size + 1, 0, none⟩) (Nat.le_refl _) _
        have c2 := c1.belowAt hbV (by omega)
        have hbwV : Below w.heap.size w V := hbw1.trans (hbV.mono (by omega))
        have TR := hide (takeRec_any (some ⟨b, off + j, none⟩) Z Z.length (w.heap.size + 1) 0 V (fun u hu => HRZ.out u (hbV.trans hu)) hZb (by omega) (Nat.le_refl _) p2 f2)
        clear p2 f2 hbV c1 hbw1 HRZ
        go_wp2_with fail
        rw [← hV]
        clear hV p1 f1
        refine TR.out.mono ?_
        rintro e w3 ⟨hb3, ht⟩
        have c3 := c2.belowAt hb3 (by omega)
        have hbw3 : Below w.heap.size w w3 := hbwV.trans (hb3.mono (by omega))
        clear c2 hb3 hbwV TR
        cases hg : getR Z 0 with
        | none =>
          rw [hg] at ht
          obtain ⟨s, rfl⟩ := ht
          have hT := hide (recV_no (recD_no3 H1.out (by rw [← HZ.out]; exact hg)))
          clear hg
          go_wp2
          refine leaves_cons (f := 111) (args := #[.pointer (some ⟨w.heap.size, 0, none⟩)]) (by simp) (by simp [go_sem]) ?_
          refine (recOf1_panicking w.heap.size _ _ _ 9 _ [] _ c3).mono ?_
          rintro e u' w'' ⟨rfl, rfl, rfl⟩
          obtain ⟨⟨x0, x1, x2⟩, -⟩ := c3
          rw [← hT.out]
          simp [Leaves, settle, results, Try.results76, go_sem, x0, x1, x2]
          exact ((hbw3.setCell (Nat.le_refl _) _).setCell (Nat.le_refl _) _).setCell (Nat.le_refl _) _
        | some r =>
          obtain ⟨s, q, ys, l⟩ := r
          rw [hg] at ht
          obtain ⟨rfl, p3, f3⟩ := ht
          have HG := hide hg
          have hyl : (strOf ys).size ≤ maxLen := by
            obtain ⟨j', k', -, -, h3⟩ := getR_parts hg
            have := getT_len h3
            rw [strOf_size]; unfold maxLen; omega
          have hs3 := c3.lt
          obtain ⟨U3, hU3⟩ : ∃ U3, U3 = w3.alloc (Obj.cells #[.int .i64 s, .int .i64 q, .string (strOf ys)] 50) := ⟨_, rfl⟩
          have hbU3 : Below w3.heap.size w3 U3 := by rw [hU3]; exact (Below.refl _ _).alloc (Nat.le_refl _) _
          have u0 : C3 U3 w3.heap.size (.int .i64 s) (.int .i64 q) (.string (strOf ys)) := by rw [hU3]; exact c3_new _ _ _ _ _
          obtain ⟨⟨v00, v01, v02⟩, uf⟩ := u0
          have c4 := c3.below hbU3
          have p4 := (hbU3.cell (p := ⟨w.heap.size + 1, 0, none⟩) (lt_of_cell p3)).trans p3
          have hbw4 := after hbw3 hbU3
          clear hg c3 uf hbU3 f3
          have hlz : 0 < Z.length := by omega
          by_cases hl : l = Z.length
          · subst hl
            have hll : ((Z.length : Int) != (Z.length : Int)) = false := by simp
            go_wp2_with (rw [← hU3]; clear hU3)
            refine (implRecOk_any s q (strOf ys) U3 hyl).mono ?_
            rintro e w5 ⟨rfl, hb5⟩
            have c5 := c4.below hb5
            have hbw5 := after hbw4 hb5
            have hl3 : w3.heap.size < U3.heap.size := lt_of_cell v00
            have t0 := (hb5.cell (p := ⟨w3.heap.size, 0, none⟩) hl3).trans v00
            have t1 := (hb5.cell (p := ⟨w3.heap.size, 1, none⟩) hl3).trans v01
            have t2 := (hb5.cell (p := ⟨w3.heap.size, 2, none⟩) hl3).trans v02
            clear v00 v01 v02 c4 hb5 hbw4 p4
            cases hok : recOkB s q (strOf ys) with
            | true =>
              have hT := hide (recV_yes (recD_yes H1.out (by rw [← HZ.out, ← HS.out]) (by rw [← HZ.out]; exact HG.out) (by rw [← HZ.out]; exact ⟨rfl, hok⟩)))
              clear hok
              obtain ⟨⟨x0, x1, x2⟩, xf⟩ := c5
              have y0 := xf 0
              have y1 := xf 1
              have y2 := xf 2
              clear xf
              go_wp2
              refine leaves_cons (f := 111) (args := #[.pointer (some ⟨w.heap.size, 0, none⟩)]) (by simp) (by simp [go_sem]) ?_
              refine (recOf1_idle w.heap.size _).mono ?_
              rintro e u' w'' ⟨rfl, rfl, rfl⟩
              rw [← hT.out]
              simp [Leaves, settle, results, Try.results76, go_sem, x0, x1, x2]
              exact ((hbw5.setCell (Nat.le_refl _) _).setCell (Nat.le_refl _) _).setCell (Nat.le_refl _) _
            | false =>
              have hT := hide (recV_no (recD_no4 H1.out (by rw [← HZ.out]; exact HG.out) (by rw [hok]; simp)))
              clear hok
              obtain ⟨⟨x0, x1, x2⟩, xf⟩ := c5
              have y0 := xf 0
              have y1 := xf 1
              have y2 := xf 2
              clear xf
              go_wp2
              refine leaves_cons (f := 111) (args := #[.pointer (some ⟨w.heap.size, 0, none⟩)]) (by simp) (by simp [go_sem]) ?_
              refine (recOf1_idle w.heap.size _).mono ?_
              rintro e u' w'' ⟨rfl, rfl, rfl⟩
              rw [← hT.out]
              simp [Leaves, settle, results, Try.results76, go_sem, x0, x1, x2]
              exact ((hbw5.setCell (Nat.le_refl _) _).setCell (Nat.le_refl _) _).setCell (Nat.le_refl _) _
          · have hll : ((l : Int) != (Z.length : Int)) = true := by simp; omega
            have hT := hide (recV_no (recD_no4 H1.out (by rw [← HZ.out]; exact HG.out) (by rw [← HZ.out]; exact fun h => hl h.1)))
            obtain ⟨⟨x0, x1, x2⟩, xf⟩ := c4
            have y0 := xf 0
            have y1 := xf 1
            have y2 := xf 2
            clear xf
            go_wp2_with (rw [← hU3]; clear hU3)
            refine leaves_cons (f := 111) (args := #[.pointer (some ⟨w.heap.size, 0, none⟩)]) (by simp) (by simp [go_sem]) ?_
            refine (recOf1_idle w.heap.size _).mono ?_
            rintro e u' w'' ⟨rfl, rfl, rfl⟩
            rw [← hT.out]
            simp [Leaves, settle, results, Try.results76, go_sem, x0, x1, x2]
            exact ((hbw4.setCell (Nat.le_refl _) _).setCell (Nat.le_refl _) _).setCell (Nat.le_refl _) _
      · have hnn : (n != S) = true := by simpa using hn
        have hT := hide (recV_no (recD_no2 H1.out (by rw [← HZ.out, ← HS.out]; exact hn)))
        clear p1 f1 HRZ
        obtain ⟨⟨x0, x1, x2⟩, xf⟩ := c1
        have y0 := xf 0
        have y1 := xf 1
        have y2 := xf 2
        clear xf
        go_wp2
        refine leaves_cons (f := 111) (args := #[.pointer (some ⟨w.heap.size, 0, none⟩)]) (by simp) (by simp [go_sem]) ?_
        refine (recOf1_idle w.heap.size _).mono ?_
        rintro e u' w'' ⟨rfl, rfl, rfl⟩
        rw [← hT.out]
        simp [Leaves, settle, results, Try.results76, go_sem, x0, x1, x2]
        exact ((hbw1.setCell (Nat.le_refl _) _).setCell (Nat.le_refl _) _).setCell (Nat.le_refl _) _

end Go.Proofs.Ytelbannfbglgcaa

namespace Go.Proofs.Ytelbannfbglgcaa
open Go.RowKit

theorem recV_of {t : ByteArray} {s q : Int} {d : ByteArray} (h : recR t = some (s, q, d)) : recV (recD (strB t)) = .agg #[.int .i64 s, .int .i64 q, .string d] := by
  rw [recD_of h]; simp [recV, strOf_strB]
theorem recV_none {t : ByteArray} (h : recR t = none) : recV (recD (strB t)) = .agg #[.int .i64 0, .int .i64 0, .string ⟨#[]⟩] := by
  rw [recD_none.2 h]; rfl

set_option maxRecDepth 100000 in
set_option maxHeartbeats 6400000 in
theorem implRecRead_any (t : ByteArray) (w : World) (ht : t.size ≤ 1048576) :
    Calls Try.prog 29 #[.string t] w fun e w' => (∀ s q d, recR t = some (s, q, d) → e = .returned (.tuple #[.agg #[.int .i64 s, .int .i64 q, .string d], .bool true])) ∧
      (recR t = none → e = .returned (.tuple #[.agg #[.int .i64 0, .int .i64 0, .string ByteArray.empty], .bool false])) ∧ Below w.heap.size w w' := by
  have hcv := fun w => run_bytes_of_string (P := Try.prog) w 9 22 5 t Try.underlying9 Try.underlying22 Try.underlying5
  obtain ⟨A, hA⟩ : ∃ A, A = w.alloc (Obj.cells #[.int .i64 0, .int .i64 0, .string ⟨#[]⟩] 50) := ⟨_, rfl⟩
  have hsA : A.heap.size = w.heap.size + 1 := by rw [hA]; simp
  obtain ⟨C, hC⟩ : ∃ C, C = grownCap A t.size 0 5 := ⟨_, rfl⟩
  have hcap : t.size ≤ C := by rw [hC]; exact grownCap_ge _ _ _ _
  obtain ⟨X, hX⟩ : ∃ X, X = Obj.cells (bytesRow t C) 5 ((bytesRow t C).size, (bytesRow t C).size + 1) := ⟨_, rfl⟩
  obtain ⟨W, hW⟩ : ∃ W, W = (A.alloc X).drew := ⟨_, rfl⟩
  have hbA : Below w.heap.size w A := by rw [hA]; exact (Below.refl _ _).alloc (Nat.le_refl _) _
  have hbX : Below A.heap.size A W := by rw [hW]; exact after_drew ((Below.refl _ _).alloc (Nat.le_refl _) _) 1
  have hbW : Below w.heap.size w W := after hbA hbX
  have hrd : Rd W (some ⟨w.heap.size + 1, 0, none⟩) (u8s (strB t)) := by
    have := (rd_bytes t A C)
    rw [← hX, hsA] at this
    rw [hW]
    exact this
  have k0 : C3 W w.heap.size (.int .i64 0) (.int .i64 0) (.string ⟨#[]⟩) := by
    have : C3 A w.heap.size (.int .i64 0) (.int .i64 0) (.string ⟨#[]⟩) := by rw [hA]; exact c3_new _ _ _ _ _
    exact this.below hbX
  have RO := hide (recOf_any (some ⟨w.heap.size + 1, 0, none⟩) (strB t) C W hrd (strB_bytes t) (by rw [strB_len]; exact ht) (by rw [strB_len]; exact hcap))
  rw [strB_len] at RO
  clear hbA hbX hrd hsA
  go_enter Try.func29, Try.ntmps29
  go_wp2_with fail
  rw [← hA]
  rw [← hC]
  rw [← hX]
  rw [← hW]
  clear hA hC hX hW hcv
  refine RO.out.mono ?_
  rintro e w1 ⟨rfl, hb1⟩
  have k1 := k0.below hb1
  have hbw1 := after hbW hb1
  have hs1 := k1.lt
  clear RO k0 hb1
  cases hr : recR t with
  | none =>
    rw [recV_none hr]
    have HN := hide hr
    clear hr
    obtain ⟨U, hU⟩ : ∃ U, U = w1.alloc (Obj.cells #[.int .i64 0, .int .i64 0, .string ⟨#[]⟩] 50) := ⟨_, rfl⟩
    have hbU : Below w1.heap.size w1 U := by rw [hU]; exact (Below.refl _ _).alloc (Nat.le_refl _) _
    have u0 : C3 U w1.heap.size (.int .i64 0) (.int .i64 0) (.string ⟨#[]⟩) := by rw [hU]; exact c3_new _ _ _ _ _
    have k2 := k1.below hbU
    have hbw2 := after hbw1 hbU
    obtain ⟨⟨u00, u01, u02⟩, -⟩ := u0
    obtain ⟨⟨x0, x1, x2⟩, xf⟩ := k2
    have y0 := xf 0
    have y1 := xf 1
    have y2 := xf 2
    clear xf k1 hbU
    go_wp2_with fail
    rw [← hU]
    clear hU
    go_region
    all_goals go_wp2
    all_goals exact bodyPost_ret (v := .tuple #[.agg #[.int .i64 0, .int .i64 0, .string ⟨#[]⟩], .bool false]) (by simp [results, Try.results29, go_sem, x0, x1, x2]) rfl ⟨fun s q d h => (by rw [HN.out] at h; cases h), fun _ => rfl, (((hbw2.setCell (by show _ ≤ _; simp) _).setCell (by show _ ≤ _; simp) _).setCell (by show _ ≤ _; simp) _).drew⟩
  | some r =>
    obtain ⟨s, q, d⟩ := r
    rw [recV_of hr]
    have hq : 1 ≤ q := (recOkB_iff.1 (recR_iff.1 hr).1).2.1.1
    have HN := hide hr
    clear hr
    have hq0 : (q == 0) = false := by simp; omega
    obtain ⟨U, hU⟩ : ∃ U, U = w1.alloc (Obj.cells #[.int .i64 s, .int .i64 q, .string d] 50) := ⟨_, rfl⟩
    have hbU : Below w1.heap.size w1 U := by rw [hU]; exact (Below.refl _ _).alloc (Nat.le_refl _) _
    have u0 : C3 U w1.heap.size (.int .i64 s) (.int .i64 q) (.string d) := by rw [hU]; exact c3_new _ _ _ _ _
    have k2 := k1.below hbU
    have hbw2 := after hbw1 hbU
    obtain ⟨⟨u00, u01, u02⟩, -⟩ := u0
    obtain ⟨⟨x0, x1, x2⟩, xf⟩ := k2
    have y0 := xf 0
    have y1 := xf 1
    have y2 := xf 2
    clear xf k1 hbU
    go_wp2_with (rw [← hU]; clear hU)
    go_region
    all_goals go_wp2
    all_goals exact bodyPost_ret (v := .tuple #[.agg #[.int .i64 s, .int .i64 q, .string d], .bool true]) (by simp [results, Try.results29, go_sem, x0, x1, x2]) rfl ⟨fun s' q' d' h => (by rw [HN.out] at h; cases h; rfl), fun h => (by rw [HN.out] at h; cases h), (((hbw2.setCell (by show _ ≤ _; simp) _).setCell (by show _ ≤ _; simp) _).setCell (by show _ ≤ _; simp) _).drew⟩

end Go.Proofs.Ytelbannfbglgcaa
