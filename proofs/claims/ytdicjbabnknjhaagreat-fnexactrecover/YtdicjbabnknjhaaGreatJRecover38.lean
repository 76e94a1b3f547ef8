/-
  Contracts of the program's putsOf and LogRead.
  Contract of the program's LogRead; what both answer.
  Contracts of the closures that Commit and Recover hand on.
-/
import Derived.Test.YtdicjbabnknjhaaGreatJRecover37
import Derived.Deep.DeepCutAuto
import Derived.Deep.RegionHeldLaw
import Derived.Deep.RegionHeld3
import Derived.Deep.RegionLaw
import Derived.Test.YtdicjbabnknjhaaGreatJRecover34
import Derived.Test.YtdicjbabnknjhaaGreatJRecover35
namespace Go.Proofs.YtdicjbabnknjhaaGreat
open Go.RowKit

/-- What holds between the rounds: the list that was read, its variable at S, the place at S + 1. -/
def PLst (wr : World) (S : Nat) (v : Value) (j : Nat) (acc : List (Int × ByteArray)) : Prop :=
  (wr.cell? ⟨S, 0, none⟩ = some v ∧ wr.frozen? ⟨S, 0, none⟩ = false) ∧ (wr.cell? ⟨S + 1, 0, none⟩ = some (.int .i64 j) ∧ wr.frozen? ⟨S + 1, 0, none⟩ = false) ∧ PutsOwn wr (S + 2) v acc ∧ S + 2 ≤ wr.heap.size
theorem PLst.drew {wr : World} {S j : Nat} {v : Value} {acc : List (Int × ByteArray)} (h : PLst wr S v j acc) : PLst wr.drew S v j acc := h
theorem PLst.taken {wr w' : World} {S j l : Nat} {v : Value} {acc : List (Int × ByteArray)} (h : PLst wr S v j acc) (hg : wr.grownBy w' (some (S + 1))) (hc : w'.cell? ⟨S + 1, 0, none⟩ = some (.int .i64 l)) (hf : w'.frozen? ⟨S + 1, 0, none⟩ = false) : PLst w' S v l acc := by
  obtain ⟨⟨h0, h1⟩, -, h2, h3⟩ := h
  have hne : (some (S + 1) : Option Nat) ≠ some S := by simp
  refine ⟨⟨grown_cell hg h0 hne, frozen_grown hg (lt_of_cell h0) h1 hne⟩, ⟨hc, hf⟩, ?_, Nat.le_trans h3 hg.size⟩
  exact World.ownsRow.kept h2 hg (.inr (fun e => by have := (World.ownsRow.lt h2 _ e).1; omega))
theorem PLst.put {wr u : World} {S j : Nat} {v v' : Value} {acc : List (Int × ByteArray)} (x : Int × ByteArray) (h : PLst wr S v j acc) (hg : wr.grownBy u v.ownBlock) (hv : u.ownsRow (S + 2) 58 2 v' (acc.length + 1) (vsPut acc ++ [.int .i64 x.1, .string x.2])) :
    PLst (u.setCell ⟨S, 0, none⟩ v') S v' j (acc ++ [x]) := by
  obtain ⟨⟨h0, h1⟩, ⟨h4, h5⟩, h2, h3⟩ := h
  have n0 : v.ownBlock ≠ some S := fun e => by have := (World.ownsRow.lt h2 _ e).1; omega
  have n1 : v.ownBlock ≠ some (S + 1) := fun e => by have := (World.ownsRow.lt h2 _ e).1; omega
  have c0 := grown_cell hg h0 n0
  have c1 := grown_cell hg h4 n1
  refine ⟨⟨World.cell?_setCell_same _ _ _ c0, by simpa using frozen_grown hg (lt_of_cell h0) h1 n0⟩, ⟨cell_other c1 (by omega), by simpa using frozen_grown hg (lt_of_cell h4) h5 n1⟩, ?_, by have := hg.size; simp [World.setCell]; omega⟩
  have e : u.ownsRow (S + 2) 58 2 v' (acc ++ [x]).length (vsPut (acc ++ [x])) := by rw [← vsPut_snoc, List.length_append, List.length_singleton]; exact hv
  exact ownsRow_setCell_below e (show S < S + 2 by omega) _

set_option maxRecDepth 100000 in
set_option maxHeartbeats 3200000 in
theorem putsOf_any (a : Option Addr) (t : ByteArray) (cap : Nat) (w : World) (hr : Rd w a (u8s (strB t))) (hm : t.size ≤ 1048576) (hcap : t.size ≤ cap) :
    Calls Tryz.prog 77 #[.slice a t.size cap] w fun e w' => ∃ v, e = .returned v ∧ PutsOwn w' w.heap.size v (logI t) ∧ Below w.heap.size w w' := by
  obtain ⟨i2, hi2, hz0, hz1, hz2⟩ := info_parts infoPut
  have hmf : ∀ (fn : Fn) (first cap : Array Value) (w : World), (Instr.makeFunc fn first cap).run Tryz.prog w = .ok (.func fn first cap) w := fun _ _ _ _ => rfl
  obtain ⟨Z, hZ⟩ : ∃ Z, Z = strB t := ⟨_, rfl⟩
  have hzl : t.size = Z.length := by rw [hZ, strB_len]
  have hb : IsBytes Z := by rw [hZ]; exact strB_bytes t
  obtain ⟨R, hR⟩ : ∃ R, R = logI t := ⟨_, rfl⟩
  have HRZ : Hid (R = match getN Z 0 with
    | none => []
    | some (_, i) => match getN Z (i : Int) with
      | none => []
      | some (n, j) => (getL Z (min n.toNat 3) j []).getD []) := by show _ = _; rw [hR, hZ]; rfl
  rw [← hZ] at hr
  rw [← hR, hzl]
  rw [hzl] at hm hcap
  clear hR hZ hzl
  obtain ⟨S, hS⟩ : ∃ S, S = w.heap.size := ⟨_, rfl⟩
  obtain ⟨A, hA⟩ : ∃ A, A = w.alloc (Obj.cells #[.slice none 0 0] 38) := ⟨_, rfl⟩
  obtain ⟨A2, hA2⟩ : ∃ A2, A2 = A.alloc (Obj.cells #[.int .i64 0] 3) := ⟨_, rfl⟩
  obtain ⟨W, hW⟩ : ∃ W, W = A2.setCell ⟨w.heap.size + 1, 0, none⟩ (.int .i64 0) := ⟨_, rfl⟩
  have hsA : A.heap.size = w.heap.size + 1 := by rw [hA]; simp
  have hbA : Below w.heap.size w A := by rw [hA]; exact (Below.refl _ _).alloc (Nat.le_refl _) _
  have hbAA : Below A.heap.size A A2 := by rw [hA2]; exact (Below.refl _ _).alloc (Nat.le_refl _) _
  have q0 : A2.cell? ⟨w.heap.size + 1, 0, none⟩ = some (.int .i64 0) := by rw [hA2, ← hsA]; simp
  have g0 : A2.frozen? ⟨w.heap.size + 1, 0, none⟩ = false := by rw [hA2, ← hsA]; simp
  have hbAW : Below A.heap.size A W := by rw [hW]; exact hbAA.setCell (by show _ ≤ _; simp; omega) _
  have hbW := after hbA hbAW
  have hP0 : PLst W S (.slice none 0 0) 0 [] := by
    have c0 : A.cell? ⟨w.heap.size, 0, none⟩ = some (.slice none 0 0) ∧ A.frozen? ⟨w.heap.size, 0, none⟩ = false := by rw [hA]; constructor <;> simp
    rw [hS]
    refine ⟨⟨(hbAW.cell (p := ⟨w.heap.size, 0, none⟩) (lt_of_cell c0.1)).trans c0.1, (hbAW.frozen (p := ⟨w.heap.size, 0, none⟩) (lt_of_cell c0.1)).trans c0.2⟩, ⟨?_, ?_⟩, World.ownsRow_nil _ _ _ _, ?_⟩
    · rw [hW]; exact World.cell?_setCell_same _ _ _ q0
    · rw [hW]; simpa using g0
    · rw [hW, hA2]; simp [World.setCell, hsA]
  have HR : Hid (∀ u, Below S w u → Rd u a (u8s Z)) := fun u hu => hr.below (by rw [← hS]; exact hu)
  have HBW : Hid (Below S w W) := by show Below S w W; rw [hS]; exact hbW
  have HP0 := hide hP0
  clear hbA hbAW hr hsA hbAA hbW hP0
  have HFIN : Hid (∀ (u : World) (v : Value) (j : Nat) (acc : List (Int × ByteArray)), PLst u S v j acc → Below S w u → R = acc → PutsOwn u S v R ∧ Below S w u) := fun u v j acc h hb hr => ⟨by rw [hr]; exact owns_mono h.2.2.1 (by omega), hb⟩
  rw [← hS]
  go_enter_defers Tryz.func77, Tryz.ntmps77
  go_wp2_with (first | (rw [← hA]) | (rw [← hA2]; clear hA hA2))
  rw [← hW]
  rw [← hS]
  clear hW hS q0 g0
  obtain ⟨⟨c0, f0⟩, ⟨p0, pf0⟩, -, -⟩ := id HP0.out
  refine (takeNum_grown a Z cap (S + 1) 0 W (fun u hu => HR.out u (HBW.out.trans (hu.mono (by omega)))) hb hm p0 pf0).mono ?_
  rintro e w1 ⟨hg1, ht⟩
  have hb1 : Below S w w1 := HBW.out.trans ((belowGrown hg1 (by have := HP0.out.2.2.2; omega)).mono (by omega))
  have HB1 := hide hb1
  clear HBW
  cases hg : getN Z 0 with
  | none =>
    rw [hg] at ht
    obtain ⟨s, rfl⟩ := ht
    have HE : Hid (R = []) := by show _ = _; rw [HRZ.out, hg]
    have x0 := grown_cell hg1 c0 (by simp)
    have y0 := frozen_grown hg1 (lt_of_cell c0) f0 (by simp)
    clear hg HR p0 c0 f0 HRZ hb1 pf0 hg1
    go_wp2
    refine leaves_cons (f := 97) (args := #[.pointer (some ⟨S, 0, none⟩)]) (by simp) (by simp [go_sem]) ?_
    refine (putsOf1_panicking S _ 9 _ [] _ x0 y0).mono ?_
    rintro e u' w'' ⟨rfl, rfl, rfl⟩
    rw [HE.out]
    simp [Leaves, settle, results, Tryz.results77, go_sem, x0]
    exact ⟨World.ownsRow_nil _ _ _ _, HB1.out.setCell (Nat.le_refl _) _⟩
  | some r =>
    obtain ⟨x0, i0⟩ := r
    rw [hg] at ht
    obtain ⟨rfl, p1, f1⟩ := ht
    have HP1 := hide (HP0.out.taken hg1 p1 f1)
    have HR1 : Hid (R = match getN Z (i0 : Int) with
      | none => []
      | some (n, j) => (getL Z (min n.toNat 3) j []).getD []) := by show _ = _; rw [HRZ.out, hg]
    clear hg p0 c0 f0 HRZ hb1 pf0 HP0 hg1
    go_wp2_with fail
    refine (takeNum_grown a Z cap (S + 1) i0 w1 (fun u hu => HR.out u (HB1.out.trans (hu.mono (by omega)))) hb hm p1 f1).mono ?_
    rintro e w2 ⟨hg2, ht⟩
    obtain ⟨⟨c0, f0⟩, -, -, -⟩ := id HP1.out
    have HB2 : Hid (Below S w w2) := HB1.out.trans ((belowGrown hg2 (by have := HP1.out.2.2.2; omega)).mono (by omega))
    cases hg : getN Z (i0 : Int) with
    | none =>
      rw [hg] at ht
      obtain ⟨s, rfl⟩ := ht
      have HE : Hid (R = []) := by show _ = _; rw [HR1.out, hg]
      have x0 := grown_cell hg2 c0 (by simp)
      have y0 := frozen_grown hg2 (lt_of_cell c0) f0 (by simp)
      clear hg HR p1 c0 f0 f1 HR1 hg2
      go_wp2
      refine leaves_cons (f := 97) (args := #[.pointer (some ⟨S, 0, none⟩)]) (by simp) (by simp [go_sem]) ?_
      refine (putsOf1_panicking S _ 9 _ [] _ x0 y0).mono ?_
      rintro e u' w'' ⟨rfl, rfl, rfl⟩
      rw [HE.out]
      simp [Leaves, settle, results, Tryz.results77, go_sem, x0]
      exact ⟨World.ownsRow_nil _ _ _ _, HB2.out.setCell (Nat.le_refl _) _⟩
    | some r =>
      obtain ⟨n, j0⟩ := r
      rw [hg] at ht
      obtain ⟨rfl, p2, f2⟩ := ht
      have HP2 := hide (HP1.out.taken hg2 p2 f2)
      have hnb := getN_bd hb hg
      obtain ⟨n, rfl⟩ : ∃ k : Nat, n = k := ⟨n.toNat, by omega⟩
      obtain ⟨N, hN⟩ : ∃ N : Nat, N = min n 3 := ⟨_, rfl⟩
      have hN3 : N ≤ 3 := by omega
      have HR2 : Hid (R = (getL Z N j0 []).getD []) := by show _ = _; rw [HR1.out, hg]; simp only [Int.toNat_natCast]; rw [hN]
      obtain ⟨G, hG⟩ : ∃ G, G = getL Z N j0 [] := ⟨_, rfl⟩
      have HG0 : Hid (getL Z (N - 0) j0 [] = G) := hG.symm
      rw [← hG] at HR2
      clear hg p1 c0 f0 f1 HR1 HP1 hg2 hG hnb
      by_cases h3 : (n : Int) ≤ 3
      · obtain rfl : N = n := by omega
        clear hN
        go_wp2_with fail
        go_loopw [12] (fun i wr => ∃ (k j : Nat) (v : Value) (acc : List (Int × ByteArray)), k ≤ N ∧ i = .int .i64 k ∧ acc.length = k ∧ Hid (getL Z (N - k) j acc = G) ∧ Hid (PLst wr S v j acc) ∧ Hid (∀ y ∈ acc, y.2.size ≤ 400 ∧ 0 ≤ y.1 ∧ y.1 ≤ 1000000000) ∧ Hid (Below S w wr)) (fun i _ => N - (intOf i).toNat)
        case atStart => exact ⟨0, j0, _, [], Nat.zero_le _, rfl, rfl, HG0, HP2, fun y hy => by simp at hy, HB2⟩
        case round =>
          obtain ⟨k, j, v, acc, hk, rfl, hal, hgl, hpl, hshort, hbel⟩ := hrel
          clear HG0 HP2 HB2 p2 f2
          by_cases hlt : k < N
          · have hki : (k : Int) < ((N : Nat) : Int) := by omega
            have HAL := hide hal
            have hacl : acc.length ≤ 3 := by omega
            have HST : Hid (N - k = (N - (k + 1)) + 1) := by show _ = _; omega
            obtain ⟨⟨c0, f0⟩, ⟨p0, pf0⟩, -, hS2⟩ := id hpl.out
            have HTP := hide (takePut_any a Z cap (S + 1) j wr.drew (fun u hu => HR.out u ((hbel.out.drew).trans (hu.mono (by omega)))) hb hm hcap (by simpa using p0) (by simpa using pf0))
            clear hal
            cases hg : getP Z j with
            | none =>
              rw [hg] at HTP
              have HE : Hid (R = []) := by show _ = _; rw [HR2.out, ← hgl.out, HST.out, getL_no hg]; rfl
              clear hg
              go_wp2_with fail
              refine wp_region_any (by kernel_rfl) ?_
              try (change wpAny _ _ _ _ _ _ _ (World.drew _))
              refine wpAny_ready (rs := [0, 1]) (by kernel_rfl) (by simp) ?_
              refine AllReady.cons rfl (fun K hK => ?_) (AllReady.cons rfl (fun K hK => ?_) AllReady.nil)
              · go_simp
                refine hK _ _ ?_
                clear hK K
                refine wpAny_ready (rs := [1]) (by kernel_rfl) (by simp) ?_
                refine AllReady.cons rfl (fun K hK => ?_) AllReady.nil
                go_simp
                refine hK _ _ ?_
                clear hK K
                refine wpAny_ready (rs := [2]) (by kernel_rfl) (by simp) ?_
                refine AllReady.cons rfl (fun K hK => ?_) AllReady.nil
                go_simp
                refine HTP.out.mono ?_
                rintro e w3 ⟨hg3, s, rfl⟩
                have x0 := grown_cell hg3 (show wr.drew.cell? _ = _ by simpa using c0) (by simp)
                have y0 := frozen_grown hg3 (by simpa using lt_of_cell c0) (show wr.drew.frozen? _ = _ by simpa using f0) (by simp)
                have HB3 : Hid (Below S w w3) := hbel.out.drew.trans ((belowGrown hg3 (by simp; omega)).mono (by omega))
                clear hg3
                go_wp2
                refine leaves_cons (f := 97) (args := #[.pointer (some ⟨S, 0, none⟩)]) (by simp) (by simp [go_sem]) ?_
                refine (putsOf1_panicking S _ 9 _ [] _ x0 y0).mono ?_
                rintro e u' w'' ⟨rfl, rfl, rfl⟩
                rw [HE.out]
                simp [Leaves, settle, results, Tryz.results77, go_sem, x0]
                exact ⟨World.ownsRow_nil _ _ _ _, HB3.out.setCell (Nat.le_refl _) _⟩
              · go_simp
                refine hK _ _ ?_
                clear hK K
                refine wpAny_ready (rs := [0, 2]) (by kernel_rfl) (by simp) ?_
                refine AllReady.cons rfl (fun K hK => ?_) (AllReady.cons rfl (fun K hK => ?_) AllReady.nil)
                · go_simp
                  refine hK _ _ ?_
                  clear hK K
                  refine wpAny_ready (rs := [2]) (by kernel_rfl) (by simp) ?_
                  refine AllReady.cons rfl (fun K hK => ?_) AllReady.nil
                  go_simp
                  refine HTP.out.mono ?_
                  rintro e w3 ⟨hg3, s, rfl⟩
                  have x0 := grown_cell hg3 (show wr.drew.cell? _ = _ by simpa using c0) (by simp)
                  have y0 := frozen_grown hg3 (by simpa using lt_of_cell c0) (show wr.drew.frozen? _ = _ by simpa using f0) (by simp)
                  have HB3 : Hid (Below S w w3) := hbel.out.drew.trans ((belowGrown hg3 (by simp; omega)).mono (by omega))
                  clear hg3
                  go_wp2
                  refine leaves_cons (f := 97) (args := #[.pointer (some ⟨S, 0, none⟩)]) (by simp) (by simp [go_sem]) ?_
                  refine (putsOf1_panicking S _ 9 _ [] _ x0 y0).mono ?_
                  rintro e u' w'' ⟨rfl, rfl, rfl⟩
                  rw [HE.out]
                  simp [Leaves, settle, results, Tryz.results77, go_sem, x0]
                  exact ⟨World.ownsRow_nil _ _ _ _, HB3.out.setCell (Nat.le_refl _) _⟩
                · go_simp
                  refine HTP.out.mono ?_
                  rintro e w3 ⟨hg3, s, rfl⟩
                  have x0 := grown_cell hg3 (show wr.drew.cell? _ = _ by simpa using c0) (by simp)
                  have y0 := frozen_grown hg3 (by simpa using lt_of_cell c0) (show wr.drew.frozen? _ = _ by simpa using f0) (by simp)
                  have HB3 : Hid (Below S w w3) := hbel.out.drew.trans ((belowGrown hg3 (by simp; omega)).mono (by omega))
                  clear hg3
                  go_wp2
                  refine leaves_cons (f := 97) (args := #[.pointer (some ⟨S, 0, none⟩)]) (by simp) (by simp [go_sem]) ?_
                  refine (putsOf1_panicking S _ 9 _ [] _ x0 y0).mono ?_
                  rintro e u' w'' ⟨rfl, rfl, rfl⟩
                  rw [HE.out]
                  simp [Leaves, settle, results, Tryz.results77, go_sem, x0]
                  exact ⟨World.ownsRow_nil _ _ _ _, HB3.out.setCell (Nat.le_refl _) _⟩
              
            | some r =>
              obtain ⟨x, ys, l⟩ := r
              rw [hg] at HTP
              have HGL : Hid (getL Z (N - (k + 1)) l (acc ++ [(x, strOf ys)]) = G) := by show _ = _; rw [← hgl.out, HST.out, getL_yes hg]
              have HSH : Hid (∀ y ∈ acc ++ [(x, strOf ys)], y.2.size ≤ 400 ∧ 0 ≤ y.1 ∧ y.1 ≤ 1000000000) := by
                unfold getP at hg
                split at hg
                · cases hg
                · next s1 j1 h1 =>
                  split at hg
                  · cases hg
                  · next ys1 l1 h2 =>
                    have b2 := getN_bd hb h1
                    have b4 := getT_len h2
                    simp only [Option.some.injEq, Prod.mk.injEq] at hg
                    obtain ⟨rfl, rfl, rfl⟩ := hg
                    intro y hy
                    rcases List.mem_append.1 hy with hy | hy
                    · exact hshort.out y hy
                    · simp at hy; subst hy; exact ⟨by show (strOf _).size ≤ 400; rw [strOf_size]; exact b4, b2.1, b2.2.1⟩
              obtain ⟨av, cv, rfl⟩ := hpl.out.2.2.1.shape
              have HTQ : Hid (Calls Tryz.prog 99 #[.slice a Z.length cap, .pointer (some ⟨S + 1, 0, none⟩)] wr.drew fun e w3 => e = .returned (.agg #[.int .i64 x, .string (strOf ys)]) ∧ PLst w3 S (.slice av acc.length cv) l acc ∧ Below S w w3) := by
                refine HTP.out.mono ?_
                rintro e w3 ⟨hg3, rfl, p3, f3⟩
                exact ⟨rfl, hpl.out.drew.taken hg3 p3 f3, hbel.out.drew.trans ((belowGrown hg3 (by simp; omega)).mono (by omega))⟩
              clear hg HTP
              go_wp2_with fail
              refine wp_region_noPanic ?_
              go_region_law ((first
                | (refine step_append_row (w0 := w3) rfl (.tmp 14) (.tmp 17) 38 rfl (S + 2) 58 i2 (.agg #[.int .i64 0, .string ⟨#[]⟩]) 2 24 Tryz.underlying38 hi2 hz0 hz1 hz2 rfl (by decide) _ _ _ [.int .i64 x, .string (strOf ys)] (by rfl) HP3.out.2.2.1 rfl (put_one _ _) (by rfl) (by omega) (by omega) HP3.out.2.2.2 rfl ?_; intro v' u4 ho4 hg4; have n0 : (Value.slice av acc.length cv).ownBlock ≠ some S := (fun e => by have := (World.ownsRow.lt HP3.out.2.2.1 _ e).1; omega); have e1 := grown_cell hg4 HP3.out.1.1 n0; have g1 := frozen_grown hg4 (lt_of_cell HP3.out.1.1) HP3.out.1.2 n0; obtain ⟨a9, q9, rfl⟩ := ownsN_shape ho4; have HF := hide (And.intro (HP3.out.put (x, strOf ys) hg4 ho4) ((HB3.out.trans (grown_below HP3.out.2.2.1 hg4 HP3.out.2.2.2 |>.mono (by omega))).setCell (p := ⟨S, 0, none⟩) (Nat.le_refl S) (.slice a9 (acc.length + 1) q9))); clear ho4 hg4)
                | (go_simp; go_at_call 99; refine HTQ.out.mono ?_; rintro e w3 ⟨rfl, hp3, hb3⟩; have HP3 := hide hp3; have HB3 := hide hb3; obtain ⟨⟨e0, g0⟩, -⟩ := id HP3.out; have e0' := (((Below.refl w3.heap.size w3).alloc (Nat.le_refl _) (Obj.cells #[.int .i64 x, .string (strOf ys)] 58)).cell (p := ⟨S, 0, none⟩) (lt_of_cell e0)).trans e0; clear hp3 hb3)))
              all_goals
                refine NoPanic.normal ?_
                go_wp2
                go_roundw
                case rel => exact ⟨k + 1, l, _, acc ++ [(x, strOf ys)], by omega, by go_num, by rw [List.length_append, HAL.out]; rfl, HGL, HF.out.1, HSH, HF.out.2⟩
                case measure => simp [intOf]; omega
          · obtain rfl : k = N := by omega
            have hki : ¬ ((k : Nat) : Int) < ((k : Nat) : Int) := by omega
            have HE : Hid (R = acc) := by show _ = _; rw [HR2.out, ← hgl.out, Nat.sub_self]; rfl
            obtain ⟨av, cv, rfl⟩ := hpl.out.2.2.1.shape
            obtain ⟨⟨c0, f0⟩, -, -, -⟩ := id hpl.out
            have HB4 : Hid (Below S w (wr.setCell ⟨S, 0, none⟩ (.slice av acc.length cv))) := hbel.out.setCell (Nat.le_refl _) _
            have HO4 : Hid (PutsOwn (wr.setCell ⟨S, 0, none⟩ (.slice av acc.length cv)) S (.slice av acc.length cv) R) := by
              show PutsOwn _ _ _ _
              rw [HE.out]
              exact owns_mono (ownsRow_setCell_below (show wr.ownsRow (S + 2) 58 2 _ acc.length (vsPut acc) from hpl.out.2.2.1) (show S < S + 2 by omega) _) (by omega)
            clear hal
            go_wp2
            refine leaves_cons (f := 97) (args := #[.pointer (some ⟨S, 0, none⟩)]) (by simp) (by simp [go_sem]) ?_
            refine (putsOf1_idle S _).mono ?_
            rintro e u' w'' ⟨rfl, rfl, rfl⟩
            simp [Leaves, settle, results, Tryz.results77, go_sem, c0]
            exact ⟨HO4.out, HB4.out⟩
      · obtain rfl : N = 3 := by omega
        clear hN
        go_wp2_with fail
        go_loopw [12] (fun i wr => ∃ (k j : Nat) (v : Value) (acc : List (Int × ByteArray)), k ≤ 3 ∧ i = .int .i64 k ∧ acc.length = k ∧ Hid (getL Z (3 - k) j acc = G) ∧ Hid (PLst wr S v j acc) ∧ Hid (∀ y ∈ acc, y.2.size ≤ 400 ∧ 0 ≤ y.1 ∧ y.1 ≤ 1000000000) ∧ Hid (Below S w wr)) (fun i _ => 3 - (intOf i).toNat)
        case atStart => exact ⟨0, j0, _, [], Nat.zero_le _, rfl, rfl, HG0, HP2, fun y hy => by simp at hy, HB2⟩
        case round =>
          obtain ⟨k, j, v, acc, hk, rfl, hal, hgl, hpl, hshort, hbel⟩ := hrel
          clear HG0 HP2 HB2 p2 f2
          by_cases hlt : k < 3
          · have hki : (k : Int) < ((3 : Nat) : Int) := by omega
            have HAL := hide hal
            have hacl : acc.length ≤ 3 := by omega
            have HST : Hid (3 - k = (3 - (k + 1)) + 1) := by show _ = _; omega
            obtain ⟨⟨c0, f0⟩, ⟨p0, pf0⟩, -, hS2⟩ := id hpl.out
            have HTP := hide (takePut_any a Z cap (S + 1) j wr.drew (fun u hu => HR.out u ((hbel.out.drew).trans (hu.mono (by omega)))) hb hm hcap (by simpa using p0) (by simpa using pf0))
            clear hal
            cases hg : getP Z j with
            | none =>
              rw [hg] at HTP
              have HE : Hid (R = []) := by show _ = _; rw [HR2.out, ← hgl.out, HST.out, getL_no hg]; rfl
              clear hg
              go_wp2_with fail
              refine wp_region_any (by kernel_rfl) ?_
              try (change wpAny _ _ _ _ _ _ _ (World.drew _))
              refine wpAny_ready (rs := [0, 1]) (by kernel_rfl) (by simp) ?_
              refine AllReady.cons rfl (fun K hK => ?_) (AllReady.cons rfl (fun K hK => ?_) AllReady.nil)
              · go_simp
                refine hK _ _ ?_
                clear hK K
                refine wpAny_ready (rs := [1]) (by kernel_rfl) (by simp) ?_
                refine AllReady.cons rfl (fun K hK => ?_) AllReady.nil
                go_simp
                refine hK _ _ ?_
                clear hK K
                refine wpAny_ready (rs := [2]) (by kernel_rfl) (by simp) ?_
                refine AllReady.cons rfl (fun K hK => ?_) AllReady.nil
                go_simp
                refine HTP.out.mono ?_
                rintro e w3 ⟨hg3, s, rfl⟩
                have x0 := grown_cell hg3 (show wr.drew.cell? _ = _ by simpa using c0) (by simp)
                have y0 := frozen_grown hg3 (by simpa using lt_of_cell c0) (show wr.drew.frozen? _ = _ by simpa using f0) (by simp)
                have HB3 : Hid (Below S w w3) := hbel.out.drew.trans ((belowGrown hg3 (by simp; omega)).mono (by omega))
                clear hg3
                go_wp2
                refine leaves_cons (f := 97) (args := #[.pointer (some ⟨S, 0, none⟩)]) (by simp) (by simp [go_sem]) ?_
                refine (putsOf1_panicking S _ 9 _ [] _ x0 y0).mono ?_
                rintro e u' w'' ⟨rfl, rfl, rfl⟩
                rw [HE.out]
                simp [Leaves, settle, results, Tryz.results77, go_sem, x0]
                exact ⟨World.ownsRow_nil _ _ _ _, HB3.out.setCell (Nat.le_refl _) _⟩
              · go_simp
                refine hK _ _ ?_
                clear hK K
                refine wpAny_ready (rs := [0, 2]) (by kernel_rfl) (by simp) ?_
                refine AllReady.cons rfl (fun K hK => ?_) (AllReady.cons rfl (fun K hK => ?_) AllReady.nil)
                · go_simp
                  refine hK _ _ ?_
                  clear hK K
                  refine wpAny_ready (rs := [2]) (by kernel_rfl) (by simp) ?_
                  refine AllReady.cons rfl (fun K hK => ?_) AllReady.nil
                  go_simp
                  refine HTP.out.mono ?_
                  rintro e w3 ⟨hg3, s, rfl⟩
                  have x0 := grown_cell hg3 (show wr.drew.cell? _ = _ by simpa using c0) (by simp)
                  have y0 := frozen_grown hg3 (by simpa using lt_of_cell c0) (show wr.drew.frozen? _ = _ by simpa using f0) (by simp)
                  have HB3 : Hid (Below S w w3) := hbel.out.drew.trans ((belowGrown hg3 (by simp; omega)).mono (by omega))
                  clear hg3
                  go_wp2
                  refine leaves_cons (f := 97) (args := #[.pointer (some ⟨S, 0, none⟩)]) (by simp) (by simp [go_sem]) ?_
                  refine (putsOf1_panicking S _ 9 _ [] _ x0 y0).mono ?_
                  rintro e u' w'' ⟨rfl, rfl, rfl⟩
                  rw [HE.out]
                  simp [Leaves, settle, results, Tryz.results77, go_sem, x0]
                  exact ⟨World.ownsRow_nil _ _ _ _, HB3.out.setCell (Nat.le_refl _) _⟩
                · go_simp
                  refine HTP.out.mono ?_
                  rintro e w3 ⟨hg3, s, rfl⟩
                  have x0 := grown_cell hg3 (show wr.drew.cell? _ = _ by simpa using c0) (by simp)
                  have y0 := frozen_grown hg3 (by simpa using lt_of_cell c0) (show wr.drew.frozen? _ = _ by simpa using f0) (by simp)
                  have HB3 : Hid (Below S w w3) := hbel.out.drew.trans ((belowGrown hg3 (by simp; omega)).mono (by omega))
                  clear hg3
                  go_wp2
                  refine leaves_cons (f := 97) (args := #[.pointer (some ⟨S, 0, none⟩)]) (by simp) (by simp [go_sem]) ?_
                  refine (putsOf1_panicking S _ 9 _ [] _ x0 y0).mono ?_
                  rintro e u' w'' ⟨rfl, rfl, rfl⟩
                  rw [HE.out]
                  simp [Leaves, settle, results, Tryz.results77, go_sem, x0]
                  exact ⟨World.ownsRow_nil _ _ _ _, HB3.out.setCell (Nat.le_refl _) _⟩
              
            | some r =>
              obtain ⟨x, ys, l⟩ := r
              rw [hg] at HTP
              have HGL : Hid (getL Z (3 - (k + 1)) l (acc ++ [(x, strOf ys)]) = G) := by show _ = _; rw [← hgl.out, HST.out, getL_yes hg]
              have HSH : Hid (∀ y ∈ acc ++ [(x, strOf ys)], y.2.size ≤ 400 ∧ 0 ≤ y.1 ∧ y.1 ≤ 1000000000) := by
                unfold getP at hg
                split at hg
                · cases hg
                · next s1 j1 h1 =>
                  split at hg
                  · cases hg
                  · next ys1 l1 h2 =>
                    have b2 := getN_bd hb h1
                    have b4 := getT_len h2
                    simp only [Option.some.injEq, Prod.mk.injEq] at hg
                    obtain ⟨rfl, rfl, rfl⟩ := hg
                    intro y hy
                    rcases List.mem_append.1 hy with hy | hy
                    · exact hshort.out y hy
                    · simp at hy; subst hy; exact ⟨by show (strOf _).size ≤ 400; rw [strOf_size]; exact b4, b2.1, b2.2.1⟩
              obtain ⟨av, cv, rfl⟩ := hpl.out.2.2.1.shape
              have HTQ : Hid (Calls Tryz.prog 99 #[.slice a Z.length cap, .pointer (some ⟨S + 1, 0, none⟩)] wr.drew fun e w3 => e = .returned (.agg #[.int .i64 x, .string (strOf ys)]) ∧ PLst w3 S (.slice av acc.length cv) l acc ∧ Below S w w3) := by
                refine HTP.out.mono ?_
                rintro e w3 ⟨hg3, rfl, p3, f3⟩
                exact ⟨rfl, hpl.out.drew.taken hg3 p3 f3, hbel.out.drew.trans ((belowGrown hg3 (by simp; omega)).mono (by omega))⟩
              clear hg HTP
              go_wp2_with fail
              refine wp_region_noPanic ?_
              go_region_law ((first
                | (refine step_append_row (w0 := w3) rfl (.tmp 14) (.tmp 17) 38 rfl (S + 2) 58 i2 (.agg #[.int .i64 0, .string ⟨#[]⟩]) 2 24 Tryz.underlying38 hi2 hz0 hz1 hz2 rfl (by decide) _ _ _ [.int .i64 x, .string (strOf ys)] (by rfl) HP3.out.2.2.1 rfl (put_one _ _) (by rfl) (by omega) (by omega) HP3.out.2.2.2 rfl ?_; intro v' u4 ho4 hg4; have n0 : (Value.slice av acc.length cv).ownBlock ≠ some S := (fun e => by have := (World.ownsRow.lt HP3.out.2.2.1 _ e).1; omega); have e1 := grown_cell hg4 HP3.out.1.1 n0; have g1 := frozen_grown hg4 (lt_of_cell HP3.out.1.1) HP3.out.1.2 n0; obtain ⟨a9, q9, rfl⟩ := ownsN_shape ho4; have HF := hide (And.intro (HP3.out.put (x, strOf ys) hg4 ho4) ((HB3.out.trans (grown_below HP3.out.2.2.1 hg4 HP3.out.2.2.2 |>.mono (by omega))).setCell (p := ⟨S, 0, none⟩) (Nat.le_refl S) (.slice a9 (acc.length + 1) q9))); clear ho4 hg4)
                | (go_simp; go_at_call 99; refine HTQ.out.mono ?_; rintro e w3 ⟨rfl, hp3, hb3⟩; have HP3 := hide hp3; have HB3 := hide hb3; obtain ⟨⟨e0, g0⟩, -⟩ := id HP3.out; have e0' := (((Below.refl w3.heap.size w3).alloc (Nat.le_refl _) (Obj.cells #[.int .i64 x, .string (strOf ys)] 58)).cell (p := ⟨S, 0, none⟩) (lt_of_cell e0)).trans e0; clear hp3 hb3)))
              all_goals
                refine NoPanic.normal ?_
                go_wp2
                go_roundw
                case rel => exact ⟨k + 1, l, _, acc ++ [(x, strOf ys)], by omega, by go_num, by rw [List.length_append, HAL.out]; rfl, HGL, HF.out.1, HSH, HF.out.2⟩
                case measure => simp [intOf]; omega
          · obtain rfl : k = 3 := by omega
            have hki : ¬ ((3 : Nat) : Int) < ((3 : Nat) : Int) := by omega
            have HE : Hid (R = acc) := by show _ = _; rw [HR2.out, ← hgl.out, Nat.sub_self]; rfl
            obtain ⟨av, cv, rfl⟩ := hpl.out.2.2.1.shape
            obtain ⟨⟨c0, f0⟩, -, -, -⟩ := id hpl.out
            have HB4 : Hid (Below S w (wr.setCell ⟨S, 0, none⟩ (.slice av acc.length cv))) := hbel.out.setCell (Nat.le_refl _) _
            have HO4 : Hid (PutsOwn (wr.setCell ⟨S, 0, none⟩ (.slice av acc.length cv)) S (.slice av acc.length cv) R) := by
              show PutsOwn _ _ _ _
              rw [HE.out]
              exact owns_mono (ownsRow_setCell_below (show wr.ownsRow (S + 2) 58 2 _ acc.length (vsPut acc) from hpl.out.2.2.1) (show S < S + 2 by omega) _) (by omega)
            clear hal
            go_wp2
            refine leaves_cons (f := 97) (args := #[.pointer (some ⟨S, 0, none⟩)]) (by simp) (by simp [go_sem]) ?_
            refine (putsOf1_idle S _).mono ?_
            rintro e u' w'' ⟨rfl, rfl, rfl⟩
            simp [Leaves, settle, results, Tryz.results77, go_sem, c0]
            exact ⟨HO4.out, HB4.out⟩
end Go.Proofs.YtdicjbabnknjhaaGreat

namespace Go.Proofs.YtdicjbabnknjhaaGreat
open Go.RowKit

theorem getL_bd {zs : List Int} (hb : IsBytes zs) : ∀ (n i : Nat) (acc L : List (Int × ByteArray)), (∀ y ∈ acc, y.2.size ≤ 400 ∧ 0 ≤ y.1 ∧ y.1 ≤ 1000000000) → getL zs n i acc = some L → ∀ y ∈ L, y.2.size ≤ 400 ∧ 0 ≤ y.1 ∧ y.1 ≤ 1000000000 := by
  intro n
  induction n with
  | zero => intro i acc L h hl; simp [getL] at hl; subst hl; exact h
  | succ n ih =>
    intro i acc L h hl
    cases hp : getP zs i with
    | none => rw [getL_no hp] at hl; cases hl
    | some r =>
      obtain ⟨s, ys, l⟩ := r
      rw [getL_yes hp] at hl
      refine ih _ _ _ ?_ hl
      unfold getP at hp
      split at hp
      · cases hp
      · next s1 j1 h1 =>
        split at hp
        · cases hp
        · next ys1 l1 h2 =>
          have b2 := getN_bd hb h1
          have b4 := getT_len h2
          simp only [Option.some.injEq, Prod.mk.injEq] at hp
          obtain ⟨rfl, rfl, rfl⟩ := hp
          intro y hy
          rcases List.mem_append.1 hy with hy | hy
          · exact h y hy
          · simp at hy; subst hy; exact ⟨by show (strOf _).size ≤ 400; rw [strOf_size]; exact b4, b2.1, b2.2.1⟩
theorem logI_bd (t : ByteArray) : (logI t).length ≤ 3 ∧ ∀ y ∈ logI t, y.2.size ≤ 400 ∧ 0 ≤ y.1 ∧ y.1 ≤ 1000000000 := by
  unfold logI
  split
  · simp
  · split
    · simp
    · next n j h2 =>
      cases hg : getL (strB t) (min n.toNat 3) j [] with
      | none => simp
      | some L =>
        have h1 := getL_len _ _ _ _ hg
        have h2 := getL_bd (strB_bytes t) _ _ _ _ (fun y hy => by simp at hy) hg
        exact ⟨by show L.length ≤ 3; rw [h1]; simp; omega, h2⟩

set_option maxRecDepth 100000 in
set_option maxHeartbeats 3200000 in
theorem implLogRead_any (t : ByteArray) (w : World) (ht : t.size ≤ 1048576) :
    Calls Tryz.prog 49 #[.string t] w fun e w' => ReadIs w w' e (logR t) := by
  have hcv := fun w => run_bytes_of_string (P := Tryz.prog) w 9 82 5 t Tryz.underlying9 Tryz.underlying82 Tryz.underlying5
  obtain ⟨R, hR⟩ : ∃ R, R = logR t := ⟨_, rfl⟩
  rw [← hR]
  obtain ⟨I, hI⟩ : ∃ I, I = logI t := ⟨_, rfl⟩
  have hbd := logI_bd t
  rw [← hI] at hbd
  have HRY : Hid (I ≠ [] → logT I = t → R = some I) := fun h1 h2 => by rw [hR, hI]; rw [hI] at h1 h2; exact logI_text h1 h2
  have HRN : Hid (¬ (I ≠ [] ∧ logT I = t) → R = none) := fun h => by rw [hR]; rw [hI] at h; exact logI_none h
  obtain ⟨C, hC⟩ : ∃ C, C = grownCap w t.size 0 5 := ⟨_, rfl⟩
  have hcap : t.size ≤ C := by rw [hC]; exact grownCap_ge _ _ _ _
  obtain ⟨X, hX⟩ : ∃ X, X = Obj.cells (bytesRow t C) 5 ((bytesRow t C).size, (bytesRow t C).size + 1) := ⟨_, rfl⟩
  obtain ⟨W, hW⟩ : ∃ W, W = (w.alloc X).drew := ⟨_, rfl⟩
  have hbW : Below w.heap.size w W := by rw [hW]; exact after_drew ((Below.refl _ _).alloc (Nat.le_refl _) _) 1
  have hrd : Rd W (some ⟨w.heap.size, 0, none⟩) (u8s (strB t)) := by
    have := (rd_bytes t w C)
    rw [← hX] at this
    rw [hW]; exact this
  have HPO := hide (putsOf_any (some ⟨w.heap.size, 0, none⟩) t C W hrd ht hcap)
  rw [← hI] at HPO
  have HBW := hide hbW
  have HBD := hide hbd
  have hIl := hbd.1
  clear hR hI hrd hbW hbd
  go_enter Tryz.func49, Tryz.ntmps49
  go_wp2_with fail
  rw [← hC]
  rw [← hX]
  rw [← hW]
  clear hC hX hW hcv
  refine HPO.out.mono ?_
  rintro e w1 ⟨v, rfl, ho, hb1⟩
  obtain ⟨a1, c1, rfl⟩ := ho.shape
  have HB1 := hide (after HBW.out hb1)
  have HO := hide (owns_mono ho HBW.out.size)
  have hrd1 := rd_of_ownN ho
  clear ho hb1 HPO
  by_cases h0 : I.length = 0
  · have h0' : ((I.length : Int) == 0) = true := by rw [h0]; rfl
    have HN : Hid (R = none) := HRN.out (fun h => h.1 (List.eq_nil_of_length_eq_zero h0))
    clear h0
    go_wp2
    exact bodyPost_ret (v := .tuple #[.slice none 0 0, .bool false]) (by simp [results, Tryz.results49, go_sem]) rfl (by rw [HN.out]; exact ⟨_, rfl, World.ownsRow_nil _ _ _ _, HB1.out⟩)
  · have h0' : ((I.length : Int) == 0) = false := beq_false_of_ne (by omega)
    have HNE : Hid (I ≠ []) := fun h => h0 (by rw [h]; rfl)
    have HLT := hide (implLogText_any a1 I c1 w1 hrd1 (by omega) (fun y hy => ⟨by have := (HBD.out.2 y hy).1; unfold maxLen; omega, by have := (HBD.out.2 y hy).2; omega⟩))
    obtain ⟨U, hU⟩ : ∃ U, U = logT I := ⟨_, rfl⟩
    rw [← hU] at HLT HRY HRN
    clear h0 hrd1 hU
    by_cases heq : U = t
    · have HY := hide (HRY.out HNE.out heq)
      subst heq
      have hne : (U.toList == U.toList) = true := by simp
      go_wp2_with (refine HLT.out.mono ?_; rintro e u5 ⟨rfl, hb5⟩; have HB5 := hide hb5; clear hb5)
      exact bodyPost_ret (v := .tuple #[.slice a1 I.length c1, .bool true]) (by simp [results, Tryz.results49, go_sem]) rfl (by rw [HY.out]; exact ⟨_, rfl, owns_below HO.out HB5.out, after HB1.out HB5.out⟩)
    · have HN := hide (HRN.out (fun h => heq h.2))
      have hne : (U.toList == t.toList) = false := by simpa using fun h => heq (text_inj h)
      clear heq
      go_wp2_with (refine HLT.out.mono ?_; rintro e u5 ⟨rfl, hb5⟩; have HB5 := hide hb5; clear hb5)
      exact bodyPost_ret (v := .tuple #[.slice none 0 0, .bool false]) (by simp [results, Tryz.results49, go_sem]) rfl (by rw [HN.out]; exact ⟨_, rfl, World.ownsRow_nil _ _ _ _, after HB1.out HB5.out⟩)

theorem logR_len (t : ByteArray) : ((logR t).getD []).length ≤ 3 := by
  cases h : logR t with
  | none => simp
  | some L =>
    obtain ⟨h1, h2⟩ := logR_some h
    have := (logT_some (L := L) (by rw [h1]; exact h2)).1.1
    simpa using this
end Go.Proofs.YtdicjbabnknjhaaGreat

namespace Go.Proofs.YtdicjbabnknjhaaGreat
open Go.RowKit

set_option maxRecDepth 100000 in
set_option maxHeartbeats 6400000 in
theorem writeAllF_any (P base lc : Nat) (la : Option Addr) (L : List (Int × ByteArray)) (ps : List ByteArray) (ws ms : List Int) (q : Int) (w : World) (hW : PW w P base ps ws ms q []) (hm : ms = mMap ps) (hq : q = mSeq ps) (hok : chipOkP ps ws) (hLn : L.length ≤ 1048576) (hLb : ∀ x ∈ L, x.2.size ≤ maxLen ∧ -9223372036854775808 ≤ x.1 ∧ x.1 ≤ 9223372036854775807)
    (hL : ∀ u, Below base w u → Fr P P P w u → Rd u la (vsPut L)) :
    Calls Tryz.prog 36 #[.pointer (some ⟨P, 0, none⟩), .slice la L.length lc] w fun e w' => e = .returned (.bool (pWritesL L ps ws).isSome) ∧ Below base w w' ∧ Fr P P P w w' ∧
      (∀ r, pWritesL L ps ws = some r → PW w' P base r.1 r.2.1 (mMap r.1) (mSeq r.1) r.2.2) ∧ PSome w' P base := by
  obtain ⟨A, hA⟩ : ∃ A, A = pWritesL L ps ws := ⟨_, rfl⟩
  rw [← hA]
  by_cases h8 : 8 < L.length
  · have HAN : Hid (A = none) := by show _ = _; rw [hA, pWritesL, if_pos h8]
    have hi : (8 : Int) < (L.length : Int) := by omega
    have HPS := hide hW.some
    clear hA hW hm hq hok hLb hL
    go_enter Tryz.func36, Tryz.ntmps36
    go_wp2
    go_ret
    exact ⟨by rw [HAN.out]; rfl, Below.refl _ _, Fr.of_below (Below.refl _ _), no_some HAN.out, HPS.out⟩
  · have HAL : Hid (PAll w P base L A 0) := ⟨ps, ws, ms, q, [], hW, hm, hq, hok, by rw [hA, pWritesL, if_neg h8]; rfl, by simp⟩
    have hi : ¬ (8 : Int) < (L.length : Int) := by omega
    have HL := hide hL
    have HLB := hide hLb
    clear hA hW hm hq hok hLb hL
    go_enter Tryz.func36, Tryz.ntmps36
    go_wp2
    go_loopw [12] (fun i wr => ∃ k : Nat, k ≤ L.length ∧ i = .int .i64 k ∧ Hid (PAll wr P base L A k) ∧ Hid (Below base w wr ∧ Fr P P P w wr)) (fun i _ => L.length - (intOf i).toNat)
    case atStart => exact ⟨0, Nat.zero_le _, rfl, HAL, ⟨Below.refl _ _, Fr.of_below (Below.refl _ _)⟩⟩
    case round =>
      obtain ⟨k, hk, rfl, hall, hbf⟩ := hrel
      clear HAL
      by_cases hlt : k < L.length
      · obtain ⟨b1, o1, x, rfl, h0, h1, HX⟩ := rdPut_at (HL.out wr hbf.out.1 hbf.out.2) hlt
        obtain ⟨s, t⟩ := x
        have hki : (k : Int) < (L.length : Int) := by omega
        obtain ⟨pk, wk, mk, qk, ck, hwk, hmk, hqk, hokk, hrk, hck⟩ := hall.out
        obtain ⟨W, hW⟩ : ∃ W, W = wr.alloc (Obj.cells #[.int .i64 s, .string t] 58) := ⟨_, rfl⟩
        have hbW : Below wr.heap.size wr W := by rw [hW]; exact (Below.refl _ _).alloc (Nat.le_refl _) _
        have hlb := HLB.out _ (List.mem_of_getElem? HX.out)
        have HWR := hide (pwriteC_any P base ck.length ck pk wk mk qk s t W (hwk.below hbW) hmk hqk hokk hlb.1 hlb.2.1 hlb.2.2 rfl (by omega))
        obtain ⟨B, hB⟩ : ∃ B, B = pPlanC ck pk wk s t := ⟨_, rfl⟩
        rw [← hB] at HWR
        have hBA : B = (pPlan pk wk s t).map (ahead ck) := by rw [hB, pPlanC_ahead]
        have hbase : base ≤ wr.heap.size := by obtain ⟨_, _, _, _, _, _, _, _, h⟩ := hwk; exact h.lt.2.2
        have HBF : Hid (Below base w W ∧ Fr P P P w W) := ⟨hbf.out.1.trans (hbW.mono hbase), hbf.out.2.trans (Fr.of_below hbW)⟩
        have HNO : Hid (B = none → A = none) := by
          intro h
          rw [h] at hBA
          have hp : pPlan pk wk s t = none := by
            cases hq : pPlan pk wk s t with
            | none => rfl
            | some r => rw [hq] at hBA; cases hBA
          rw [← hrk]; exact pWrites_none HX.out hp
        have HYES : Hid (∀ r, B = some r → chipOkP r.1 r.2.1 ∧ pWrites (L.drop (k + 1)) r.1 r.2.1 r.2.2 = A ∧ r.2.2.length ≤ 1571 * (k + 1)) := by
          intro r h
          rw [h] at hBA
          cases hq : pPlan pk wk s t with
          | none => rw [hq] at hBA; cases hBA
          | some r1 =>
            rw [hq] at hBA
            simp only [Option.map_some, Option.some.injEq] at hBA
            subst hBA
            have h1 := pPlan_right hokk hq
            refine ⟨h1.1, ?_, ?_⟩
            · rw [← hrk, pWrites_some HX.out hq]; rfl
            · show (ck ++ r1.2.2).length ≤ _
              rw [List.length_append]
              have := h1.2
              omega
        clear hwk hmk hqk hokk hrk hck hlb hB hBA hall hbf hbW
        go_wp2_with fail
        rw [← hW]
        clear hW
        refine HWR.out.mono ?_
        rintro e w2 ⟨rfl, hb2, hf2, hy, hps⟩
        have HB2 := hide (HBF.out.1.trans hb2)
        have HF2 := hide (HBF.out.2.trans hf2)
        have HPS := hide hps
        have HY := hide hy
        clear hb2 hf2 hy hps HWR HBF h0 h1
        cases B with
        | none =>
          have HAN := hide (HNO.out rfl)
          clear HNO HYES HY
          go_wp2
          go_ret
          exact ⟨by rw [HAN.out]; rfl, HB2.out, HF2.out, no_some HAN.out, HPS.out⟩
        | some r =>
          have HAL : Hid (PAll w2 P base L A (k + 1)) := ⟨_, _, _, _, _, HY.out r rfl, rfl, rfl, (HYES.out r rfl).1, (HYES.out r rfl).2.1, (HYES.out r rfl).2.2⟩
          clear HNO HYES HY
          go_wp2
          go_roundw
          case rel => exact ⟨k + 1, by omega, by go_num, HAL, ⟨HB2.out, HF2.out⟩⟩
          case measure => simp [intOf]; omega
      · have HE : Hid (k = L.length) := by show _ = _; omega
        have hki : ¬ (k : Int) < (L.length : Int) := by omega
        obtain ⟨pk, wk, mk, qk, ck, hwk, hmk, hqk, hokk, hrk, hck⟩ := hall.out
        have HAY : Hid (A = some (pk, wk, ck)) := by
          show _ = _
          rw [← hrk, HE.out, List.drop_length]; rfl
        have HPW : Hid (PW wr P base pk wk (mMap pk) (mSeq pk) ck) := by
          have h := hwk
          rw [hmk, hqk] at h; exact h
        clear hall hwk hmk hqk hokk hrk hck
        go_wp2
        go_ret
        exact ⟨by rw [HAY.out]; rfl, hbf.out.1, hbf.out.2, fun x y z hr => (by rw [HAY.out] at hr; cases hr; exact HPW.out), HPW.out.some⟩

/-- What Commit's closure plans. -/
noncomputable def commitX (ps : List ByteArray) (ws : List Int) (L : List (Int × ByteArray)) : Option (List ByteArray × List Int × List (Int × Int × ByteArray)) :=
  open Classical in if logT L = ByteArray.empty ∨ secD ps 24 ≠ ByteArray.empty then none else pWritesL ((24, logT L) :: (L ++ [(24, ByteArray.empty)])) ps ws
/-- What Recover's closure plans. -/
noncomputable def recoverX (ps : List ByteArray) (ws : List Int) : Option (List ByteArray × List Int × List (Int × Int × ByteArray)) :=
  open Classical in if secD ps 24 = ByteArray.empty then some (ps, ws, []) else pWritesL ((logR (secD ps 24)).getD [] ++ [(24, ByteArray.empty)]) ps ws
theorem secD_size {ps : List ByteArray} {s : Int} : (secD ps s).size ≤ 400 := by
  unfold secD
  split
  · unfold dataAt
    split
    · decide
    · unfold recC
      cases h : recR (ps[((mMap ps)[s.toNat]?.getD (-1)).toNat]?.getD ByteArray.empty) with
      | none => decide
      | some r =>
        obtain ⟨s', q', d'⟩ := r
        exact (recOkB_iff.1 (recR_some h).1).2.2
  · decide
/-- What a closure leaves. -/
def ClosIs (w w' : World) (e : Ending) (P base : Nat) (X : Option (List ByteArray × List Int × List (Int × Int × ByteArray))) : Prop :=
  e = .returned (.bool X.isSome) ∧ Below base w w' ∧ Fr P P P w w' ∧ (∀ r, X = some r → PW w' P base r.1 r.2.1 (mMap r.1) (mSeq r.1) r.2.2) ∧ PSome w' P base

set_option maxRecDepth 100000 in
set_option maxHeartbeats 6400000 in
theorem commit1_any (P base lb lc : Nat) (la : Option Addr) (L : List (Int × ByteArray)) (ps : List ByteArray) (ws ms : List Int) (q : Int) (w : World) (hW : PW w P base ps ws ms q []) (hm : ms = mMap ps) (hq : q = mSeq ps) (hok : chipOkP ps ws) (hLn : L.length ≤ 1048576) (hLb : ∀ x ∈ L, x.2.size ≤ maxLen ∧ -9223372036854775808 ≤ x.1 ∧ x.1 ≤ 9223372036854775807)
    (hs : w.cell? ⟨lb, 0, none⟩ = some (.slice la L.length lc)) (hlb : lb < base) (hd : ∀ u, Below base w u → Rd u la (vsPut L)) :
    Calls Tryz.prog 33 #[.pointer (some ⟨P, 0, none⟩), .pointer (some ⟨lb, 0, none⟩)] w fun e w' => ClosIs w w' e P base (commitX ps ws L) := by
  obtain ⟨X, hX⟩ : ∃ X, X = commitX ps ws L := ⟨_, rfl⟩
  rw [← hX]
  obtain ⟨T, hT⟩ : ∃ T, T = logT L := ⟨_, rfl⟩
  have HLT := hide (implLogText_any la L lc w (hd w (Below.refl _ _)) hLn hLb)
  rw [← hT] at HLT
  have hbw : base ≤ w.heap.size := by obtain ⟨_, _, _, _, _, _, _, _, h⟩ := hW; exact h.lt.2.2
  have HPW := hide hW
  have HD := hide hd
  have HS := hide hs
  have HFAIL : Hid (∀ u, Below w.heap.size w u → X = none → ClosIs w u (.returned (.bool false)) P base X) := fun u hu hx => by
    rw [hx]
    exact ⟨rfl, hu.mono hbw, Fr.of_below hu, fun r h => (by cases h), (hW.below hu).some⟩
  by_cases h0 : T = ByteArray.empty
  · have hem : T.toList.isEmpty = true := by rw [h0, ByteArray.toList_eq]; rfl
    have HX : Hid (X = none) := by show _ = _; rw [hX, commitX, if_pos (.inl (by rw [← hT]; exact h0))]
    clear hX hT h0 hW hm hq hok hLb hd
    go_enter Tryz.func33, Tryz.ntmps33
    go_wp2_with (refine HLT.out.mono ?_; rintro e w1 ⟨rfl, hb1⟩; have HB1 := hide hb1; clear hb1)
    go_ret
    exact HFAIL.out _ HB1.out HX.out
  · have hem := isEmpty_str h0
    obtain ⟨D, hD⟩ : ∃ D, D = secD ps 24 := ⟨_, rfl⟩
    obtain ⟨v4, k4, a5, c5, b5, d5, e5, f5, hwk⟩ := id hW
    have HWK := hide hwk
    have HSO : Hid (∀ u, Below w.heap.size w u → Calls Tryz.prog 35 #[.agg #[.slice a5 ps.length c5, .slice b5 ws.length d5, .slice e5 ms.length f5, .int .i64 q], .int .i64 24] u fun e w' => e = .returned (.string D) ∧ Below u.heap.size u w') := by
      intro u hu
      have hr := (hwk.below hu).rd
      rw [hm] at hr
      rw [hm, hD]
      exact implSectorOf_any a5 e5 _ ps c5 f5 q 24 u hr.1 hr.2.2 hok.1 (fun s h => by have := hok.2.2.1 s h; omega)
    clear hwk
    by_cases h1 : D = ByteArray.empty
    · have hem1 : D.toList.isEmpty = true := by rw [h1, ByteArray.toList_eq]; rfl
      have HX : Hid (X = pWritesL ((24, T) :: (L ++ [(24, ByteArray.empty)])) ps ws) := by show _ = _; rw [hX, commitX, if_neg (by rw [← hT, ← hD]; rintro (h | h); exact h0 h; exact h h1), hT]
      have hin := logT_some (L := L) (by rw [← hT]; exact h0)
      have HL3 : Hid (L.length ≤ 3) := hin.1.1
      have HTS : Hid (T.size ≤ 400) := by show _ ≤ _; rw [hT]; exact logT_size L
      have HMM := hide hm
      have HQQ := hide hq
      have HOK := hide hok
      have HLB := hide hLb
      clear hX hT h0 h1 hD hin hW hm hq hok hLb hd
      go_enter Tryz.func33, Tryz.ntmps33
      go_wp2_with fail
      refine HLT.out.mono ?_
      rintro e w1 ⟨rfl, hb1⟩
      have HB1 := hide hb1
      obtain ⟨⟨c0, c1, c2, c3, c4⟩, -⟩ := (HWK.out.below hb1).cells
      clear hb1 HLT hs
      go_wp2_with fail
      refine (HSO.out w1 HB1.out).mono ?_
      rintro e w2 ⟨rfl, hb2⟩
      have HB2 := hide (after HB1.out hb2)
      have s2 := (HB2.out.cell (p := ⟨lb, 0, none⟩) (by show lb < _; omega)).trans HS.out
      clear hb2 HSO HB1 c0 c1 c2 c3 c4
      have hblw2 : base ≤ w2.heap.size := Nat.le_trans hbw HB2.out.size
      have s3 := (((Below.refl w2.heap.size w2).alloc (Nat.le_refl _) (Obj.cells #[.int .i64 24, .string T] 58)).cell (p := ⟨lb, 0, none⟩) (by show lb < _; omega)).trans s2
      obtain ⟨U, hU⟩ : ∃ U, U = ((w2.alloc (Obj.cells #[.int .i64 24, .string T] 58)).alloc (Obj.cells #[.int .i64 24, .string ⟨#[]⟩] 58)).alloc (Obj.cells #[.slice (some ⟨w2.heap.size, 0, none⟩) 1 1, .slice la L.length lc, .slice (some ⟨w2.heap.size + 1, 0, none⟩) 1 1] 38) := ⟨_, rfl⟩
      have hbU : Below w2.heap.size w2 U := by rw [hU]; exact (((Below.refl _ _).alloc (Nat.le_refl _) _).alloc (by simp) _).alloc (by simp; omega) _
      have HGA := hide (gather_any (some ⟨w2.heap.size + 1 + 1, 0, none⟩) 3 [(some ⟨w2.heap.size, 0, none⟩, 1, [(24, T)]), (la, lc, L), (some ⟨w2.heap.size + 1, 0, none⟩, 1, [(24, ByteArray.empty)])] U
        (by
          refine .inr ⟨_, 0, rfl, fun i v hv => ?_⟩
          have hsz : w2.heap.size + 1 + 1 = ((w2.alloc (Obj.cells #[.int .i64 24, .string T] 58)).alloc (Obj.cells #[.int .i64 24, .string ⟨#[]⟩] 58)).heap.size := by simp
          rw [hU, hsz, Nat.zero_add, World.cell?_alloc_new]
          simpa [vsParts] using hv)
        (by
          intro x hx
          simp only [List.mem_cons, List.not_mem_nil, or_false] at hx
          rcases hx with rfl | rfl | rfl
          · refine .inr ⟨_, 0, rfl, fun i v hv => ?_⟩
            have h1 : (w2.alloc (Obj.cells #[.int .i64 24, .string T] 58)).cell? ⟨w2.heap.size, 0 + i, none⟩ = some v := by
              rw [Nat.zero_add, World.cell?_alloc_new]; simpa [vsPut] using hv
            have h2 : Below (w2.heap.size + 1) (w2.alloc (Obj.cells #[.int .i64 24, .string T] 58)) U := by rw [hU]; exact ((Below.refl _ _).alloc (by simp) _).alloc (by simp) _
            exact (h2.cell (p := ⟨w2.heap.size, 0 + i, none⟩) (by show w2.heap.size < _; omega)).trans h1
          · exact HD.out _ ((HB2.out.trans (hbU.mono HB2.out.size)).mono hbw)
          · refine .inr ⟨_, 0, rfl, fun i v hv => ?_⟩
            have hsz : w2.heap.size + 1 = (w2.alloc (Obj.cells #[.int .i64 24, .string T] 58)).heap.size := by simp
            have h1 : ((w2.alloc (Obj.cells #[.int .i64 24, .string T] 58)).alloc (Obj.cells #[.int .i64 24, .string ⟨#[]⟩] 58)).cell? ⟨w2.heap.size + 1, 0 + i, none⟩ = some v := by
              rw [hsz, Nat.zero_add, World.cell?_alloc_new]
              have hv' : ([.int .i64 24, .string ⟨#[]⟩] : List Value)[i]? = some v := hv
              simpa using hv'
            have h2 : Below (w2.heap.size + 2) ((w2.alloc (Obj.cells #[.int .i64 24, .string T] 58)).alloc (Obj.cells #[.int .i64 24, .string ⟨#[]⟩] 58)) U := by rw [hU]; exact (Below.refl _ _).alloc (by simp) _
            exact (h2.cell (p := ⟨w2.heap.size + 1, 0 + i, none⟩) (by show w2.heap.size + 1 < _; omega)).trans h1)
        (by simp) (by have := HL3.out; simp [partsOf]; omega))
      have hG : partsOf [(some ⟨w2.heap.size, 0, none⟩, 1, [(24, T)]), (la, lc, L), (some ⟨w2.heap.size + 1, 0, none⟩, 1, [(24, ByteArray.empty)])] = (24, T) :: (L ++ [(24, ByteArray.empty)]) := by simp [partsOf]
      rw [hG] at HGA
      have HBU := hide (after HB2.out hbU)
      obtain ⟨M, hM⟩ : ∃ M, M = (24, T) :: (L ++ [(24, ByteArray.empty)]) := ⟨_, rfl⟩
      rw [← hM] at HGA HX
      have HMB : Hid (∀ x ∈ M, x.2.size ≤ maxLen ∧ -9223372036854775808 ≤ x.1 ∧ x.1 ≤ 9223372036854775807) := fun x hx => by
        rw [hM] at hx
        simp only [List.mem_cons, List.mem_append, List.not_mem_nil, or_false] at hx
        rcases hx with rfl | hx | rfl
        · exact ⟨by have := HTS.out; unfold maxLen; show T.size ≤ _; omega, by show (-9223372036854775808 : Int) ≤ 24; decide, by show (24 : Int) ≤ _; decide⟩
        · exact HLB.out x hx
        · exact ⟨by decide, by decide, by decide⟩
      have HML : Hid (M.length ≤ 1048576) := by show M.length ≤ _; rw [hM]; have := HL3.out; simp; omega
      clear hG hM hbU
      go_wp2_with fail
      rw [← hU]
      clear hU s2 s3
      refine HGA.out.mono ?_
      rintro e w3 ⟨v3, rfl, ho3, hb3⟩
      obtain ⟨a3, c3, rfl⟩ := ho3.shape
      have HB3 := hide (after HBU.out hb3)
      have hPU : P < U.heap.size := by have := HWK.out.lt.1; have := HBU.out.size; omega
      have HWA := hide (writeAllF_any P base c3 a3 M ps ws ms q w3 (HPW.out.below HB3.out) HMM.out HQQ.out HOK.out HML.out HMB.out (fun u _ hf => rd_of_ownN (hf.row ho3 (by decide) (fun k hk => by have := (World.ownsRow.lt ho3 k hk).1; exact ⟨by omega, by omega, by omega⟩))))
      rw [← HX.out] at HWA
      clear HGA ho3 hb3
      go_wp2_with fail
      refine HWA.out.mono ?_
      rintro e w4 ⟨rfl, hb4, hf4, hy, hps⟩
      have HFIN : Hid (ClosIs w w4 (.returned (.bool X.isSome)) P base X) := ⟨rfl, (HB3.out.mono hbw).trans hb4, (Fr.of_below HB3.out).trans hf4, hy, hps⟩
      clear hb4 hf4 hy hps HWA
      go_wp2
      go_ret
      exact HFIN.out
    · have hem1 := isEmpty_str h1
      have HX : Hid (X = none) := by show _ = _; rw [hX, commitX, if_pos (.inr (by rw [← hD]; exact h1))]
      clear hX hT h0 h1 hD hW hm hq hok hLb hd
      go_enter Tryz.func33, Tryz.ntmps33
      go_wp2_with fail
      refine HLT.out.mono ?_
      rintro e w1 ⟨rfl, hb1⟩
      have HB1 := hide hb1
      obtain ⟨⟨c0, c1, c2, c3, c4⟩, -⟩ := (HWK.out.below hb1).cells
      clear hb1 HLT hs
      go_wp2_with (refine (HSO.out w1 HB1.out).mono ?_; rintro e w2 ⟨rfl, hb2⟩; have HB2 := hide (after HB1.out hb2); clear hb2)
      go_ret
      exact HFAIL.out _ HB2.out HX.out
end Go.Proofs.YtdicjbabnknjhaaGreat
