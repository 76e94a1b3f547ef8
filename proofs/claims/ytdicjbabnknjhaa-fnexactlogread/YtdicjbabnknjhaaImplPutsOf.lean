/-
  Contracts of the program's putsOf and LogRead.
-/
import Derived.Test.YtdicjbabnknjhaaImplLogRead
import Derived.Deep.DeepCutAuto
import Derived.Deep.RegionHeldLaw
import Derived.Deep.RegionHeld3
import Derived.Deep.RegionLaw
namespace Go.Proofs.Ytdicjbabnknjhaa
open Go.RowKit

/-- What holds between the rounds: the list that was read, its variable at S, the place at S + 1. -/
def PLst (wr : World) (S : Nat) (v : Value) (j : Nat) (acc : List (Int × ByteArray)) : Prop :=
  (wr.cell? ⟨S, 0, none⟩ = some v ∧ wr.frozen? ⟨S, 0, none⟩ = false) ∧ (wr.cell? ⟨S + 1, 0, none⟩ = some (.int .i64 j) ∧ wr.frozen? ⟨S + 1, 0, none⟩ = false) ∧ PutsOwn wr (S + 2) v acc ∧ S + 2 ≤ wr.heap.size
theorem PLst.drew {wr : World} {S j : Nat} {v : Value} {acc : List (Int × ByteArray)} (h : PLst wr S v j acc) : PLst wr.drew S v j acc := h
theorem PLst.taken {wr w' : World} {S j l : Nat} {v : Value} {acc : List (Int × ByteArray)} (h : PLst wr S v j acc) (hg : wr.grownBy w' (some (S + 1))) (hc : w'.cell? ⟨S + 1, 0, none⟩ = some (.int .i64 l)) (hf : w'.frozen? ⟨S + 1, 0, none⟩ = false) : PLst w' S v l acc := by
  obtain ⟨⟨h0, h1⟩, -, h2, h3⟩ := h
  have hne : (some (S + 1) : Option Nat) ≠ some S := by simp
  refine ⟨⟨grown_cell hg h0 hne, frozen_grown hg (lt_of_cell h0) h1 hne⟩, ⟨hc, hf⟩, ?_, Nat.le_trans h3 hg.size⟩
  exact World.ownsRow.kept h2 hg (.inr (fun e => by have := (World.ownsRow.lt h2 _ e).1; omega))
theorem PLst.put {wr u : World} {S j : Nat} {v v' : Value} {acc : List (Int × ByteArray)} (x : Int × ByteArray) (h : PLst wr S v j acc) (hg : wr.grownBy u v.ownBlock) (hv : u.ownsRow (S + 2) 56 2 v' (acc.length + 1) (vsPut acc ++ [.int .i64 x.1, .string x.2])) :
    PLst (u.setCell ⟨S, 0, none⟩ v') S v' j (acc ++ [x]) := by
  obtain ⟨⟨h0, h1⟩, ⟨h4, h5⟩, h2, h3⟩ := h
  have n0 : v.ownBlock ≠ some S := fun e => by have := (World.ownsRow.lt h2 _ e).1; omega
  have n1 : v.ownBlock ≠ some (S + 1) := fun e => by have := (World.ownsRow.lt h2 _ e).1; omega
  have c0 := grown_cell hg h0 n0
  have c1 := grown_cell hg h4 n1
  refine ⟨⟨World.cell?_setCell_same _ _ _ c0, by simpa using frozen_grown hg (lt_of_cell h0) h1 n0⟩, ⟨cell_other c1 (by omega), by simpa using frozen_grown hg (lt_of_cell h4) h5 n1⟩, ?_, by have := hg.size; simp [World.setCell]; omega⟩
  have e : u.ownsRow (S + 2) 56 2 v' (acc ++ [x]).length (vsPut (acc ++ [x])) := by rw [← vsPut_snoc, List.length_append, List.length_singleton]; exact hv
  exact ownsRow_setCell_below e (show S < S + 2 by omega) _

set_option maxRecDepth 100000 in
set_option maxHeartbeats 3200000 in
theorem putsOf_any (a : Option Addr) (t : ByteArray) (cap : Nat) (w : World) (hr : Rd w a (u8s (strB t))) (hm : t.size ≤ 1048576) (hcap : t.size ≤ cap) :
    Calls Try.prog 37 #[.slice a t.size cap] w fun e w' => ∃ v, e = .returned v ∧ PutsOwn w' w.heap.size v (logI t) ∧ Below w.heap.size w w' := by
  obtain ⟨i2, hi2, hz0, hz1, hz2⟩ := info_parts infoPut
  have hmf : ∀ (fn : Fn) (first cap : Array Value) (w : World), (Instr.makeFunc fn first cap).run Try.prog w = .ok (.func fn first cap) w := fun _ _ _ _ => rfl
  obtain ⟨Z, hZ⟩ : ∃ Z, Z = strB t := ⟨_, rfl⟩
  have hzl : t.size = Z.length := by rw [hZ, strB_len]
  have hb : IsBytes Z := by rw [hZ]; exact strB_bytes t
  obtain ⟨R, hR⟩ : ∃ R, R = logI t := ⟨_, rfl⟩
  have HRZ : Hid (R = match getN Z 0 with
    | none => []
    | some (_, i) => match getN Z (i : Int) with
      | none => []
      | some (n, j) => (getL Z (min n.toNat 3) j []).getD []) := by show _ = _; rw [hR, hZ]; rfl
  rw [← hZ] at hr
  rw [← hR, hzl]
  rw [hzl] at hm hcap
  clear hR hZ hzl
  obtain ⟨S, hS⟩ : ∃ S, S = w.heap.size := ⟨_, rfl⟩
  obtain ⟨A, hA⟩ : ∃ A, A = w.alloc (Obj.cells #[.slice none 0 0] 25) := ⟨_, rfl⟩
  obtain ⟨A2, hA2⟩ : ∃ A2, A2 = A.alloc (Obj.cells #[.int .i64 0] 3) := ⟨_, rfl⟩
  obtain ⟨W, hW⟩ : ∃ W, W = A2.setCell ⟨w.heap.size + 1, 0, none⟩ (.int .i64 0) := ⟨_, rfl⟩
  have hsA : A.heap.size = w.heap.size + 1 := by rw [hA]; simp
  have hbA : Below w.heap.size w A := by rw [hA]; exact (Below.refl _ _).alloc (Nat.le_refl _) _
  have hbAA : Below A.heap.size A A2 := by rw [hA2]; exact (Below.refl _ _).alloc (Nat.le_refl _) _
  have q0 : A2.cell? ⟨w.heap.size + 1, 0, none⟩ = some (.int .i64 0) := by rw [hA2, ← hsA]; simp
  have g0 : A2.frozen? ⟨w.heap.size + 1, 0, none⟩ = false := by rw [hA2, ← hsA]; simp
  have hbAW : Below A.heap.size A W := by rw [hW]; exact hbAA.setCell (by show _ ≤ _; simp; omega) _
  have hbW := after hbA hbAW
  have hP0 : PLst W S (.slice none 0 0) 0 [] := by
    have c0 : A.cell? ⟨w.heap.size, 0, none⟩ = some (.slice none 0 0) ∧ A.frozen? ⟨w.heap.size, 0, none⟩ = false := by rw [hA]; constructor <;> simp
    rw [hS]
    refine ⟨⟨(hbAW.cell (p := ⟨w.heap.size, 0, none⟩) (lt_of_cell c0.1)).trans c0.1, (hbAW.frozen (p := ⟨w.heap.size, 0, none⟩) (lt_of_cell c0.1)).trans c0.2⟩, ⟨?_, ?_⟩, World.ownsRow_nil _ _ _ _, ?_⟩
    · rw [hW]; exact World.cell?_setCell_same _ _ _ q0
    · rw [hW]; simpa using g0
    · rw [hW, hA2]; simp [World.setCell, hsA]
  have HR : Hid (∀ u, Below S w u → Rd u a (u8s Z)) := fun u hu => hr.below (by rw [← hS]; exact hu)
  have HBW : Hid (Below S w W) := by show Below S w W; rw [hS]; exact hbW
  have HP0 := hide hP0
  clear hbA hbAW hr hsA hbAA hbW hP0
  have HFIN : Hid (∀ (u : World) (v : Value) (j : Nat) (acc : List (Int × ByteArray)), PLst u S v j acc → Below S w u → R = acc → PutsOwn u S v R ∧ Below S w u) := fun u v j acc h hb hr => ⟨by rw [hr]; exact owns_mono h.2.2.1 (by omega), hb⟩
  rw [← hS]
  go_enter_defers Try.func37, Try.ntmps37
  go_wp2_with (first | (rw [← hA]) | (rw [← hA2]; clear hA hA2))
  rw [← hW]
  rw [← hS]
  clear hW hS q0 g0
  obtain ⟨⟨c0, f0⟩, ⟨p0, pf0⟩, -, -⟩ := id HP0.out
  refine (takeNum_grown a Z cap (S + 1) 0 W (fun u hu => HR.out u (HBW.out.trans (hu.mono (by omega)))) hb hm p0 pf0).mono ?_
  rintro e w1 ⟨hg1, ht⟩
  have hb1 : Below S w w1 := HBW.out.trans ((belowGrown hg1 (by have := HP0.out.2.2.2; omega)).mono (by omega))
  have HB1 := hide hb1
  clear HBW
  cases hg : getN Z 0 with
  | none =>
    rw [hg] at ht
    obtain ⟨s, rfl⟩ := ht
    have HE : Hid (R = []) := by show _ = _; rw [HRZ.out, hg]
    have x0 := grown_cell hg1 c0 (by simp)
    have y0 := frozen_grown hg1 (lt_of_cell c0) f0 (by simp)
    clear hg HR p0 c0 f0 HRZ hb1 pf0 hg1
    go_wp2
    refine leaves_cons (f := 52) (args := #[.pointer (some ⟨S, 0, none⟩)]) (by simp) (by simp [go_sem]) ?_
    refine (putsOf1_panicking S _ 9 _ [] _ x0 y0).mono ?_
    rintro e u' w'' ⟨rfl, rfl, rfl⟩
    rw [HE.out]
    simp [Leaves, settle, results, Try.results37, go_sem, x0]
    exact ⟨World.ownsRow_nil _ _ _ _, HB1.out.setCell (Nat.le_refl _) _⟩
  | some r =>
    obtain ⟨x0, i0⟩ := r
    rw [hg] at ht
    obtain ⟨rfl, p1, f1⟩ := ht
    have HP1 := hide (HP0.out.taken hg1 p1 f1)
    have HR1 : Hid (R = match getN Z (i0 : Int) with
      | none => []
      | some (n, j) => (getL Z (min n.toNat 3) j []).getD []) := by show _ = _; rw [HRZ.out, hg]
    clear hg p0 c0 f0 HRZ hb1 pf0 HP0 hg1
    go_wp2_with fail
    refine (takeNum_grown a Z cap (S + 1) i0 w1 (fun u hu => HR.out u (HB1.out.trans (hu.mono (by omega)))) hb hm p1 f1).mono ?_
    rintro e w2 ⟨hg2, ht⟩
    obtain ⟨⟨c0, f0⟩, -, -, -⟩ := id HP1.out
    have HB2 : Hid (Below S w w2) := HB1.out.trans ((belowGrown hg2 (by have := HP1.out.2.2.2; omega)).mono (by omega))
    cases hg : getN Z (i0 : Int) with
    | none =>
      rw [hg] at ht
      obtain ⟨s, rfl⟩ := ht
      have HE : Hid (R = []) := by show _ = _; rw [HR1.out, hg]
      have x0 := grown_cell hg2 c0 (by simp)
      have y0 := frozen_grown hg2 (lt_of_cell c0) f0 (by simp)
      clear hg HR p1 c0 f0 f1 HR1 hg2
      go_wp2
      refine leaves_cons (f := 52) (args := #[.pointer (some ⟨S, 0, none⟩)]) (by simp) (by simp [go_sem]) ?_
      refine (putsOf1_panicking S _ 9 _ [] _ x0 y0).mono ?_
      rintro e u' w'' ⟨rfl, rfl, rfl⟩
      rw [HE.out]
      simp [Leaves, settle, results, Try.results37, go_sem, x0]
      exact ⟨World.ownsRow_nil _ _ _ _, HB2.out.setCell (Nat.le_refl _) _⟩
    | some r =>
      obtain ⟨n, j0⟩ := r
      rw [hg] at ht
      obtain ⟨rfl, p2, f2⟩ := ht
      have HP2 := hide (HP1.out.taken hg2 p2 f2)
      have hnb := getN_bd hb hg
      obtain ⟨n, rfl⟩ : ∃ k : Nat, n = k := ⟨n.toNat, by omega⟩
      obtain ⟨N, hN⟩ : ∃ N : Nat, N = min n 3 := ⟨_, rfl⟩
      have hN3 : N ≤ 3 := by omega
      have HR2 : Hid (R = (getL Z N j0 []).getD []) := by show _ = _; rw [HR1.out, hg]; simp only [Int.toNat_natCast]; rw [hN]
      obtain ⟨G, hG⟩ : ∃ G, G = getL Z N j0 [] := ⟨_, rfl⟩
      have HG0 : Hid (getL Z (N - 0) j0 [] = G) := hG.symm
      rw [← hG] at HR2
      clear hg p1 c0 f0 f1 HR1 HP1 hg2 hG hnb
      by_cases h3 : (n : Int) ≤ 3
      · obtain rfl : N = n := by omega
        clear hN
        go_wp2_with fail
        go_loopw [12] (fun i wr => ∃ (k j : Nat) (v : Value) (acc : List (Int × ByteArray)), k ≤ N ∧ i = .int .i64 k ∧ acc.length = k ∧ Hid (getL Z (N - k) j acc = G) ∧ Hid (PLst wr S v j acc) ∧ Hid (∀ y ∈ acc, y.2.size ≤ 400 ∧ 0 ≤ y.1 ∧ y.1 ≤ 1000000000) ∧ Hid (Below S w wr)) (fun i _ => N - (intOf i).toNat)
        case atStart => exact ⟨0, j0, _, [], Nat.zero_le _, rfl, rfl, HG0, HP2, fun y hy => by simp at hy, HB2⟩
        case round =>
          obtain ⟨k, j, v, acc, hk, rfl, hal, hgl, hpl, hshort, hbel⟩ := hrel
          clear HG0 HP2 HB2 p2 f2
          by_cases hlt : k < N
          · have hki : (k : Int) < ((N : Nat) : Int) := by omega
            have HAL := hide hal
            have hacl : acc.length ≤ 3 := by omega
            have HST : Hid (N - k = (N - (k + 1)) + 1) := by show _ = _; omega
            obtain ⟨⟨c0, f0⟩, ⟨p0, pf0⟩, -, hS2⟩ := id hpl.out
            have HTP := hide (takePut_any a Z cap (S + 1) j wr.drew (fun u hu => HR.out u ((hbel.out.drew).trans (hu.mono (by omega)))) hb hm hcap (by simpa using p0) (by simpa using pf0))
            clear hal
            cases hg : getP Z j with
            | none =>
              rw [hg] at HTP
              have HE : Hid (R = []) := by show _ = _; rw [HR2.out, ← hgl.out, HST.out, getL_no hg]; rfl
              clear hg
              go_wp2_with fail
              refine wp_region_any (by kernel_rfl) ?_
              try (change wpAny _ _ _ _ _ _ _ (World.drew _))
              refine wpAny_ready (rs := [0, 1]) (by kernel_rfl) (by simp) ?_
              refine AllReady.cons rfl (fun K hK => ?_) (AllReady.cons rfl (fun K hK => ?_) AllReady.nil)
              · go_simp
                refine hK _ _ ?_
                clear hK K
                refine wpAny_ready (rs := [1]) (by kernel_rfl) (by simp) ?_
                refine AllReady.cons rfl (fun K hK => ?_) AllReady.nil
                go_simp
                refine hK _ _ ?_
                clear hK K
                refine wpAny_ready (rs := [2]) (by kernel_rfl) (by simp) ?_
                refine AllReady.cons rfl (fun K hK => ?_) AllReady.nil
                go_simp
                refine HTP.out.mono ?_
                rintro e w3 ⟨hg3, s, rfl⟩
                have x0 := grown_cell hg3 (show wr.drew.cell? _ = _ by simpa using c0) (by simp)
                have y0 := frozen_grown hg3 (by simpa using lt_of_cell c0) (show wr.drew.frozen? _ = _ by simpa using f0) (by simp)
                have HB3 : Hid (Below S w w3) := hbel.out.drew.trans ((belowGrown hg3 (by simp; omega)).mono (by omega))
                clear hg3
                go_wp2
                refine leaves_cons (f := 52) (args := #[.pointer (some ⟨S, 0, none⟩)]) (by simp) (by simp [go_sem]) ?_
                refine (putsOf1_panicking S _ 9 _ [] _ x0 y0).mono ?_
                rintro e u' w'' ⟨rfl, rfl, rfl⟩
                rw [HE.out]
                simp [Leaves, settle, results, Try.results37, go_sem, x0]
                exact ⟨World.ownsRow_nil _ _ _ _, HB3.out.setCell (Nat.le_refl _) _⟩
              · go_simp
                refine hK _ _ ?_
                clear hK K
                refine wpAny_ready (rs := [0, 2]) (by kernel_rfl) (by simp) ?_
                refine AllReady.cons rfl (fun K hK => ?_) (AllReady.cons rfl (fun K hK => ?_) AllReady.nil)
                · go_simp
                  refine hK _ _ ?_
                  clear hK K
                  refine wpAny_ready (rs := [2]) (by kernel_rfl) (by simp) ?_
                  refine AllReady.cons rfl (fun K hK => ?_) AllReady.nil
                  go_simp
                  refine HTP.out.mono ?_
                  rintro e w3 ⟨hg3, s, rfl⟩
                  have x0 := grown_cell hg3 (show wr.drew.cell? _ = _ by simpa using c0) (by simp)
                  have y0 := frozen_grown hg3 (by simpa using lt_of_cell c0) (show wr.drew.frozen? _ = _ by simpa using f0) (by simp)
                  have HB3 : Hid (Below S w w3) := hbel.out.drew.trans ((belowGrown hg3 (by simp; omega)).mono (by omega))
                  clear hg3
                  go_wp2
                  refine leaves_cons (f := 52) (args := #[.pointer (some ⟨S, 0, none⟩)]) (by simp) (by simp [go_sem]) ?_
                  refine (putsOf1_panicking S _ 9 _ [] _ x0 y0).mono ?_
                  rintro e u' w'' ⟨rfl, rfl, rfl⟩
                  rw [HE.out]
                  simp [Leaves, settle, results, Try.results37, go_sem, x0]
                  exact ⟨World.ownsRow_nil _ _ _ _, HB3.out.setCell (Nat.le_refl _) _⟩
                · go_simp
                  refine HTP.out.mono ?_
                  rintro e w3 ⟨hg3, s, rfl⟩
                  have x0 := grown_cell hg3 (show wr.drew.cell? _ = _ by simpa using c0) (by simp)
                  have y0 := frozen_grown hg3 (by simpa using lt_of_cell c0) (show wr.drew.frozen? _ = _ by simpa using f0) (by simp)
                  have HB3 : Hid (Below S w w3) := hbel.out.drew.trans ((belowGrown hg3 (by simp; omega)).mono (by omega))
                  clear hg3
                  go_wp2
                  refine leaves_cons (f := 52) (args := #[.pointer (some ⟨S, 0, none⟩)]) (by simp) (by simp [go_sem]) ?_
                  refine (putsOf1_panicking S _ 9 _ [] _ x0 y0).mono ?_
                  rintro e u' w'' ⟨rfl, rfl, rfl⟩
                  rw [HE.out]
                  simp [Leaves, settle, results, Try.results37, go_sem, x0]
                  exact ⟨World.ownsRow_nil _ _ _ _, HB3.out.setCell (Nat.le_refl _) _⟩
              
            | some r =>
              obtain ⟨x, ys, l⟩ := r
              rw [hg] at HTP
              have HGL : Hid (getL Z (N - (k + 1)) l (acc ++ [(x, strOf ys)]) = G) := by show _ = _; rw [← hgl.out, HST.out, getL_yes hg]
              have HSH : Hid (∀ y ∈ acc ++ [(x, strOf ys)], y.2.size ≤ 400 ∧ 0 ≤ y.1 ∧ y.1 ≤ 1000000000) := by
                unfold getP at hg
                split at hg
                · cases hg
                · next s1 j1 h1 =>
                  split at hg
                  · cases hg
                  · next ys1 l1 h2 =>
                    have b2 := getN_bd hb h1
                    have b4 := getT_len h2
                    simp only [Option.some.injEq, Prod.mk.injEq] at hg
                    obtain ⟨rfl, rfl, rfl⟩ := hg
                    intro y hy
                    rcases List.mem_append.1 hy with hy | hy
                    · exact hshort.out y hy
                    · simp at hy; subst hy; exact ⟨by show (strOf _).size ≤ 400; rw [strOf_size]; exact b4, b2.1, b2.2.1⟩
              obtain ⟨av, cv, rfl⟩ := hpl.out.2.2.1.shape
              have HTQ : Hid (Calls Try.prog 54 #[.slice a Z.length cap, .pointer (some ⟨S + 1, 0, none⟩)] wr.drew fun e w3 => e = .returned (.agg #[.int .i64 x, .string (strOf ys)]) ∧ PLst w3 S (.slice av acc.length cv) l acc ∧ Below S w w3) := by
                refine HTP.out.mono ?_
                rintro e w3 ⟨hg3, rfl, p3, f3⟩
                exact ⟨rfl, hpl.out.drew.taken hg3 p3 f3, hbel.out.drew.trans ((belowGrown hg3 (by simp; omega)).mono (by omega))⟩
              clear hg HTP
              go_wp2_with fail
              refine wp_region_noPanic ?_
              go_region_law ((first
                | (refine step_append_row (w0 := w3) rfl (.tmp 14) (.tmp 17) 25 rfl (S + 2) 56 i2 (.agg #[.int .i64 0, .string ⟨#[]⟩]) 2 24 Try.underlying25 hi2 hz0 hz1 hz2 rfl (by decide) _ _ _ [.int .i64 x, .string (strOf ys)] (by rfl) HP3.out.2.2.1 rfl (put_one _ _) (by rfl) (by omega) (by omega) HP3.out.2.2.2 rfl ?_; intro v' u4 ho4 hg4; have n0 : (Value.slice av acc.length cv).ownBlock ≠ some S := (fun e => by have := (World.ownsRow.lt HP3.out.2.2.1 _ e).1; omega); have e1 := grown_cell hg4 HP3.out.1.1 n0; have g1 := frozen_grown hg4 (lt_of_cell HP3.out.1.1) HP3.out.1.2 n0; obtain ⟨a9, q9, rfl⟩ := ownsN_shape ho4; have HF := hide (And.intro (HP3.out.put (x, strOf ys) hg4 ho4) ((HB3.out.trans (grown_below HP3.out.2.2.1 hg4 HP3.out.2.2.2 |>.mono (by omega))).setCell (p := ⟨S, 0, none⟩) (Nat.le_refl S) (.slice a9 (acc.length + 1) q9))); clear ho4 hg4)
                | (go_simp; go_at_call 54; refine HTQ.out.mono ?_; rintro e w3 ⟨rfl, hp3, hb3⟩; have HP3 := hide hp3; have HB3 := hide hb3; obtain ⟨⟨e0, g0⟩, -⟩ := id HP3.out; have e0' := (((Below.refl w3.heap.size w3).alloc (Nat.le_refl _) (Obj.cells #[.int .i64 x, .string (strOf ys)] 56)).cell (p := ⟨S, 0, none⟩) (lt_of_cell e0)).trans e0; clear hp3 hb3)))
              all_goals
                refine NoPanic.normal ?_
                go_wp2
                go_roundw
                case rel => exact ⟨k + 1, l, _, acc ++ [(x, strOf ys)], by omega, by go_num, by rw [List.length_append, HAL.out]; rfl, HGL, HF.out.1, HSH, HF.out.2⟩
                case measure => simp [intOf]; omega
          · obtain rfl : k = N := by omega
            have hki : ¬ ((k : Nat) : Int) < ((k : Nat) : Int) := by omega
            have HE : Hid (R = acc) := by show _ = _; rw [HR2.out, ← hgl.out, Nat.sub_self]; rfl
            obtain ⟨av, cv, rfl⟩ := hpl.out.2.2.1.shape
            obtain ⟨⟨c0, f0⟩, -, -, -⟩ := id hpl.out
            have HB4 : Hid (Below S w (wr.setCell ⟨S, 0, none⟩ (.slice av acc.length cv))) := hbel.out.setCell (Nat.le_refl _) _
            have HO4 : Hid (PutsOwn (wr.setCell ⟨S, 0, none⟩ (.slice av acc.length cv)) S (.slice av acc.length cv) R) := by
              show PutsOwn _ _ _ _
              rw [HE.out]
              exact owns_mono (ownsRow_setCell_below (show wr.ownsRow (S + 2) 56 2 _ acc.length (vsPut acc) from hpl.out.2.2.1) (show S < S + 2 by omega) _) (by omega)
            clear hal
            go_wp2
            refine leaves_cons (f := 52) (args := #[.pointer (some ⟨S, 0, none⟩)]) (by simp) (by simp [go_sem]) ?_
            refine (putsOf1_idle S _).mono ?_
            rintro e u' w'' ⟨rfl, rfl, rfl⟩
            simp [Leaves, settle, results, Try.results37, go_sem, c0]
            exact ⟨HO4.out, HB4.out⟩
      · obtain rfl : N = 3 := by omega
        clear hN
        go_wp2_with fail
        go_loopw [12] (fun i wr => ∃ (k j : Nat) (v : Value) (acc : List (Int × ByteArray)), k ≤ 3 ∧ i = .int .i64 k ∧ acc.length = k ∧ Hid (getL Z (3 - k) j acc = G) ∧ Hid (PLst wr S v j acc) ∧ Hid (∀ y ∈ acc, y.2.size ≤ 400 ∧ 0 ≤ y.1 ∧ y.1 ≤ 1000000000) ∧ Hid (Below S w wr)) (fun i _ => 3 - (intOf i).toNat)
        case atStart => exact ⟨0, j0, _, [], Nat.zero_le _, rfl, rfl, HG0, HP2, fun y hy => by simp at hy, HB2⟩
        case round =>
          obtain ⟨k, j, v, acc, hk, rfl, hal, hgl, hpl, hshort, hbel⟩ := hrel
          clear HG0 HP2 HB2 p2 f2
          by_cases hlt : k < 3
          · have hki : (k : Int) < ((3 : Nat) : Int) := by omega
            have HAL := hide hal
            have hacl : acc.length ≤ 3 := by omega
            have HST : Hid (3 - k = (3 - (k + 1)) + 1) := by show _ = _; omega
            obtain ⟨⟨c0, f0⟩, ⟨p0, pf0⟩, -, hS2⟩ := id hpl.out
            have HTP := hide (takePut_any a Z cap (S + 1) j wr.drew (fun u hu => HR.out u ((hbel.out.drew).trans (hu.mono (by omega)))) hb hm hcap (by simpa using p0) (by simpa using pf0))
            clear hal
            cases hg : getP Z j with
            | none =>
              rw [hg] at HTP
              have HE : Hid (R = []) := by show _ = _; rw [HR2.out, ← hgl.out, HST.out, getL_no hg]; rfl
              clear hg
              go_wp2_with fail
              refine wp_region_any (by kernel_rfl) ?_
              try (change wpAny _ _ _ _ _ _ _ (World.drew _))
              refine wpAny_ready (rs := [0, 1]) (by kernel_rfl) (by simp) ?_
              refine AllReady.cons rfl (fun K hK => ?_) (AllReady.cons rfl (fun K hK => ?_) AllReady.nil)
              · go_simp
                refine hK _ _ ?_
                clear hK K
                refine wpAny_ready (rs := [1]) (by kernel_rfl) (by simp) ?_
                refine AllReady.cons rfl (fun K hK => ?_) AllReady.nil
                go_simp
                refine hK _ _ ?_
                clear hK K
                refine wpAny_ready (rs := [2]) (by kernel_rfl) (by simp) ?_
                refine AllReady.cons rfl (fun K hK => ?_) AllReady.nil
                go_simp
                refine HTP.out.mono ?_
                rintro e w3 ⟨hg3, s, rfl⟩
                have x0 := grown_cell hg3 (show wr.drew.cell? _ = _ by simpa using c0) (by simp)
                have y0 := frozen_grown hg3 (by simpa using lt_of_cell c0) (show wr.drew.frozen? _ = _ by simpa using f0) (by simp)
                have HB3 : Hid (Below S w w3) := hbel.out.drew.trans ((belowGrown hg3 (by simp; omega)).mono (by omega))
                clear hg3
                go_wp2
                refine leaves_cons (f := 52) (args := #[.pointer (some ⟨S, 0, none⟩)]) (by simp) (by simp [go_sem]) ?_
                refine (putsOf1_panicking S _ 9 _ [] _ x0 y0).mono ?_
                rintro e u' w'' ⟨rfl, rfl, rfl⟩
                rw [HE.out]
                simp [Leaves, settle, results, Try.results37, go_sem, x0]
                exact ⟨World.ownsRow_nil _ _ _ _, HB3.out.setCell (Nat.le_refl _) _⟩
              · go_simp
                refine hK _ _ ?_
                clear hK K
                refine wpAny_ready (rs := [0, 2]) (by kernel_rfl) (by simp) ?_
                refine AllReady.cons rfl (fun K hK => ?_) (AllReady.cons rfl (fun K hK => ?_) AllReady.nil)
                · go_simp
                  refine hK _ _ ?_
                  clear hK K
                  refine wpAny_ready (rs := [2]) (by kernel_rfl) (by simp) ?_
                  refine AllReady.cons rfl (fun K hK => ?_) AllReady.nil
                  go_simp
                  refine HTP.out.mono ?_
                  rintro e w3 ⟨hg3, s, rfl⟩
                  have x0 := grown_cell hg3 (show wr.drew.cell? _ = _ by simpa using c0) (by simp)
                  have y0 := frozen_grown hg3 (by simpa using lt_of_cell c0) (show wr.drew.frozen? _ = _ by simpa using f0) (by simp)
                  have HB3 : Hid (Below S w w3) := hbel.out.drew.trans ((belowGrown hg3 (by simp; omega)).mono (by omega))
                  clear hg3
                  go_wp2
                  refine leaves_cons (f := 52) (args := #[.pointer (some ⟨S, 0, none⟩)]) (by simp) (by simp [go_sem]) ?_
                  refine (putsOf1_panicking S _ 9 _ [] _ x0 y0).mono ?_
                  rintro e u' w'' ⟨rfl, rfl, rfl⟩
                  rw [HE.out]
                  simp [Leaves, settle, results, Try.results37, go_sem, x0]
                  exact ⟨World.ownsRow_nil _ _ _ _, HB3.out.setCell (Nat.le_refl _) _⟩
                · go_simp
                  refine HTP.out.mono ?_
                  rintro e w3 ⟨hg3, s, rfl⟩
                  have x0 := grown_cell hg3 (show wr.drew.cell? _ = _ by simpa using c0) (by simp)
                  have y0 := frozen_grown hg3 (by simpa using lt_of_cell c0) (show wr.drew.frozen? _ = _ by simpa using f0) (by simp)
                  have HB3 : Hid (Below S w w3) := hbel.out.drew.trans ((belowGrown hg3 (by simp; omega)).mono (by omega))
                  clear hg3
                  go_wp2
                  refine leaves_cons (f := 52) (args := #[.pointer (some ⟨S, 0, none⟩)]) (by simp) (by simp [go_sem]) ?_
                  refine (putsOf1_panicking S _ 9 _ [] _ x0 y0).mono ?_
                  rintro e u' w'' ⟨rfl, rfl, rfl⟩
                  rw [HE.out]
                  simp [Leaves, settle, results, Try.results37, go_sem, x0]
                  exact ⟨World.ownsRow_nil _ _ _ _, HB3.out.setCell (Nat.le_refl _) _⟩
              
            | some r =>
              obtain ⟨x, ys, l⟩ := r
              rw [hg] at HTP
              have HGL : Hid (getL Z (3 - (k + 1)) l (acc ++ [(x, strOf ys)]) = G) := by show _ = _; rw [← hgl.out, HST.out, getL_yes hg]
              have HSH : Hid (∀ y ∈ acc ++ [(x, strOf ys)], y.2.size ≤ 400 ∧ 0 ≤ y.1 ∧ y.1 ≤ 1000000000) := by
                unfold getP at hg
                split at hg
                · cases hg
                · next s1 j1 h1 =>
                  split at hg
                  · cases hg
                  · next ys1 l1 h2 =>
                    have b2 := getN_bd hb h1
                    have b4 := getT_len h2
                    simp only [Option.some.injEq, Prod.mk.injEq] at hg
                    obtain ⟨rfl, rfl, rfl⟩ := hg
                    intro y hy
                    rcases List.mem_append.1 hy with hy | hy
                    · exact hshort.out y hy
                    · simp at hy; subst hy; exact ⟨by show (strOf _).size ≤ 400; rw [strOf_size]; exact b4, b2.1, b2.2.1⟩
              obtain ⟨av, cv, rfl⟩ := hpl.out.2.2.1.shape
              have HTQ : Hid (Calls Try.prog 54 #[.slice a Z.length cap, .pointer (some ⟨S + 1, 0, none⟩)] wr.drew fun e w3 => e = .returned (.agg #[.int .i64 x, .string (strOf ys)]) ∧ PLst w3 S (.slice av acc.length cv) l acc ∧ Below S w w3) := by
                refine HTP.out.mono ?_
                rintro e w3 ⟨hg3, rfl, p3, f3⟩
                exact ⟨rfl, hpl.out.drew.taken hg3 p3 f3, hbel.out.drew.trans ((belowGrown hg3 (by simp; omega)).mono (by omega))⟩
              clear hg HTP
              go_wp2_with fail
              refine wp_region_noPanic ?_
              go_region_law ((first
                | (refine step_append_row (w0 := w3) rfl (.tmp 14) (.tmp 17) 25 rfl (S + 2) 56 i2 (.agg #[.int .i64 0, .string ⟨#[]⟩]) 2 24 Try.underlying25 hi2 hz0 hz1 hz2 rfl (by decide) _ _ _ [.int .i64 x, .string (strOf ys)] (by rfl) HP3.out.2.2.1 rfl (put_one _ _) (by rfl) (by omega) (by omega) HP3.out.2.2.2 rfl ?_; intro v' u4 ho4 hg4; have n0 : (Value.slice av acc.length cv).ownBlock ≠ some S := (fun e => by have := (World.ownsRow.lt HP3.out.2.2.1 _ e).1; omega); have e1 := grown_cell hg4 HP3.out.1.1 n0; have g1 := frozen_grown hg4 (lt_of_cell HP3.out.1.1) HP3.out.1.2 n0; obtain ⟨a9, q9, rfl⟩ := ownsN_shape ho4; have HF := hide (And.intro (HP3.out.put (x, strOf ys) hg4 ho4) ((HB3.out.trans (grown_below HP3.out.2.2.1 hg4 HP3.out.2.2.2 |>.mono (by omega))).setCell (p := ⟨S, 0, none⟩) (Nat.le_refl S) (.slice a9 (acc.length + 1) q9))); clear ho4 hg4)
                | (go_simp; go_at_call 54; refine HTQ.out.mono ?_; rintro e w3 ⟨rfl, hp3, hb3⟩; have HP3 := hide hp3; have HB3 := hide hb3; obtain ⟨⟨e0, g0⟩, -⟩ := id HP3.out; have e0' := (((Below.refl w3.heap.size w3).alloc (Nat.le_refl _) (Obj.cells #[.int .i64 x, .string (strOf ys)] 56)).cell (p := ⟨S, 0, none⟩) (lt_of_cell e0)).trans e0; clear hp3 hb3)))
              all_goals
                refine NoPanic.normal ?_
                go_wp2
                go_roundw
                case rel => exact ⟨k + 1, l, _, acc ++ [(x, strOf ys)], by omega, by go_num, by rw [List.length_append, HAL.out]; rfl, HGL, HF.out.1, HSH, HF.out.2⟩
                case measure => simp [intOf]; omega
          · obtain rfl : k = 3 := by omega
            have hki : ¬ ((3 : Nat) : Int) < ((3 : Nat) : Int) := by omega
            have HE : Hid (R = acc) := by show _ = _; rw [HR2.out, ← hgl.out, Nat.sub_self]; rfl
            obtain ⟨av, cv, rfl⟩ := hpl.out.2.2.1.shape
            obtain ⟨⟨c0, f0⟩, -, -, -⟩ := id hpl.out
            have HB4 : Hid (Below S w (wr.setCell ⟨S, 0, none⟩ (.slice av acc.length cv))) := hbel.out.setCell (Nat.le_refl _) _
            have HO4 : Hid (PutsOwn (wr.setCell ⟨S, 0, none⟩ (.slice av acc.length cv)) S (.slice av acc.length cv) R) := by
              show PutsOwn _ _ _ _
              rw [HE.out]
              exact owns_mono (ownsRow_setCell_below (show wr.ownsRow (S + 2) 56 2 _ acc.length (vsPut acc) from hpl.out.2.2.1) (show S < S + 2 by omega) _) (by omega)
            clear hal
            go_wp2
            refine leaves_cons (f := 52) (args := #[.pointer (some ⟨S, 0, none⟩)]) (by simp) (by simp [go_sem]) ?_
            refine (putsOf1_idle S _).mono ?_
            rintro e u' w'' ⟨rfl, rfl, rfl⟩
            simp [Leaves, settle, results, Try.results37, go_sem, c0]
            exact ⟨HO4.out, HB4.out⟩
end Go.Proofs.Ytdicjbabnknjhaa
