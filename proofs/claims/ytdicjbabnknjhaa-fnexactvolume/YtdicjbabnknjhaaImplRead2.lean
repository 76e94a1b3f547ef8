/-
  Contracts of the program's recOf and RecRead.
-/
import Derived.Test.YtdicjbabnknjhaaImplRead
namespace Go.Proofs.Ytdicjbabnknjhaa
open Go.RowKit

theorem rd_drop {w : World} {b off : Nat} {zs : List Int} (j : Nat) (h : ∀ i, i < zs.length → w.cell? ⟨b, off + i, none⟩ = some (.int .u8 (zs.getD i 0))) : Rd w (some ⟨b, off + j, none⟩) (u8s (zs.drop j)) := by
  refine .inr ⟨b, off + j, rfl, fun i v hv => ?_⟩
  have hi : i < (zs.drop j).length := by
    rcases Nat.lt_or_ge i (zs.drop j).length with h' | h'
    · exact h'
    · exfalso; simp only [u8s, List.getElem?_map] at hv; rw [List.getElem?_eq_none (by omega)] at hv; simp at hv
  simp at hi
  have := h (j + i) (by omega)
  rw [← Nat.add_assoc] at this
  rw [this]
  simp [u8s] at hv
  obtain ⟨z, hz, rfl⟩ := hv
  simp [hz]

theorem C3.belowAt {B : Nat} {u u' : World} {p : Nat} {x0 x1 x2 : Value} (h : C3 u p x0 x1 x2) (hb : Below B u u') (hp : p < B) : C3 u' p x0 x1 x2 :=
  ⟨⟨(hb.cell (p := ⟨p, 0, none⟩) hp).trans h.1.1, (hb.cell (p := ⟨p, 1, none⟩) hp).trans h.1.2.1, (hb.cell (p := ⟨p, 2, none⟩) hp).trans h.1.2.2⟩, fun j => (hb.frozen (p := ⟨p, j, none⟩) hp).trans (h.2 j)⟩
/-- The record that recOf hands back. -/
def recV (r : Option (Int × Int × List Int)) : Value :=
  match r with
  | none => .agg #[.int .i64 0, .int .i64 0, .string ⟨#[]⟩]
  | some (s, q, ys) => .agg #[.int .i64 s, .int .i64 q, .string (strOf ys)]
theorem recV_no {r : Option (Int × Int × List Int)} (h : r = none) : Value.agg #[.int .i64 0, .int .i64 0, .string ⟨#[]⟩] = recV r := by subst h; rfl
theorem recV_yes {r : Option (Int × Int × List Int)} {s q : Int} {ys : List Int} (h : r = some (s, q, ys)) : Value.agg #[.int .i64 s, .int .i64 q, .string (strOf ys)] = recV r := by subst h; rfl

set_option maxRecDepth 100000 in
set_option maxHeartbeats 3200000 in
theorem recOf_any (a : Option Addr) (zs : List Int) (cap : Nat) (w : World) (hr : Rd w a (u8s zs)) (hb : IsBytes zs) (hm : zs.length ≤ 1048576) (hcap : zs.length ≤ cap) :
    Calls Try.prog 76 #[.slice a zs.length cap] w fun e w' => e = .returned (recV (recD zs)) ∧ Below w.heap.size w w' := by
  have hmf : ∀ (fn : Fn) (first cap : Array Value) (w : World), (Instr.makeFunc fn first cap).run Try.prog w = .ok (.func fn first cap) w := fun _ _ _ _ => rfl
  obtain ⟨A, hA⟩ : ∃ A, A = w.alloc (Obj.cells #[.int .i64 0, .int .i64 0, .string ⟨#[]⟩] 84) := ⟨_, rfl⟩
  obtain ⟨A2, hA2⟩ : ∃ A2, A2 = A.alloc (Obj.cells #[.int .i64 0] 3) := ⟨_, rfl⟩
  obtain ⟨W, hW⟩ : ∃ W, W = A2.setCell ⟨w.heap.size + 1, 0, none⟩ (.int .i64 0) := ⟨_, rfl⟩
  have hsA : A.heap.size = w.heap.size + 1 := by rw [hA]; simp
  have hbA : Below w.heap.size w A := by rw [hA]; exact (Below.refl _ _).alloc (Nat.le_refl _) _
  have hbAA : Below A.heap.size A A2 := by rw [hA2]; exact (Below.refl _ _).alloc (Nat.le_refl _) _
  have q0 : A2.cell? ⟨w.heap.size + 1, 0, none⟩ = some (.int .i64 0) := by rw [hA2, ← hsA]; simp
  have g0 : A2.frozen? ⟨w.heap.size + 1, 0, none⟩ = false := by rw [hA2, ← hsA]; simp
  have hbAW : Below A.heap.size A W := by rw [hW]; exact hbAA.setCell (by show _ ≤ _; simp; omega) _
  have hbW := after hbA hbAW
  have k0 : C3 W w.heap.size (.int .i64 0) (.int .i64 0) (.string ⟨#[]⟩) := by
    have : C3 A w.heap.size (.int .i64 0) (.int .i64 0) (.string ⟨#[]⟩) := by rw [hA]; exact c3_new _ _ _ _ _
    exact this.below hbAW
  have p0 : W.cell? ⟨w.heap.size + 1, 0, none⟩ = some (.int .i64 0) := by rw [hW]; exact World.cell?_setCell_same _ _ _ q0
  have f0 : W.frozen? ⟨w.heap.size + 1, 0, none⟩ = false := by rw [hW]; simpa using g0
  have HR : Hid (∀ u, Below (w.heap.size + 1) W u → Rd u a (u8s zs)) := fun u hu => hr.below (hbW.trans (hu.mono (by omega)))
  clear hbA hbAW hr hsA hbAA
  go_enter_defers Try.func76, Try.ntmps76
  go_wp2_with (first | (rw [← hA]) | (rw [← hA2]; clear hA hA2))
  rw [← hW]
  clear hW q0 g0
  refine (takeNum_any a zs cap (w.heap.size + 1) 0 W HR.out hb hm p0 f0).mono ?_
  rintro e w1 ⟨hb1, ht⟩
  have c1 : C3 w1 w.heap.size (.int .i64 0) (.int .i64 0) (.string ⟨#[]⟩)  := k0.belowAt hb1 (by omega)
  have hbw1 : Below w.heap.size w w1 := hbW.trans (hb1.mono (by omega))
  cases hg : getN zs 0 with
  | none =>
    rw [hg] at ht
    obtain ⟨s, rfl⟩ := ht
    have hT := hide (recV_no (recD_no1 hg))
    clear hg HR p0 f0 k0
    go_wp2
    refine leaves_cons (f := 81) (args := #[.pointer (some ⟨w.heap.size, 0, none⟩)]) (by simp) (by simp [go_sem]) ?_
    refine (recOf1_panicking w.heap.size _ _ _ 9 _ [] _ c1).mono ?_
    rintro e u' w'' ⟨rfl, rfl, rfl⟩
    obtain ⟨⟨x0, x1, x2⟩, -⟩ := c1
    rw [← hT.out]
    simp [Leaves, settle, results, Try.results76, go_sem, x0, x1, x2]
    exact ((hbw1.setCell (Nat.le_refl _) _).setCell (Nat.le_refl _) _).setCell (Nat.le_refl _) _
  | some r =>
    obtain ⟨n, j⟩ := r
    rw [hg] at ht
    obtain ⟨rfl, p1, f1⟩ := ht
    have hbd := getN_bd hb hg
    have hj : j ≤ zs.length := hbd.2.2.1
    have hrd := HR.out w1 hb1
    obtain ⟨b, off, rfl, hc⟩ := rd_u8 (k := 0) hrd (by omega)
    have H1 := hide hg
    clear hg hrd p0 f0 k0
    by_cases hcj : zs.length = j
    · subst hcj
      have hd0 : zs.drop zs.length = [] := by simp
      have hT := hide (recV_no (recD_no3 H1.out (by rw [hd0]; rfl)))
      have RS := hide (implSum_any (some ⟨b, off, none⟩) [] 0 w1 (.inl rfl) (by intro z hz; simp at hz) (by simp))
      clear hc HR
      go_wp2_with fail
      refine RS.out.mono ?_
      rintro e u ⟨rfl, hu⟩
      have hu' := hu.symm
      subst hu'
      obtain ⟨S, hS⟩ : ∃ S, S = sumOf [] := ⟨_, rfl⟩
      rw [← hS]
      clear hS RS
      by_cases hn : n = S
      · subst hn
        have hnn : (n != n) = false := by simp
        obtain ⟨V, hV⟩ : ∃ V, V = w1.setCell ⟨w.heap.size + 1, 0, none⟩ (.int .i64 0) := ⟨_, rfl⟩
        have p2 : V.cell? ⟨w.heap.size + 1, 0, none⟩ = some (.int .i64 0) := by rw [hV]; exact World.cell?_setCell_same _ _ _ p1
        have f2 : V.frozen? ⟨w.heap.size + 1, 0, none⟩ = false := by rw [hV]; simpa using f1
        have hbV : Below (w.heap.size + 1) w1 V := by rw [hV]; exact (Below.refl (w.heap.size + 1) w1).setCell (p := ⟨w.heap.size + 1, 0, none⟩) (Nat.le_refl _) _
        have c2 := c1.belowAt hbV (by omega)
        have hbwV : Below w.heap.size w V := hbw1.trans (hbV.mono (by omega))
        have TR := hide (takeRec_any (some ⟨b, off, none⟩) [] 0 (w.heap.size + 1) 0 V (fun _ _ => .inl rfl) (by intro z hz; simp at hz) (by simp) (by simp) p2 f2)
        have hn0 : getR [] 0 = none := rfl
        rw [hn0] at TR
        clear p2 f2 hbV c1 hbw1
        go_wp2_with fail
        rw [← hV]
        clear hV p1 f1
        refine TR.out.mono ?_
        rintro e w3 ⟨hb3, s, rfl⟩
        have c3 := c2.belowAt hb3 (by omega)
        have hbw3 : Below w.heap.size w w3 := hbwV.trans (hb3.mono (by omega))
        clear c2 hb3 hbwV
        go_wp2
        refine leaves_cons (f := 81) (args := #[.pointer (some ⟨w.heap.size, 0, none⟩)]) (by simp) (by simp [go_sem]) ?_
        refine (recOf1_panicking w.heap.size _ _ _ 9 _ [] _ c3).mono ?_
        rintro e u' w'' ⟨rfl, rfl, rfl⟩
        obtain ⟨⟨x0, x1, x2⟩, -⟩ := c3
        rw [← hT.out]
        simp [Leaves, settle, results, Try.results76, go_sem, x0, x1, x2]
        exact ((hbw3.setCell (Nat.le_refl _) _).setCell (Nat.le_refl _) _).setCell (Nat.le_refl _) _
      · have hnn : (n != S) = true := by simpa using hn
        clear p1 f1
        obtain ⟨⟨x0, x1, x2⟩, xf⟩ := c1
        have y0 := xf 0
        have y1 := xf 1
        have y2 := xf 2
        clear xf
        go_wp2
        refine leaves_cons (f := 81) (args := #[.pointer (some ⟨w.heap.size, 0, none⟩)]) (by simp) (by simp [go_sem]) ?_
        refine (recOf1_idle w.heap.size _).mono ?_
        rintro e u' w'' ⟨rfl, rfl, rfl⟩
        rw [← hT.out]
        simp [Leaves, settle, results, Try.results76, go_sem, x0, x1, x2]
        exact ((hbw1.setCell (Nat.le_refl _) _).setCell (Nat.le_refl _) _).setCell (Nat.le_refl _) _
    · have hlt : j < zs.length := by omega
      obtain ⟨Z, hZ⟩ : ∃ Z, Z = zs.drop j := ⟨_, rfl⟩
      have hZl : zs.length - j = Z.length := by rw [hZ]; simp
      have hZb : IsBytes Z := by rw [hZ]; exact fun z hz => hb z (List.mem_of_mem_drop hz)
      have HZ := hide hZ
      have HRZ : Hid (∀ u, Below (w.heap.size + 1) w1 u → Rd u (some ⟨b, off + j, none⟩) (u8s Z)) := by
        intro u hu
        obtain ⟨b', off', hab, hc'⟩ := rd_u8 (k := 0) (HR.out u (hb1.trans hu)) (by omega)
        cases hab
        rw [HZ.out]
        exact rd_drop j hc'
      have RS := hide (implSum_any (some ⟨b, off + j, none⟩) Z Z.length w1 (HRZ.out w1 (Below.refl _ _)) hZb (by unfold maxLen; omega))
      clear hc HR hZ
      go_wp2_with fail
      refine RS.out.mono ?_
      rintro e u ⟨rfl, hu⟩
      have hu' := hu.symm
      subst hu'
      obtain ⟨S, hS⟩ : ∃ S, S = sumOf Z := ⟨_, rfl⟩
      rw [← hS]
      have HS := hide hS
      clear hS RS
      by_cases hn : n = S
      · have HN := hide hn
        subst hn
        have hnn : (n != n) = false := by simp
        obtain ⟨V, hV⟩ : ∃ V, V = w1.setCell ⟨w.heap.size + 1, 0, none⟩ (.int .i64 0) := ⟨_, rfl⟩
        have p2 : V.cell? ⟨w.heap.size + 1, 0, none⟩ = some (.int .i64 0) := by rw [hV]; exact World.cell?_setCell_same _ _ _ p1
        have f2 : V.frozen? ⟨w.heap.size + 1, 0, none⟩ = false := by rw [hV]; simpa using f1
        have hbV : Below (w.heap.size + 1) w1 V := by rw [hV]; exact (Below.refl (w.heap.size + 1) w1).setCell (p := ⟨w.heap.size + 1, 0, none⟩) (Nat.le_refl _) _
        have c2 := c1.belowAt hbV (by omega)
        have hbwV : Below w.heap.size w V := hbw1.trans (hbV.mono (by omega))
        have TR := hide (takeRec_any (some ⟨b, off + j, none⟩) Z Z.length (w.heap.size + 1) 0 V (fun u hu => HRZ.out u (hbV.trans hu)) hZb (by omega) (Nat.le_refl _) p2 f2)
        clear p2 f2 hbV c1 hbw1 HRZ
        go_wp2_with fail
        rw [← hV]
        clear hV p1 f1
        refine TR.out.mono ?_
        rintro e w3 ⟨hb3, ht⟩
        have c3 := c2.belowAt hb3 (by omega)
        have hbw3 : Below w.heap.size w w3 := hbwV.trans (hb3.mono (by omega))
        clear c2 hb3 hbwV TR
        cases hg : getR Z 0 with
        | none =>
          rw [hg] at ht
          obtain ⟨s, rfl⟩ := ht
          have hT := hide (recV_no (recD_no3 H1.out (by rw [← HZ.out]; exact hg)))
          clear hg
          go_wp2
          refine leaves_cons (f := 81) (args := #[.pointer (some ⟨w.heap.size, 0, none⟩)]) (by simp) (by simp [go_sem]) ?_
          refine (recOf1_panicking w.heap.size _ _ _ 9 _ [] _ c3).mono ?_
          rintro e u' w'' ⟨rfl, rfl, rfl⟩
          obtain ⟨⟨x0, x1, x2⟩, -⟩ := c3
          rw [← hT.out]
          simp [Leaves, settle, results, Try.results76, go_sem, x0, x1, x2]
          exact ((hbw3.setCell (Nat.le_refl _) _).setCell (Nat.le_refl _) _).setCell (Nat.le_refl _) _
        | some r =>
          obtain ⟨s, q, ys, l⟩ := r
          rw [hg] at ht
          obtain ⟨rfl, p3, f3⟩ := ht
          have HG := hide hg
          have hyl : (strOf ys).size ≤ maxLen := by
            obtain ⟨j', k', -, -, h3⟩ := getR_parts hg
            have := getT_len h3
            rw [strOf_size]; unfold maxLen; omega
          have hs3 := c3.lt
          obtain ⟨U3, hU3⟩ : ∃ U3, U3 = w3.alloc (Obj.cells #[.int .i64 s, .int .i64 q, .string (strOf ys)] 84) := ⟨_, rfl⟩
          have hbU3 : Below w3.heap.size w3 U3 := by rw [hU3]; exact (Below.refl _ _).alloc (Nat.le_refl _) _
          have u0 : C3 U3 w3.heap.size (.int .i64 s) (.int .i64 q) (.string (strOf ys)) := by rw [hU3]; exact c3_new _ _ _ _ _
          obtain ⟨⟨v00, v01, v02⟩, uf⟩ := u0
          have c4 := c3.below hbU3
          have p4 := (hbU3.cell (p := ⟨w.heap.size + 1, 0, none⟩) (lt_of_cell p3)).trans p3
          have hbw4 := after hbw3 hbU3
          clear hg c3 uf hbU3 f3
          have hlz : 0 < Z.length := by omega
          by_cases hl : l = Z.length
          · subst hl
            have hll : ((Z.length : Int) != (Z.length : Int)) = false := by simp
            go_wp2_with (rw [← hU3]; clear hU3)
            refine (implRecOk_any s q (strOf ys) U3 hyl).mono ?_
            rintro e w5 ⟨rfl, hb5⟩
            have c5 := c4.below hb5
            have hbw5 := after hbw4 hb5
            have hl3 : w3.heap.size < U3.heap.size := lt_of_cell v00
            have t0 := (hb5.cell (p := ⟨w3.heap.size, 0, none⟩) hl3).trans v00
            have t1 := (hb5.cell (p := ⟨w3.heap.size, 1, none⟩) hl3).trans v01
            have t2 := (hb5.cell (p := ⟨w3.heap.size, 2, none⟩) hl3).trans v02
            clear v00 v01 v02 c4 hb5 hbw4 p4
            cases hok : recOkB s q (strOf ys) with
            | true =>
              have hT := hide (recV_yes (recD_yes H1.out (by rw [← HZ.out, ← HS.out]) (by rw [← HZ.out]; exact HG.out) (by rw [← HZ.out]; exact ⟨rfl, hok⟩)))
              clear hok
              obtain ⟨⟨x0, x1, x2⟩, xf⟩ := c5
              have y0 := xf 0
              have y1 := xf 1
              have y2 := xf 2
              clear xf
              go_wp2
              refine leaves_cons (f := 81) (args := #[.pointer (some ⟨w.heap.size, 0, none⟩)]) (by simp) (by simp [go_sem]) ?_
              refine (recOf1_idle w.heap.size _).mono ?_
              rintro e u' w'' ⟨rfl, rfl, rfl⟩
              rw [← hT.out]
              simp [Leaves, settle, results, Try.results76, go_sem, x0, x1, x2]
              exact ((hbw5.setCell (Nat.le_refl _) _).setCell (Nat.le_refl _) _).setCell (Nat.le_refl _) _
            | false =>
              have hT := hide (recV_no (recD_no4 H1.out (by rw [← HZ.out]; exact HG.out) (by rw [hok]; simp)))
              clear hok
              obtain ⟨⟨x0, x1, x2⟩, xf⟩ := c5
              have y0 := xf 0
              have y1 := xf 1
              have y2 := xf 2
              clear xf
              go_wp2
              refine leaves_cons (f := 81) (args := #[.pointer (some ⟨w.heap.size, 0, none⟩)]) (by simp) (by simp [go_sem]) ?_
              refine (recOf1_idle w.heap.size _).mono ?_
              rintro e u' w'' ⟨rfl, rfl, rfl⟩
              rw [← hT.out]
              simp [Leaves, settle, results, Try.results76, go_sem, x0, x1, x2]
              exact ((hbw5.setCell (Nat.le_refl _) _).setCell (Nat.le_refl _) _).setCell (Nat.le_refl _) _
          · have hll : ((l : Int) != (Z.length : Int)) = true := by simp; omega
            have hT := hide (recV_no (recD_no4 H1.out (by rw [← HZ.out]; exact HG.out) (by rw [← HZ.out]; exact fun h => hl h.1)))
            obtain ⟨⟨x0, x1, x2⟩, xf⟩ := c4
            have y0 := xf 0
            have y1 := xf 1
            have y2 := xf 2
            clear xf
            go_wp2_with (rw [← hU3]; clear hU3)
            refine leaves_cons (f := 81) (args := #[.pointer (some ⟨w.heap.size, 0, none⟩)]) (by simp) (by simp [go_sem]) ?_
            refine (recOf1_idle w.heap.size _).mono ?_
            rintro e u' w'' ⟨rfl, rfl, rfl⟩
            rw [← hT.out]
            simp [Leaves, settle, results, Try.results76, go_sem, x0, x1, x2]
            exact ((hbw4.setCell (Nat.le_refl _) _).setCell (Nat.le_refl _) _).setCell (Nat.le_refl _) _
      · have hnn : (n != S) = true := by simpa using hn
        have hT := hide (recV_no (recD_no2 H1.out (by rw [← HZ.out, ← HS.out]; exact hn)))
        clear p1 f1 HRZ
        obtain ⟨⟨x0, x1, x2⟩, xf⟩ := c1
        have y0 := xf 0
        have y1 := xf 1
        have y2 := xf 2
        clear xf
        go_wp2
        refine leaves_cons (f := 81) (args := #[.pointer (some ⟨w.heap.size, 0, none⟩)]) (by simp) (by simp [go_sem]) ?_
        refine (recOf1_idle w.heap.size _).mono ?_
        rintro e u' w'' ⟨rfl, rfl, rfl⟩
        rw [← hT.out]
        simp [Leaves, settle, results, Try.results76, go_sem, x0, x1, x2]
        exact ((hbw1.setCell (Nat.le_refl _) _).setCell (Nat.le_refl _) _).setCell (Nat.le_refl _) _

end Go.Proofs.Ytdicjbabnknjhaa
