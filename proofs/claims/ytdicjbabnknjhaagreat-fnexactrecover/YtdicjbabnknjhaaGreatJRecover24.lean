/-
  Contracts of the program's recOf and RecRead.
  Contract of the program's RecRead.
  Contract of the program's recsOf: the record of each page, in a row of the call's own.
-/
import Derived.Test.YtdicjbabnknjhaaGreatJRecover23
import Derived.Test.YtdicjbabnknjhaaGreatJRecover11
import Derived.Test.YtdicjbabnknjhaaGreatJRecover3
import Derived.Laws.MakeOwn
namespace Go.Proofs.YtdicjbabnknjhaaGreat
open Go.RowKit

theorem rd_drop {w : World} {b off : Nat} {zs : List Int} (j : Nat) (h : ∀ i, i < zs.length → w.cell? ⟨b, off + i, none⟩ = some (.int .u8 (zs.getD i 0))) : Rd w (some ⟨b, off + j, none⟩) (u8s (zs.drop j)) := by
  refine .inr ⟨b, off + j, rfl, fun i v hv => ?_⟩
  have hi : i < (zs.drop j).length := by
    rcases Nat.lt_or_ge i (zs.drop j).length with h' | h'
    · exact h'
    · exfalso; simp only [u8s, List.getElem?_map] at hv; rw [List.getElem?_eq_none (by omega)] at hv; simp at hv
  simp at hi
  have := h (j + i) (by omega)
  rw [← Nat.add_assoc] at this
  rw [this]
  simp [u8s] at hv
  obtain ⟨z, hz, rfl⟩ := hv
  simp [hz]

theorem C3.belowAt {B : Nat} {u u' : World} {p : Nat} {x0 x1 x2 : Value} (h : C3 u p x0 x1 x2) (hb : Below B u u') (hp : p < B) : C3 u' p x0 x1 x2 :=
  ⟨⟨(hb.cell (p := ⟨p, 0, none⟩) hp).trans h.1.1, (hb.cell (p := ⟨p, 1, none⟩) hp).trans h.1.2.1, (hb.cell (p := ⟨p, 2, none⟩) hp).trans h.1.2.2⟩, fun j => (hb.frozen (p := ⟨p, j, none⟩) hp).trans (h.2 j)⟩
/-- The record that recOf hands back. -/
def recV (r : Option (Int × Int × List Int)) : Value :=
  match r with
  | none => .agg #[.int .i64 0, .int .i64 0, .string ⟨#[]⟩]
  | some (s, q, ys) => .agg #[.int .i64 s, .int .i64 q, .string (strOf ys)]
theorem recV_no {r : Option (Int × Int × List Int)} (h : r = none) : Value.agg #[.int .i64 0, .int .i64 0, .string ⟨#[]⟩] = recV r := by subst h; rfl
theorem recV_yes {r : Option (Int × Int × List Int)} {s q : Int} {ys : List Int} (h : r = some (s, q, ys)) : Value.agg #[.int .i64 s, .int .i64 q, .string (strOf ys)] = recV r := by subst h; rfl

set_option maxRecDepth 100000 in
set_option maxHeartbeats 3200000 in
theorem recOf_any (a : Option Addr) (zs : List Int) (cap : Nat) (w : World) (hr : Rd w a (u8s zs)) (hb : IsBytes zs) (hm : zs.length ≤ 1048576) (hcap : zs.length ≤ cap) :
    Calls Tryz.prog 92 #[.slice a zs.length cap] w fun e w' => e = .returned (recV (recD zs)) ∧ Below w.heap.size w w' := by
  have hmf : ∀ (fn : Fn) (first cap : Array Value) (w : World), (Instr.makeFunc fn first cap).run Tryz.prog w = .ok (.func fn first cap) w := fun _ _ _ _ => rfl
  obtain ⟨A, hA⟩ : ∃ A, A = w.alloc (Obj.cells #[.int .i64 0, .int .i64 0, .string ⟨#[]⟩] 87) := ⟨_, rfl⟩
  obtain ⟨A2, hA2⟩ : ∃ A2, A2 = A.alloc (Obj.cells #[.int .i64 0] 3) := ⟨_, rfl⟩
  obtain ⟨W, hW⟩ : ∃ W, W = A2.setCell ⟨w.heap.size + 1, 0, none⟩ (.int .i64 0) := ⟨_, rfl⟩
  have hsA : A.heap.size = w.heap.size + 1 := by rw [hA]; simp
  have hbA : Below w.heap.size w A := by rw [hA]; exact (Below.refl _ _).alloc (Nat.le_refl _) _
  have hbAA : Below A.heap.size A A2 := by rw [hA2]; exact (Below.refl _ _).alloc (Nat.le_refl _) _
  have q0 : A2.cell? ⟨w.heap.size + 1, 0, none⟩ = some (.int .i64 0) := by rw [hA2, ← hsA]; simp
  have g0 : A2.frozen? ⟨w.heap.size + 1, 0, none⟩ = false := by rw [hA2, ← hsA]; simp
  have hbAW : Below A.heap.size A W := by rw [hW]; exact hbAA.setCell (by show _ ≤ _; simp; omega) _
  have hbW := after hbA hbAW
  have k0 : C3 W w.heap.size (.int .i64 0) (.int .i64 0) (.string ⟨#[]⟩) := by
    have : C3 A w.heap.size (.int .i64 0) (.int .i64 0) (.string ⟨#[]⟩) := by rw [hA]; exact c3_new _ _ _ _ _
    exact this.below hbAW
  have p0 : W.cell? ⟨w.heap.size + 1, 0, none⟩ = some (.int .i64 0) := by rw [hW]; exact World.cell?_setCell_same _ _ _ q0
  have f0 : W.frozen? ⟨w.heap.size + 1, 0, none⟩ = false := by rw [hW]; simpa using g0
  have HR : Hid (∀ u, Below (w.heap.size + 1) W u → Rd u a (u8s zs)) := fun u hu => hr.below (hbW.trans (hu.mono (by omega)))
  clear hbA hbAW hr hsA hbAA
  go_enter_defers Tryz.func92, Tryz.ntmps92
  go_wp2_with (first | (rw [← hA]) | (rw [← hA2]; clear hA hA2))
  rw [← hW]
  clear hW q0 g0
  refine (takeNum_any a zs cap (w.heap.size + 1) 0 W HR.out hb hm p0 f0).mono ?_
  rintro e w1 ⟨hb1, ht⟩
  have c1 : C3 w1 w.heap.size (.int .i64 0) (.int .i64 0) (.string ⟨#[]⟩)  := k0.belowAt hb1 (by omega)
  have hbw1 : Below w.heap.size w w1 := hbW.trans (hb1.mono (by omega))
  cases hg : getN zs 0 with
  | none =>
    rw [hg] at ht
    obtain ⟨s, rfl⟩ := ht
    have hT := hide (recV_no (recD_no1 hg))
    clear hg HR p0 f0 k0
    go_wp2
    refine leaves_cons (f := 108) (args := #[.pointer (some ⟨w.heap.size, 0, none⟩)]) (by simp) (by simp [go_sem]) ?_
    refine (recOf1_panicking w.heap.size _ _ _ 9 _ [] _ c1).mono ?_
    rintro e u' w'' ⟨rfl, rfl, rfl⟩
    obtain ⟨⟨x0, x1, x2⟩, -⟩ := c1
    rw [← hT.out]
    simp [Leaves, settle, results, Tryz.results92, go_sem, x0, x1, x2]
    exact ((hbw1.setCell (Nat.le_refl _) _).setCell (Nat.le_refl _) _).setCell (Nat.le_refl _) _
  | some r =>
    obtain ⟨n, j⟩ := r
    rw [hg] at ht
    obtain ⟨rfl, p1, f1⟩ := ht
    have hbd := getN_bd hb hg
    have hj : j ≤ zs.length := hbd.2.2.1
    have hrd := HR.out w1 hb1
    obtain ⟨b, off, rfl, hc⟩ := rd_u8 (k := 0) hrd (by omega)
    have H1 := hide hg
    clear hg hrd p0 f0 k0
    by_cases hcj : zs.length = j
    · subst hcj
      have hd0 : zs.drop zs.length = [] := by simp
      have hT := hide (recV_no (recD_no3 H1.out (by rw [hd0]; rfl)))
      have RS := hide (implSum_any (some ⟨b, off, none⟩) [] 0 w1 (.inl rfl) (by intro z hz; simp at hz) (by simp))
      clear hc HR
      go_wp2_with fail
      refine RS.out.mono ?_
      rintro e u ⟨rfl, hu⟩
      have hu' := hu.symm
      subst hu'
      obtain ⟨S, hS⟩ : ∃ S, S = sumOf [] := ⟨_, rfl⟩
      rw [← hS]
      clear hS RS
      by_cases hn : n = S
      · subst hn
        have hnn : (n != n) = false := by simp
        obtain ⟨V, hV⟩ : ∃ V, V = w1.setCell ⟨w.heap.size + 1, 0, none⟩ (.int .i64 0) := ⟨_, rfl⟩
        have p2 : V.cell? ⟨w.heap.size + 1, 0, none⟩ = some (.int .i64 0) := by rw [hV]; exact World.cell?_setCell_same _ _ _ p1
        have f2 : V.frozen? ⟨w.heap.size + 1, 0, none⟩ = false := by rw [hV]; simpa using f1
        have hbV : Below (w.heap.size + 1) w1 V := by rw [hV]; exact (Below.refl (w.heap.size + 1) w1).setCell (p := ⟨w.heap.size + 1, 0, none⟩) (Nat.le_refl _) _
        have c2 := c1.belowAt hbV (by omega)
        have hbwV : Below w.heap.size w V := hbw1.trans (hbV.mono (by omega))
        have TR := hide (takeRec_any (some ⟨b, off, none⟩) [] 0 (w.heap.size + 1) 0 V (fun _ _ => .inl rfl) (by intro z hz; simp at hz) (by simp) (by simp) p2 f2)
        have hn0 : getR [] 0 = none := rfl
        rw [hn0] at TR
        clear p2 f2 hbV c1 hbw1
        go_wp2_with fail
        rw [← hV]
        clear hV p1 f1
        refine TR.out.mono ?_
        rintro e w3 ⟨hb3, s, rfl⟩
        have c3 := c2.belowAt hb3 (by omega)
        have hbw3 : Below w.heap.size w w3 := hbwV.trans (hb3.mono (by omega))
        clear c2 hb3 hbwV
        go_wp2
        refine leaves_cons (f := 108) (args := #[.pointer (some ⟨w.heap.size, 0, none⟩)]) (by simp) (by simp [go_sem]) ?_
        refine (recOf1_panicking w.heap.size _ _ _ 9 _ [] _ c3).mono ?_
        rintro e u' w'' ⟨rfl, rfl, rfl⟩
        obtain ⟨⟨x0, x1, x2⟩, -⟩ := c3
        rw [← hT.out]
        simp [Leaves, settle, results, Tryz.results92, go_sem, x0, x1, x2]
        exact ((hbw3.setCell (Nat.le_refl _) _).setCell (Nat.le_refl _) _).setCell (Nat.le_refl _) _
      · have hnn : (n != S) = true := by simpa using hn
        clear p1 f1
        obtain ⟨⟨x0, x1, x2⟩, xf⟩ := c1
        have y0 := xf 0
        have y1 := xf 1
        have y2 := xf 2
        clear xf
        go_wp2
        refine leaves_cons (f := 108) (args := #[.pointer (some ⟨w.heap.size, 0, none⟩)]) (by simp) (by simp [go_sem]) ?_
        refine (recOf1_idle w.heap.size _).mono ?_
        rintro e u' w'' ⟨rfl, rfl, rfl⟩
        rw [← hT.out]
        simp [Leaves, settle, results, Tryz.results92, go_sem, x0, x1, x2]
        exact ((hbw1.setCell (Nat.le_refl _) _).setCell (Nat.le_refl _) _).setCell (Nat.le_refl _) _
    · have hlt : j < zs.length := by omega
      obtain ⟨Z, hZ⟩ : ∃ Z, Z = zs.drop j := ⟨_, rfl⟩
      have hZl : zs.length - j = Z.length := by rw [hZ]; simp
      have hZb : IsBytes Z := by rw [hZ]; exact fun z hz => hb z (List.mem_of_mem_drop hz)
      have HZ := hide hZ
      have HRZ : Hid (∀ u, Below (w.heap.size + 1) w1 u → Rd u (some ⟨b, off + j, none⟩) (u8s Z)) := by
        intro u hu
        obtain ⟨b', off', hab, hc'⟩ := rd_u8 (k := 0) (HR.out u (hb1.trans hu)) (by omega)
        cases hab
        rw [HZ.out]
        exact rd_drop j hc'
      have RS := hide (implSum_any (some ⟨b, off + j, none⟩) Z Z.length w1 (HRZ.out w1 (Below.refl _ _)) hZb (by unfold maxLen; omega))
      clear hc HR hZ
      go_wp2_with fail
      refine RS.out.mono ?_
      rintro e u ⟨rfl, hu⟩
      have hu' := hu.symm
      subst hu'
      obtain ⟨S, hS⟩ : ∃ S, S = sumOf Z := ⟨_, rfl⟩
      rw [← hS]
      have HS := hide hS
      clear hS RS
      by_cases hn : n = S
      · have HN := hide hn
        subst hn
        have hnn : (n != n) = false := by simp
        obtain ⟨V, hV⟩ : ∃ V, V = w1.setCell ⟨w.heap.size + 1, 0, none⟩ (.int .i64 0) := ⟨_, rfl⟩
        have p2 : V.cell? ⟨w.heap.size + 1, 0, none⟩ = some (.int .i64 0) := by rw [hV]; exact World.cell?_setCell_same _ _ _ p1
        have f2 : V.frozen? ⟨w.heap.size + 1, 0, none⟩ = false := by rw [hV]; simpa using f1
        have hbV : Below (w.heap.size + 1) w1 V := by rw [hV]; exact (Below.refl (w.heap.size + 1) w1).setCell (p := ⟨w.heap.size + 1, 0, none⟩) (Nat.le_refl _) _
        have c2 := c1.belowAt hbV (by omega)
        have hbwV : Below w.heap.size w V := hbw1.trans (hbV.mono (by omega))
        have TR := hide (takeRec_any (some ⟨b, off + j, none⟩) Z Z.length (w.heap.size + 1) 0 V (fun u hu => HRZ.out u (hbV.trans hu)) hZb (by omega) (Nat.le_refl _) p2 f2)
        clear p2 f2 hbV c1 hbw1 HRZ
        go_wp2_with fail
        rw [← hV]
        clear hV p1 f1
        refine TR.out.mono ?_
        rintro e w3 ⟨hb3, ht⟩
        have c3 := c2.belowAt hb3 (by omega)
        have hbw3 : Below w.heap.size w w3 := hbwV.trans (hb3.mono (by omega))
        clear c2 hb3 hbwV TR
        cases hg : getR Z 0 with
        | none =>
          rw [hg] at ht
          obtain ⟨s, rfl⟩ := ht
          have hT := hide (recV_no (recD_no3 H1.out (by rw [← HZ.out]; exact hg)))
          clear hg
          go_wp2
          refine leaves_cons (f := 108) (args := #[.pointer (some ⟨w.heap.size, 0, none⟩)]) (by simp) (by simp [go_sem]) ?_
          refine (recOf1_panicking w.heap.size _ _ _ 9 _ [] _ c3).mono ?_
          rintro e u' w'' ⟨rfl, rfl, rfl⟩
          obtain ⟨⟨x0, x1, x2⟩, -⟩ := c3
          rw [← hT.out]
          simp [Leaves, settle, results, Tryz.results92, go_sem, x0, x1, x2]
          exact ((hbw3.setCell (Nat.le_refl _) _).setCell (Nat.le_refl _) _).setCell (Nat.le_refl _) _
        | some r =>
          obtain ⟨s, q, ys, l⟩ := r
          rw [hg] at ht
          obtain ⟨rfl, p3, f3⟩ := ht
          have HG := hide hg
          have hyl : (strOf ys).size ≤ maxLen := by
            obtain ⟨j', k', -, -, h3⟩ := getR_parts hg
            have := getT_len h3
            rw [strOf_size]; unfold maxLen; omega
          have hs3 := c3.lt
          obtain ⟨U3, hU3⟩ : ∃ U3, U3 = w3.alloc (Obj.cells #[.int .i64 s, .int .i64 q, .string (strOf ys)] 87) := ⟨_, rfl⟩
          have hbU3 : Below w3.heap.size w3 U3 := by rw [hU3]; exact (Below.refl _ _).alloc (Nat.le_refl _) _
          have u0 : C3 U3 w3.heap.size (.int .i64 s) (.int .i64 q) (.string (strOf ys)) := by rw [hU3]; exact c3_new _ _ _ _ _
          obtain ⟨⟨v00, v01, v02⟩, uf⟩ := u0
          have c4 := c3.below hbU3
          have p4 := (hbU3.cell (p := ⟨w.heap.size + 1, 0, none⟩) (lt_of_cell p3)).trans p3
          have hbw4 := after hbw3 hbU3
          clear hg c3 uf hbU3 f3
          have hlz : 0 < Z.length := by omega
          by_cases hl : l = Z.length
          · subst hl
            have hll : ((Z.length : Int) != (Z.length : Int)) = false := by simp
            go_wp2_with (rw [← hU3]; clear hU3)
            refine (implRecOk_any s q (strOf ys) U3 hyl).mono ?_
            rintro e w5 ⟨rfl, hb5⟩
            have c5 := c4.below hb5
            have hbw5 := after hbw4 hb5
            have hl3 : w3.heap.size < U3.heap.size := lt_of_cell v00
            have t0 := (hb5.cell (p := ⟨w3.heap.size, 0, none⟩) hl3).trans v00
            have t1 := (hb5.cell (p := ⟨w3.heap.size, 1, none⟩) hl3).trans v01
            have t2 := (hb5.cell (p := ⟨w3.heap.size, 2, none⟩) hl3).trans v02
            clear v00 v01 v02 c4 hb5 hbw4 p4
            cases hok : recOkB s q (strOf ys) with
            | true =>
              have hT := hide (recV_yes (recD_yes H1.out (by rw [← HZ.out, ← HS.out]) (by rw [← HZ.out]; exact HG.out) (by rw [← HZ.out]; exact ⟨rfl, hok⟩)))
              clear hok
              obtain ⟨⟨x0, x1, x2⟩, xf⟩ := c5
              have y0 := xf 0
              have y1 := xf 1
              have y2 := xf 2
              clear xf
              go_wp2
              refine leaves_cons (f := 108) (args := #[.pointer (some ⟨w.heap.size, 0, none⟩)]) (by simp) (by simp [go_sem]) ?_
              refine (recOf1_idle w.heap.size _).mono ?_
              rintro e u' w'' ⟨rfl, rfl, rfl⟩
              rw [← hT.out]
              simp [Leaves, settle, results, Tryz.results92, go_sem, x0, x1, x2]
              exact ((hbw5.setCell (Nat.le_refl _) _).setCell (Nat.le_refl _) _).setCell (Nat.le_refl _) _
            | false =>
              have hT := hide (recV_no (recD_no4 H1.out (by rw [← HZ.out]; exact HG.out) (by rw [hok]; simp)))
              clear hok
              obtain ⟨⟨x0, x1, x2⟩, xf⟩ := c5
              have y0 := xf 0
              have y1 := xf 1
              have y2 := xf 2
              clear xf
              go_wp2
              refine leaves_cons (f := 108) (args := #[.pointer (some ⟨w.heap.size, 0, none⟩)]) (by simp) (by simp [go_sem]) ?_
              refine (recOf1_idle w.heap.size _).mono ?_
              rintro e u' w'' ⟨rfl, rfl, rfl⟩
              rw [← hT.out]
              simp [Leaves, settle, results, Tryz.results92, go_sem, x0, x1, x2]
              exact ((hbw5.setCell (Nat.le_refl _) _).setCell (Nat.le_refl _) _).setCell (Nat.le_refl _) _
          · have hll : ((l : Int) != (Z.length : Int)) = true := by simp; omega
            have hT := hide (recV_no (recD_no4 H1.out (by rw [← HZ.out]; exact HG.out) (by rw [← HZ.out]; exact fun h => hl h.1)))
            obtain ⟨⟨x0, x1, x2⟩, xf⟩ := c4
            have y0 := xf 0
            have y1 := xf 1
            have y2 := xf 2
            clear xf
            go_wp2_with (rw [← hU3]; clear hU3)
            refine leaves_cons (f := 108) (args := #[.pointer (some ⟨w.heap.size, 0, none⟩)]) (by simp) (by simp [go_sem]) ?_
            refine (recOf1_idle w.heap.size _).mono ?_
            rintro e u' w'' ⟨rfl, rfl, rfl⟩
            rw [← hT.out]
            simp [Leaves, settle, results, Tryz.results92, go_sem, x0, x1, x2]
            exact ((hbw4.setCell (Nat.le_refl _) _).setCell (Nat.le_refl _) _).setCell (Nat.le_refl _) _
      · have hnn : (n != S) = true := by simpa using hn
        have hT := hide (recV_no (recD_no2 H1.out (by rw [← HZ.out, ← HS.out]; exact hn)))
        clear p1 f1 HRZ
        obtain ⟨⟨x0, x1, x2⟩, xf⟩ := c1
        have y0 := xf 0
        have y1 := xf 1
        have y2 := xf 2
        clear xf
        go_wp2
        refine leaves_cons (f := 108) (args := #[.pointer (some ⟨w.heap.size, 0, none⟩)]) (by simp) (by simp [go_sem]) ?_
        refine (recOf1_idle w.heap.size _).mono ?_
        rintro e u' w'' ⟨rfl, rfl, rfl⟩
        rw [← hT.out]
        simp [Leaves, settle, results, Tryz.results92, go_sem, x0, x1, x2]
        exact ((hbw1.setCell (Nat.le_refl _) _).setCell (Nat.le_refl _) _).setCell (Nat.le_refl _) _

end Go.Proofs.YtdicjbabnknjhaaGreat

namespace Go.Proofs.YtdicjbabnknjhaaGreat
open Go.RowKit

theorem recV_of {t : ByteArray} {s q : Int} {d : ByteArray} (h : recR t = some (s, q, d)) : recV (recD (strB t)) = .agg #[.int .i64 s, .int .i64 q, .string d] := by
  rw [recD_of h]; simp [recV, strOf_strB]
theorem recV_none {t : ByteArray} (h : recR t = none) : recV (recD (strB t)) = .agg #[.int .i64 0, .int .i64 0, .string ⟨#[]⟩] := by
  rw [recD_none.2 h]; rfl

set_option maxRecDepth 100000 in
set_option maxHeartbeats 6400000 in
theorem implRecRead_any (t : ByteArray) (w : World) (ht : t.size ≤ 1048576) :
    Calls Tryz.prog 70 #[.string t] w fun e w' => (∀ s q d, recR t = some (s, q, d) → e = .returned (.tuple #[.agg #[.int .i64 s, .int .i64 q, .string d], .bool true])) ∧
      (recR t = none → e = .returned (.tuple #[.agg #[.int .i64 0, .int .i64 0, .string ByteArray.empty], .bool false])) ∧ Below w.heap.size w w' := by
  have hcv := fun w => run_bytes_of_string (P := Tryz.prog) w 9 82 5 t Tryz.underlying9 Tryz.underlying82 Tryz.underlying5
  obtain ⟨A, hA⟩ : ∃ A, A = w.alloc (Obj.cells #[.int .i64 0, .int .i64 0, .string ⟨#[]⟩] 87) := ⟨_, rfl⟩
  have hsA : A.heap.size = w.heap.size + 1 := by rw [hA]; simp
  obtain ⟨C, hC⟩ : ∃ C, C = grownCap A t.size 0 5 := ⟨_, rfl⟩
  have hcap : t.size ≤ C := by rw [hC]; exact grownCap_ge _ _ _ _
  obtain ⟨X, hX⟩ : ∃ X, X = Obj.cells (bytesRow t C) 5 ((bytesRow t C).size, (bytesRow t C).size + 1) := ⟨_, rfl⟩
  obtain ⟨W, hW⟩ : ∃ W, W = (A.alloc X).drew := ⟨_, rfl⟩
  have hbA : Below w.heap.size w A := by rw [hA]; exact (Below.refl _ _).alloc (Nat.le_refl _) _
  have hbX : Below A.heap.size A W := by rw [hW]; exact after_drew ((Below.refl _ _).alloc (Nat.le_refl _) _) 1
  have hbW : Below w.heap.size w W := after hbA hbX
  have hrd : Rd W (some ⟨w.heap.size + 1, 0, none⟩) (u8s (strB t)) := by
    have := (rd_bytes t A C)
    rw [← hX, hsA] at this
    rw [hW]
    exact this
  have k0 : C3 W w.heap.size (.int .i64 0) (.int .i64 0) (.string ⟨#[]⟩) := by
    have : C3 A w.heap.size (.int .i64 0) (.int .i64 0) (.string ⟨#[]⟩) := by rw [hA]; exact c3_new _ _ _ _ _
    exact this.below hbX
  have RO := hide (recOf_any (some ⟨w.heap.size + 1, 0, none⟩) (strB t) C W hrd (strB_bytes t) (by rw [strB_len]; exact ht) (by rw [strB_len]; exact hcap))
  rw [strB_len] at RO
  clear hbA hbX hrd hsA
  go_enter Tryz.func70, Tryz.ntmps70
  go_wp2_with fail
  rw [← hA]
  rw [← hC]
  rw [← hX]
  rw [← hW]
  clear hA hC hX hW hcv
  refine RO.out.mono ?_
  rintro e w1 ⟨rfl, hb1⟩
  have k1 := k0.below hb1
  have hbw1 := after hbW hb1
  have hs1 := k1.lt
  clear RO k0 hb1
  cases hr : recR t with
  | none =>
    rw [recV_none hr]
    have HN := hide hr
    clear hr
    obtain ⟨U, hU⟩ : ∃ U, U = w1.alloc (Obj.cells #[.int .i64 0, .int .i64 0, .string ⟨#[]⟩] 87) := ⟨_, rfl⟩
    have hbU : Below w1.heap.size w1 U := by rw [hU]; exact (Below.refl _ _).alloc (Nat.le_refl _) _
    have u0 : C3 U w1.heap.size (.int .i64 0) (.int .i64 0) (.string ⟨#[]⟩) := by rw [hU]; exact c3_new _ _ _ _ _
    have k2 := k1.below hbU
    have hbw2 := after hbw1 hbU
    obtain ⟨⟨u00, u01, u02⟩, -⟩ := u0
    obtain ⟨⟨x0, x1, x2⟩, xf⟩ := k2
    have y0 := xf 0
    have y1 := xf 1
    have y2 := xf 2
    clear xf k1 hbU
    go_wp2_with fail
    rw [← hU]
    clear hU
    go_region
    all_goals go_wp2
    all_goals exact bodyPost_ret (v := .tuple #[.agg #[.int .i64 0, .int .i64 0, .string ⟨#[]⟩], .bool false]) (by simp [results, Tryz.results70, go_sem, x0, x1, x2]) rfl ⟨fun s q d h => (by rw [HN.out] at h; cases h), fun _ => rfl, (((hbw2.setCell (by show _ ≤ _; simp) _).setCell (by show _ ≤ _; simp) _).setCell (by show _ ≤ _; simp) _).drew⟩
  | some r =>
    obtain ⟨s, q, d⟩ := r
    rw [recV_of hr]
    have hq : 1 ≤ q := (recOkB_iff.1 (recR_iff.1 hr).1).2.1.1
    have HN := hide hr
    clear hr
    have hq0 : (q == 0) = false := by simp; omega
    obtain ⟨U, hU⟩ : ∃ U, U = w1.alloc (Obj.cells #[.int .i64 s, .int .i64 q, .string d] 87) := ⟨_, rfl⟩
    have hbU : Below w1.heap.size w1 U := by rw [hU]; exact (Below.refl _ _).alloc (Nat.le_refl _) _
    have u0 : C3 U w1.heap.size (.int .i64 s) (.int .i64 q) (.string d) := by rw [hU]; exact c3_new _ _ _ _ _
    have k2 := k1.below hbU
    have hbw2 := after hbw1 hbU
    obtain ⟨⟨u00, u01, u02⟩, -⟩ := u0
    obtain ⟨⟨x0, x1, x2⟩, xf⟩ := k2
    have y0 := xf 0
    have y1 := xf 1
    have y2 := xf 2
    clear xf k1 hbU
    go_wp2_with (rw [← hU]; clear hU)
    go_region
    all_goals go_wp2
    all_goals exact bodyPost_ret (v := .tuple #[.agg #[.int .i64 s, .int .i64 q, .string d], .bool true]) (by simp [results, Tryz.results70, go_sem, x0, x1, x2]) rfl ⟨fun s' q' d' h => (by rw [HN.out] at h; cases h; rfl), fun h => (by rw [HN.out] at h; cases h), (((hbw2.setCell (by show _ ≤ _; simp) _).setCell (by show _ ≤ _; simp) _).setCell (by show _ ≤ _; simp) _).drew⟩

end Go.Proofs.YtdicjbabnknjhaaGreat

namespace Go.Proofs.YtdicjbabnknjhaaGreat
open Go.RowKit

theorem infoRec : (Tryz.prog.info? 87).map (fun i => (i.zero, i.size, i.bytes)) = some (some (Value.agg #[.int .i64 0, .int .i64 0, .string ⟨#[]⟩]), 3, 32) := by kernel_rfl

/-- What stands at place i when the first k pages were read. -/
def recK (ps : List ByteArray) (k i : Nat) : Int × Int × ByteArray := if i < k then recC ps i else (0, 0, ByteArray.empty)
/-- The row of records at block g: k of them were read. -/
def RecRow (w : World) (g : Nat) (ps : List ByteArray) (k : Nat) : Prop :=
  (∀ i, i < 60 → w.cell? ⟨g, i * 3, none⟩ = some (.int .i64 (recK ps k i).1) ∧ w.cell? ⟨g, i * 3 + 1, none⟩ = some (.int .i64 (recK ps k i).2.1) ∧ w.cell? ⟨g, i * 3 + 2, none⟩ = some (.string (recK ps k i).2.2)) ∧ ∀ j, w.frozen? ⟨g, j, none⟩ = false
theorem RecRow.lt {w : World} {g : Nat} {ps : List ByteArray} {k : Nat} (h : RecRow w g ps k) : g < w.heap.size := lt_of_cell (h.1 0 (by decide)).1
theorem RecRow.below {w w' : World} {g : Nat} {ps : List ByteArray} {k : Nat} (h : RecRow w g ps k) (hb : Below w.heap.size w w') : RecRow w' g ps k := by
  have hl := h.lt
  refine ⟨fun i hi => ?_, fun j => (hb.frozen (p := ⟨g, j, none⟩) hl).trans (h.2 j)⟩
  obtain ⟨h0, h1, h2⟩ := h.1 i hi
  exact ⟨(hb.cell (p := ⟨g, i * 3, none⟩) hl).trans h0, (hb.cell (p := ⟨g, i * 3 + 1, none⟩) hl).trans h1, (hb.cell (p := ⟨g, i * 3 + 2, none⟩) hl).trans h2⟩
theorem RecRow.other {w : World} {g p j : Nat} {v : Value} {ps : List ByteArray} {k : Nat} (h : RecRow w g ps k) (hne : p ≠ g) : RecRow (w.setCell ⟨p, j, none⟩ v) g ps k := by
  refine ⟨fun i hi => ?_, fun j => by simpa using h.2 j⟩
  obtain ⟨h0, h1, h2⟩ := h.1 i hi
  exact ⟨cell_aside h0 hne, cell_aside h1 hne, cell_aside h2 hne⟩
theorem set_at {w : World} {g j i : Nat} {v u : Value} (h : w.cell? ⟨g, i, none⟩ = some v) (hne : j ≠ i) : (w.setCell ⟨g, j, none⟩ u).cell? ⟨g, i, none⟩ = some v := by
  rw [World.cell?_setCell_other _ _ _ _ (by intro e; injection e with e1 e2; exact hne e2)]
  exact h
theorem RecRow.step {w : World} {g : Nat} {ps : List ByteArray} {k : Nat} {s q : Int} {d : ByteArray} (h : RecRow w g ps k) (hk : k < 60) (he : recC ps k = (s, q, d)) :
    RecRow (((w.setCell ⟨g, k * 3, none⟩ (.int .i64 s)).setCell ⟨g, k * 3 + 1, none⟩ (.int .i64 q)).setCell ⟨g, k * 3 + 2, none⟩ (.string d)) g ps (k + 1) := by
  refine ⟨fun i hi => ?_, fun j => by simpa using h.2 j⟩
  by_cases hik : i = k
  · subst hik
    obtain ⟨h0, h1, h2⟩ := h.1 i hi
    have e : recK ps (i + 1) i = (s, q, d) := by simp [recK, he]
    rw [e]
    refine ⟨?_, ?_, ?_⟩
    · exact set_at (set_at (World.cell?_setCell_same _ _ _ h0) (by omega)) (by omega)
    · exact set_at (World.cell?_setCell_same _ _ _ (set_at h1 (by omega))) (by omega)
    · exact World.cell?_setCell_same _ _ _ (set_at (set_at h2 (by omega)) (by omega))
  · obtain ⟨h0, h1, h2⟩ := h.1 i hi
    have e : recK ps (k + 1) i = recK ps k i := by
      unfold recK
      by_cases h' : i < k
      · rw [if_pos h', if_pos (by omega)]
      · rw [if_neg h', if_neg (by omega)]
    rw [e]
    refine ⟨?_, ?_, ?_⟩
    · exact set_at (set_at (set_at h0 (by omega)) (by omega)) (by omega)
    · exact set_at (set_at (set_at h1 (by omega)) (by omega)) (by omega)
    · exact set_at (set_at (set_at h2 (by omega)) (by omega)) (by omega)
theorem RecRow.skip {w : World} {g : Nat} {ps : List ByteArray} {k : Nat} (h : RecRow w g ps k) (he : recC ps k = (0, 0, ByteArray.empty)) : RecRow w g ps (k + 1) := by
  refine ⟨fun i hi => ?_, h.2⟩
  have e : recK ps (k + 1) i = recK ps k i := by
    unfold recK
    by_cases h' : i < k
    · rw [if_pos h', if_pos (by omega)]
    · rw [if_neg h']
      by_cases hik : i = k
      · rw [if_pos (by omega), hik, he]
      · rw [if_neg (by omega)]
  rw [e]; exact h.1 i hi

theorem made_recs (w : World) (ps : List ByteArray) : RecRow (w.alloc (.cells (madeCells (Value.agg #[.int .i64 0, .int .i64 0, .string ⟨#[]⟩]).cells 180) 87)) w.heap.size ps 0 := by
  have hc : ∀ j, j < 180 → (w.alloc (.cells (madeCells (Value.agg #[.int .i64 0, .int .i64 0, .string ⟨#[]⟩]).cells 180) 87)).cell? ⟨w.heap.size, j, none⟩ = some ((#[Value.int .i64 0, .int .i64 0, .string ⟨#[]⟩] : Array Value)[j % 3]?.getD undef) := by
    intro j hj
    have : (madeCells (Value.agg #[.int .i64 0, .int .i64 0, .string ⟨#[]⟩]).cells 180)[j]? = some ((#[Value.int .i64 0, .int .i64 0, .string ⟨#[]⟩] : Array Value)[j % 3]?.getD undef) := by
      have hm : j % 3 < 3 := Nat.mod_lt _ (by decide)
      simp [madeCells, Value.cells, hj, hm]
    rw [World.cell?_alloc_new]; exact this
  refine ⟨fun i hi => ?_, fun j => by simp⟩
  have e : recK ps 0 i = (0, 0, ByteArray.empty) := by simp [recK]
  rw [e]
  refine ⟨?_, ?_, ?_⟩
  · rw [hc _ (by omega), show i * 3 % 3 = 0 by omega]; rfl
  · rw [hc _ (by omega), show (i * 3 + 1) % 3 = 1 by omega]; rfl
  · rw [hc _ (by omega), show (i * 3 + 2) % 3 = 2 by omega]; rfl

set_option maxRecDepth 100000 in
set_option maxHeartbeats 3200000 in
theorem recsOf_any (a : Option Addr) (ps : List ByteArray) (c : Nat) (w : World) (hp : Rd w a (vsString ps)) (hl : ps.length = 60) (hs : ∀ s ∈ ps, s.size ≤ 1048576) :
    Calls Tryz.prog 88 #[.slice a ps.length c] w fun e w' => e = .returned (.slice (some ⟨w.heap.size, 0, none⟩) 60 60) ∧ RecRow w' w.heap.size ps 60 ∧ Below w.heap.size w w' := by
  obtain ⟨i2, hi2, hz0, hz1, hz2⟩ := info_parts infoRec
  have k60 : ∀ w, (Instr.makeSlice 113 (.int .i64 60) (.int .i64 60)).run Tryz.prog w = .ok (.slice (some ⟨w.heap.size, 0, none⟩) 60 60) (w.alloc (.cells (madeCells (Value.agg #[.int .i64 0, .int .i64 0, .string ⟨#[]⟩]).cells 180) 87)) := by
    intro w
    have := run_make (P := Tryz.prog) w 113 87 i2 _ Tryz.underlying113 hi2 hz0 .i64 .i64 60 60 (by decide) (by decide) (by rw [hz2]; decide) (by decide)
    rw [hz1, show Int.toNat 60 * 3 = 180 from rfl] at this
    exact this
  obtain ⟨Z, hZ⟩ : ∃ Z, Z = madeCells (Value.agg #[.int .i64 0, .int .i64 0, .string ⟨#[]⟩]).cells 180 := ⟨_, rfl⟩
  have hrow := made_recs w ps
  rw [← hZ] at k60 hrow
  obtain ⟨W, hW⟩ : ∃ W, W = w.alloc (.cells Z 87) := ⟨_, rfl⟩
  rw [← hW] at hrow
  have hbW : Below w.heap.size w W := by rw [hW]; exact (Below.refl _ _).alloc (Nat.le_refl _) _
  clear hZ hz0 hz1 hz2
  have HL := hide hl
  rw [hl]
  have HS := hide hs
  clear hs hl
  go_enter Tryz.func88, Tryz.ntmps88
  go_wp2_with fail
  rw [← hW]
  clear hW k60
  go_loopw [11] (fun i wr => ∃ k : Nat, k ≤ 60 ∧ i = .int .i64 k ∧ RecRow wr w.heap.size ps k ∧ Below w.heap.size w wr) (fun i _ => 60 - (intOf i).toNat)
  case atStart => exact ⟨0, by omega, rfl, hrow, hbW⟩
  case round =>
    obtain ⟨k, hk, rfl, hR, hB⟩ := hrel
    by_cases hlt : k < 60
    · obtain ⟨ba, oa, t, rfl, hck, HX⟩ := rdString_at (hp.below hB) (show k < ps.length by have := HL.out; omega)
      have ht : Hid (t.size ≤ 1048576) := HS.out t (List.mem_of_getElem? HX.out)
      have he : ps[k]?.getD ByteArray.empty = t := by rw [HX.out]; rfl
      clear hrow hbW
      by_cases hte : t = ByteArray.empty
      · have HR := hide (hR.skip (recC_none (by rw [he, hte]; exact recR_empty)))
        subst hte
        clear hp hR he
        go_wp2
        go_roundw
        case rel => exact ⟨k + 1, by omega, by go_num, HR.out, hB⟩
        case measure => simp [intOf]; omega
      · have hti := isEmpty_str hte
        obtain ⟨s, q, d, B, he2, hcall⟩ : ∃ (s q : Int) (d : ByteArray) (B : Bool), Hid (recC ps k = (s, q, d)) ∧ Hid (Calls Tryz.prog 70 #[.string t] wr fun e w' => e = .returned (.tuple #[.agg #[.int .i64 s, .int .i64 q, .string d], .bool B]) ∧ Below wr.heap.size wr w') := by
          cases hr : recR t with
          | none => exact ⟨0, 0, ByteArray.empty, false, recC_none (by rw [he]; exact hr), (implRecRead_any t wr ht.out).mono fun e w' h => ⟨h.2.1 hr, h.2.2⟩⟩
          | some r => obtain ⟨s, q, d⟩ := r; exact ⟨s, q, d, true, recC_some (by rw [he]; exact hr), (implRecRead_any t wr ht.out).mono fun e w' h => ⟨h.1 s q d hr, h.2.2⟩⟩
        clear hp hte he
        go_wp2_with fail
        refine hcall.out.mono ?_
        rintro e w1 ⟨rfl, hb1⟩
        have hR1 := hR.below hb1
        have hB1 := after hB hb1
        obtain ⟨⟨c0, c1, c2⟩, hf⟩ := And.intro (hR1.1 k hlt) hR1.2
        have f0 := hf (k * 3)
        have f1 := hf (k * 3 + 1)
        have f2 := hf (k * 3 + 2)
        have HR := hide (hR1.step hlt he2.out)
        clear hR hb1 hck hcall hf hR1 HX
        go_wp2
        go_roundw
        case rel => exact ⟨k + 1, by omega, by go_num, HR.out, ((hB1.setCell (by show _ ≤ _; simp) _).setCell (by show _ ≤ _; simp) _).setCell (by show _ ≤ _; simp) _⟩
        case measure => simp [intOf]; omega
    · obtain rfl : k = 60 := by omega
      clear hp hrow hbW
      go_wp2
      go_ret
      exact ⟨rfl, hR, hB⟩

end Go.Proofs.YtdicjbabnknjhaaGreat
