/-
  Contracts of the laws' helpers over what is mounted: toFtl, szFtl, eqFtl.
-/
import Derived.Test.YtdicjbabnknjhaaSpecFtl
namespace Go.Proofs.Ytdicjbabnknjhaa
open Go.RowKit

/-- Four cells of a variable. -/
def C4 (u : World) (p : Nat) (x0 x1 x2 x3 : Value) : Prop :=
  (u.cell? ⟨p, 0, none⟩ = some x0 ∧ u.cell? ⟨p, 1, none⟩ = some x1 ∧ u.cell? ⟨p, 2, none⟩ = some x2 ∧ u.cell? ⟨p, 3, none⟩ = some x3) ∧ ∀ j, u.frozen? ⟨p, j, none⟩ = false
theorem C4.lt {u : World} {p : Nat} {x0 x1 x2 x3 : Value} (h : C4 u p x0 x1 x2 x3) : p < u.heap.size := lt_of_cell h.1.1
theorem C4.below {u u' : World} {p : Nat} {x0 x1 x2 x3 : Value} (h : C4 u p x0 x1 x2 x3) (hb : Below u.heap.size u u') : C4 u' p x0 x1 x2 x3 :=
  ⟨⟨(hb.cell (p := ⟨p, 0, none⟩) h.lt).trans h.1.1, (hb.cell (p := ⟨p, 1, none⟩) h.lt).trans h.1.2.1, (hb.cell (p := ⟨p, 2, none⟩) h.lt).trans h.1.2.2.1, (hb.cell (p := ⟨p, 3, none⟩) h.lt).trans h.1.2.2.2⟩, fun j => (hb.frozen (p := ⟨p, j, none⟩) h.lt).trans (h.2 j)⟩
theorem C4.other {u : World} {p q k : Nat} {x0 x1 x2 x3 : Value} (h : C4 u p x0 x1 x2 x3) (hne : q ≠ p) (v : Value) : C4 (u.setCell ⟨q, k, none⟩ v) p x0 x1 x2 x3 :=
  ⟨⟨cell_other h.1.1 hne, cell_other h.1.2.1 hne, cell_other h.1.2.2.1 hne, cell_other h.1.2.2.2 hne⟩, fun j => by simpa using h.2 j⟩
theorem C4.set0 {u : World} {p : Nat} {x0 x1 x2 x3 : Value} (h : C4 u p x0 x1 x2 x3) (v : Value) : C4 (u.setCell ⟨p, 0, none⟩ v) p v x1 x2 x3 :=
  ⟨⟨World.cell?_setCell_same _ _ _ h.1.1, by simpa [go_sem] using h.1.2.1, by simpa [go_sem] using h.1.2.2.1, by simpa [go_sem] using h.1.2.2.2⟩, fun j => by simpa using h.2 j⟩
theorem C4.set1 {u : World} {p : Nat} {x0 x1 x2 x3 : Value} (h : C4 u p x0 x1 x2 x3) (v : Value) : C4 (u.setCell ⟨p, 1, none⟩ v) p x0 v x2 x3 :=
  ⟨⟨by simpa [go_sem] using h.1.1, World.cell?_setCell_same _ _ _ h.1.2.1, by simpa [go_sem] using h.1.2.2.1, by simpa [go_sem] using h.1.2.2.2⟩, fun j => by simpa using h.2 j⟩
theorem C4.set2 {u : World} {p : Nat} {x0 x1 x2 x3 : Value} (h : C4 u p x0 x1 x2 x3) (v : Value) : C4 (u.setCell ⟨p, 2, none⟩ v) p x0 x1 v x3 :=
  ⟨⟨by simpa [go_sem] using h.1.1, by simpa [go_sem] using h.1.2.1, World.cell?_setCell_same _ _ _ h.1.2.2.1, by simpa [go_sem] using h.1.2.2.2⟩, fun j => by simpa using h.2 j⟩
theorem C4.set3 {u : World} {p : Nat} {x0 x1 x2 x3 : Value} (h : C4 u p x0 x1 x2 x3) (v : Value) : C4 (u.setCell ⟨p, 3, none⟩ v) p x0 x1 x2 v :=
  ⟨⟨by simpa [go_sem] using h.1.1, by simpa [go_sem] using h.1.2.1, by simpa [go_sem] using h.1.2.2.1, World.cell?_setCell_same _ _ _ h.1.2.2.2⟩, fun j => by simpa using h.2 j⟩
theorem c4_new (u : World) (x0 x1 x2 x3 : Value) (t : TypeId) : C4 (u.alloc (.cells #[x0, x1, x2, x3] t)) u.heap.size x0 x1 x2 x3 := ⟨⟨by simp, by simp, by simp, by simp⟩, fun j => by simp⟩

/-- What came in may be read. -/
theorem ftlRows_set {w : World} {base p k : Nat} {v : Value} {e : TypeId} {n : Nat} {xs : List Value} (h : w.ownsRow base e 1 v n xs) (hp : p < base) (u : Value) : (w.setCell ⟨p, k, none⟩ u).ownsRow base e 1 v n xs := ownsRow_setCell_below h hp u

set_option maxRecDepth 100000 in
set_option maxHeartbeats 3200000 in
theorem toFtl_any (a b e0 : Option Addr) (ps : List ByteArray) (ws ms : List Int) (c d f : Nat) (q : Int) (w : World) (hp : Rd w a (vsString ps)) (hw : Rd w b (vsInt ws)) (hms : Rd w e0 (vsInt ms)) (hl : ps.length ≤ 1048576) (hm : ws.length ≤ 1048576) (hn : ms.length ≤ 1048576) :
    Calls Try.prog 17 #[.agg #[.slice a ps.length c, .slice b ws.length d, .slice e0 ms.length f, .int .i64 q]] w fun e w' => ∃ v, e = .returned v ∧ FtlOwn w' w.heap.size v ps ws ms q ∧ Below w.heap.size w w' := by
  obtain ⟨A, hA⟩ : ∃ A, A = w.alloc (Obj.cells #[.slice a ps.length c, .slice b ws.length d, .slice e0 ms.length f, .int .i64 q] 38) := ⟨_, rfl⟩
  obtain ⟨A2, hA2⟩ : ∃ A2, A2 = A.alloc (Obj.cells #[.slice none 0 0, .slice none 0 0, .slice none 0 0, .int .i64 0] 43) := ⟨_, rfl⟩
  obtain ⟨W, hW⟩ : ∃ W, W = A2.alloc (Obj.cells #[.slice none 0 0, .slice none 0 0, .slice none 0 0, .int .i64 0] 43) := ⟨_, rfl⟩
  have hsA : A.heap.size = w.heap.size + 1 := by rw [hA]; simp
  have hsA2 : A2.heap.size = w.heap.size + 1 + 1 := by rw [hA2]; simp [hsA]
  have hb0 : Below w.heap.size w A := by rw [hA]; exact (Below.refl _ _).alloc (Nat.le_refl _) _
  have hb1 : Below A.heap.size A A2 := by rw [hA2]; exact (Below.refl _ _).alloc (Nat.le_refl _) _
  have hb2 : Below A2.heap.size A2 W := by rw [hW]; exact (Below.refl _ _).alloc (Nat.le_refl _) _
  have k0 : C4 W w.heap.size (.slice a ps.length c) (.slice b ws.length d) (.slice e0 ms.length f) (.int .i64 q) := by
    have : C4 A w.heap.size (.slice a ps.length c) (.slice b ws.length d) (.slice e0 ms.length f) (.int .i64 q) := by rw [hA]; exact c4_new _ _ _ _ _ _
    exact (this.below hb1).below hb2
  have k1 : C4 W (w.heap.size + 1) (.slice none 0 0) (.slice none 0 0) (.slice none 0 0) (.int .i64 0) := by
    have : C4 A2 A.heap.size (.slice none 0 0) (.slice none 0 0) (.slice none 0 0) (.int .i64 0) := by rw [hA2]; exact c4_new _ _ _ _ _ _
    rw [hsA] at this
    exact this.below hb2
  have k2 : C4 W (w.heap.size + 1 + 1) (.slice none 0 0) (.slice none 0 0) (.slice none 0 0) (.int .i64 0) := by
    have : C4 W A2.heap.size (.slice none 0 0) (.slice none 0 0) (.slice none 0 0) (.int .i64 0) := by rw [hW]; exact c4_new _ _ _ _ _ _
    rw [hsA2] at this
    exact this
  have hbW : Below w.heap.size w W := after (after hb0 hb1) hb2
  have hsW : w.heap.size + 1 + 1 < W.heap.size := k2.lt
  have hp1 := hp.below hbW
  have hw1 := hw.below hbW
  have hms1 := hms.below hbW
  have HMS := hide hms
  clear hp hw hms hb0 hb1 hb2 hsA hsA2 hms1
  obtain ⟨⟨c00, c01, c02, c03⟩, -⟩ := id k0
  go_enter Try.func17, Try.ntmps17
  go_wp2_with fail
  rw [← hA]
  rw [← hA2]
  rw [← hW]
  clear hA hA2 hW
  refine (toChip_any a b ps ws c d W hp1 hw1 hl hm).mono ?_
  rintro e w1 ⟨v, rfl, hown, hb1⟩
  obtain ⟨a1, c1, b1, d1, rfl, ho1, ho2, hne⟩ := own_open hown
  have hWw1 := hb1.size
  have K0 := k0.below hb1
  have K1 := k1.below hb1
  have K2 := k2.below hb1
  have hbw1 := after hbW hb1
  obtain ⟨U, hU⟩ : ∃ U, U = (w1.setCell ⟨w.heap.size + 1 + 1, 0, none⟩ (.slice a1 ps.length c1)).setCell ⟨w.heap.size + 1 + 1, 1, none⟩ (.slice b1 ws.length d1) := ⟨_, rfl⟩
  have hsU : U.heap.size = w1.heap.size := by rw [hU]; simp [World.setCell]
  have L0 : C4 U w.heap.size (.slice a ps.length c) (.slice b ws.length d) (.slice e0 ms.length f) (.int .i64 q) := by rw [hU]; exact (K0.other (by omega) _).other (by omega) _
  have L1 : C4 U (w.heap.size + 1) (.slice none 0 0) (.slice none 0 0) (.slice none 0 0) (.int .i64 0) := by rw [hU]; exact (K1.other (by omega) _).other (by omega) _
  have L2 : C4 U (w.heap.size + 1 + 1) (.slice a1 ps.length c1) (.slice b1 ws.length d1) (.slice none 0 0) (.int .i64 0) := by rw [hU]; exact (K2.set0 _).set1 _
  have hbU : Below w.heap.size w U := by rw [hU]; exact (hbw1.setCell (by show _ ≤ _; simp; omega) _).setCell (by show _ ≤ _; simp; omega) _
  have hbmU : Below w.heap.size w1 U := by rw [hU]; exact ((Below.refl _ _).setCell (by show _ ≤ _; simp; omega) _).setCell (by show _ ≤ _; simp; omega) _
  have P1 : U.ownsRow W.heap.size 9 1 (.slice a1 ps.length c1) ps.length (vsString ps) := by rw [hU]; exact ftlRows_set (ftlRows_set ho1 hsW _) hsW _
  have P2 : U.ownsRow W.heap.size 3 1 (.slice b1 ws.length d1) ws.length (vsInt ws) := by rw [hU]; exact ftlRows_set (ftlRows_set ho2 hsW _) hsW _
  obtain ⟨⟨u0, u1, -⟩, uf⟩ := id K2
  have uf0 := uf 0
  have uf1 := uf 1
  obtain ⟨⟨-, -, v2, -⟩, -⟩ := id K0
  clear hown ho1 ho2 k0 k1 k2 c00 c01 c02 c03 hb1 hp1 hw1 hbW uf
  have HU := hide hsU
  clear hsU
  go_wp2_with fail
  rw [← hU]
  clear hU u0 u1 uf0 uf1 v2 K0 K1 K2 hbmU hbw1
  refine (toIntS_any e0 ms f U (HMS.out.below hbU) (by omega)).mono ?_
  rintro e w2 ⟨rfl, ho3, hb2⟩
  obtain ⟨g, hg⟩ : ∃ g, g = U.heap.size := ⟨_, rfl⟩
  rw [← hg] at ho3 ⊢
  have N0 := L0.below hb2
  have N1 := L1.below hb2
  have N2 := L2.below hb2
  have Q1 := owns_below P1 hb2
  have Q2 := owns_below P2 hb2
  have hbw2 := after hbU hb2
  have hgW : W.heap.size ≤ g := by have := HU.out; omega
  have r1 : ∀ k, (Value.slice a1 ps.length c1).ownBlock = some k → k < g := fun k hk => by have := (P1.lt k hk).2; omega
  have r2 : ∀ k, (Value.slice b1 ws.length d1).ownBlock = some k → k < g := fun k hk => by have := (P2.lt k hk).2; omega
  have HR := hide (And.intro r1 (And.intro r2 hne))
  clear r1 r2 hne
  obtain ⟨⟨-, -, -, n03⟩, -⟩ := id N0
  obtain ⟨⟨n10, n11, n12, n13⟩, nf1⟩ := id N1
  obtain ⟨⟨n20, n21, n22, n23⟩, nf2⟩ := id N2
  have f10 := nf1 0
  have f11 := nf1 1
  have f12 := nf1 2
  have f13 := nf1 3
  have f22 := nf2 2
  have f23 := nf2 3
  clear L0 L1 L2 P1 P2 hb2 hbU N0 N1 N2 nf1 nf2 hg
  have HQ := hide (And.intro Q1 (And.intro Q2 ho3))
  clear Q1 Q2 ho3
  go_wp2
  have hW1 : w.heap.size + 1 < W.heap.size := by omega
  have hg1 : w.heap.size + 1 < g := by omega
  have hg2 : w.heap.size + 1 + 1 < g := by omega
  refine bodyPost_ret (v := .agg #[.slice a1 ps.length c1, .slice b1 ws.length d1, .slice (some ⟨g, 0, none⟩) ms.length ms.length, .int .i64 q]) (by simp [results, Try.results17, go_sem, n10, n11, n12, n13]) rfl ⟨_, rfl, ⟨_, _, _, rfl, ?_, ?_, ?_, HR.out.2.2, ?_, ?_⟩, (((((hbw2.setCell (by show _ ≤ _; simp; omega) _).setCell (by show _ ≤ _; simp; omega) _).setCell (by show _ ≤ _; simp) _).setCell (by show _ ≤ _; simp) _).setCell (by show _ ≤ _; simp) _).setCell (by show _ ≤ _; simp) _⟩
  · exact owns_mono (ftlRows_set (ftlRows_set (ftlRows_set (ftlRows_set (ftlRows_set (ftlRows_set HQ.out.1 hsW _) hsW _) hW1 _) hW1 _) hW1 _) hW1 _) (by omega)
  · exact owns_mono (ftlRows_set (ftlRows_set (ftlRows_set (ftlRows_set (ftlRows_set (ftlRows_set HQ.out.2.1 hsW _) hsW _) hW1 _) hW1 _) hW1 _) hW1 _) (by omega)
  · exact owns_mono (ftlRows_set (ftlRows_set (ftlRows_set (ftlRows_set (ftlRows_set (ftlRows_set HQ.out.2.2 hg2 _) hg2 _) hg1 _) hg1 _) hg1 _) hg1 _) (by omega)
  · intro k hk; have := HR.out.1 k hk; simp [Value.ownBlock]; omega
  · intro k hk; have := HR.out.2.1 k hk; simp [Value.ownBlock]; omega

set_option maxHeartbeats 1600000 in
theorem szFtl_any (a b e0 : Option Addr) (ps : List ByteArray) (n m c d f : Nat) (q : Int) (l : Nat) (w : World) (hp : Rd w a (vsString ps)) (hn : ps.length ≤ maxLen) (hs : ∀ s ∈ ps, s.size ≤ maxLen) (hm : n ≤ maxLen) (hk : m ≤ maxLen) (hl : l ≤ 1048576) :
    Calls Try.prog 15 #[.agg #[.slice a ps.length c, .slice b n d, .slice e0 m f, .int .i64 q], .int .i64 l] w fun e w' => (∃ r : Int, e = .returned (.int .i64 r) ∧ -1 ≤ r ∧ r ≤ l ∧ (0 ≤ r → ps.length ≤ l ∧ (∀ s ∈ ps, s.size ≤ l) ∧ n ≤ l ∧ m ≤ l)) ∧ Below w.heap.size w w' := by
  obtain ⟨W, hW⟩ : ∃ W, W = w.alloc (Obj.cells #[.slice a ps.length c, .slice b n d, .slice e0 m f, .int .i64 q] 38) := ⟨_, rfl⟩
  have hbW : Below w.heap.size w W := by subst hW; exact (Below.refl _ _).alloc (Nat.le_refl _) _
  have x2 : W.cell? ⟨w.heap.size, 2, none⟩ = some (.slice e0 m f) := by subst hW; simp
  have hsz : w.heap.size < W.heap.size := by subst hW; simp
  go_enter Try.func15, Try.ntmps15
  go_wp2_with fail
  rw [← hW]
  clear hW
  refine (szChip_any a b ps n c d l W (hp.below hbW) hn hs hm hl).mono ?_
  rintro e w1 ⟨⟨r, rfl, hr0, hr1, hr2⟩, hb1⟩
  have hbw1 := after hbW hb1
  have y2 := (hb1.cell (p := ⟨w.heap.size, 2, none⟩) hsz).trans x2
  clear hb1 hbW x2 hp hs
  by_cases hneg : r < 0
  · clear hr2
    go_wp2
    go_ret
    exact ⟨⟨-1, rfl, by omega, by omega, fun h => by omega⟩, hbw1⟩
  · obtain ⟨R, rfl⟩ : ∃ R : Nat, r = R := ⟨r.toNat, by omega⟩
    have HR := hide (hr2 (by omega))
    clear hr2
    go_wp2_with fail
    refine (szIntS_any e0 m f R w1 hk (by omega)).mono ?_
    rintro e u ⟨⟨r2, rfl, hs0, hs1, hs2⟩, hu⟩
    have hu' := hu.symm
    subst hu'
    have HS := hide hs2
    clear hs2
    by_cases hneg2 : r2 < 0
    · go_wp2
      go_ret
      exact ⟨⟨-1, rfl, by omega, by omega, fun h => by omega⟩, hbw1⟩
    · go_wp2
      go_ret
      exact ⟨⟨r2, rfl, by omega, by omega, fun h => ⟨HR.out.1, HR.out.2.1, HR.out.2.2, by have := HS.out h; omega⟩⟩, hbw1⟩

set_option maxHeartbeats 1600000 in
theorem eqFtl_same (a b e0 a' b' e1 : Option Addr) (ps : List ByteArray) (ws ms : List Int) (c d f c' d' f' : Nat) (q : Int) (w : World) (hp : Rd w a (vsString ps)) (hw : Rd w b (vsInt ws)) (hms : Rd w e0 (vsInt ms)) (hp' : Rd w a' (vsString ps)) (hw' : Rd w b' (vsInt ws)) (hms' : Rd w e1 (vsInt ms)) (hl : ps.length ≤ 1048576) (hm : ws.length ≤ 1048576) (hn : ms.length ≤ 1048576) :
    Calls Try.prog 20 #[.agg #[.slice a ps.length c, .slice b ws.length d, .slice e0 ms.length f, .int .i64 q], .agg #[.slice a' ps.length c', .slice b' ws.length d', .slice e1 ms.length f', .int .i64 q]] w fun e w' => e = .returned (.bool true) ∧ Below w.heap.size w w' := by
  obtain ⟨A, hA⟩ : ∃ A, A = w.alloc (Obj.cells #[.slice a ps.length c, .slice b ws.length d, .slice e0 ms.length f, .int .i64 q] 43) := ⟨_, rfl⟩
  obtain ⟨W, hW⟩ : ∃ W, W = A.alloc (Obj.cells #[.slice a' ps.length c', .slice b' ws.length d', .slice e1 ms.length f', .int .i64 q] 43) := ⟨_, rfl⟩
  have hsA : A.heap.size = w.heap.size + 1 := by rw [hA]; simp
  have hb0 : Below w.heap.size w A := by rw [hA]; exact (Below.refl _ _).alloc (Nat.le_refl _) _
  have hb1 : Below A.heap.size A W := by rw [hW]; exact (Below.refl _ _).alloc (Nat.le_refl _) _
  have hbW := after hb0 hb1
  have k0 : C4 W w.heap.size (.slice a ps.length c) (.slice b ws.length d) (.slice e0 ms.length f) (.int .i64 q) := by
    have : C4 A w.heap.size (.slice a ps.length c) (.slice b ws.length d) (.slice e0 ms.length f) (.int .i64 q) := by rw [hA]; exact c4_new _ _ _ _ _ _
    exact this.below hb1
  have k1 : C4 W (w.heap.size + 1) (.slice a' ps.length c') (.slice b' ws.length d') (.slice e1 ms.length f') (.int .i64 q) := by
    have : C4 W A.heap.size (.slice a' ps.length c') (.slice b' ws.length d') (.slice e1 ms.length f') (.int .i64 q) := by rw [hW]; exact c4_new _ _ _ _ _ _
    rw [hsA] at this
    exact this
  have HR := hide (And.intro (hp.below hbW) (And.intro (hw.below hbW) (And.intro (hms.below hbW) (And.intro (hp'.below hbW) (And.intro (hw'.below hbW) (hms'.below hbW))))))
  clear hp hw hms hp' hw' hms' hsA hb0 hb1
  go_enter Try.func20, Try.ntmps20
  go_wp2_with fail
  rw [← hA]
  rw [← hW]
  clear hA hW
  refine (eqChip_same a b a' b' ps ws c d c' d' W HR.out.1 HR.out.2.1 HR.out.2.2.2.1 HR.out.2.2.2.2.1 hl hm).mono ?_
  rintro e w1 ⟨rfl, hb1⟩
  obtain ⟨⟨-, -, x2, x3⟩, -⟩ := id (k0.below hb1)
  obtain ⟨⟨-, -, y2, y3⟩, -⟩ := id (k1.below hb1)
  have hbw1 := after hbW hb1
  have HM := hide (And.intro (HR.out.2.2.1.below hb1) (HR.out.2.2.2.2.2.below hb1))
  clear k0 k1 hb1 hbW HR
  go_wp2_with fail
  refine (eqIntS_any e0 e1 ms ms f f' w1 HM.out.1 HM.out.2 (by omega) (by omega)).mono ?_
  rw [show decide (ms = ms) = true by simp]
  rintro e u ⟨rfl, n, hu⟩
  have z3 : u.cell? ⟨w.heap.size, 3, none⟩ = some (.int .i64 q) := by rw [hu]; exact x3
  have z4 : u.cell? ⟨w.heap.size + 1, 3, none⟩ = some (.int .i64 q) := by rw [hu]; exact y3
  have hbu : Below w.heap.size w u := by rw [hu]; exact after_drew hbw1 n
  clear hu x2 x3 y2 y3 hbw1 HM
  go_wp2
  go_ret
  exact ⟨rfl, hbu⟩

/-- Two values that lie in no one block. -/
abbrev Apart (v u : Value) : Prop := ∀ k, v.ownBlock = some k → u.ownBlock ≠ some k

set_option maxHeartbeats 1600000 in
theorem markFtl_any (a b e0 : Option Addr) (n m l c d f base q : Nat) (z : Int) (xs ys zs : List Value) (w : World) (h1 : w.ownsRow base 9 1 (.slice a n c) n xs) (h2 : w.ownsRow base 3 1 (.slice b m d) m ys) (h3 : w.ownsRow base 3 1 (.slice e0 l f) l zs)
    (a12 : Apart (.slice a n c) (.slice b m d)) (a13 : Apart (.slice a n c) (.slice e0 l f)) (a23 : Apart (.slice b m d) (.slice e0 l f)) (hn : n ≤ 1048576) (hm : m ≤ 1048576) (hl : l ≤ 1048576) (hq0 : 0 < q) (hq : q ≤ 1000000) :
    Calls Try.prog 21 #[.agg #[.slice a n c, .slice b m d, .slice e0 l f, .int .i64 z], .int .i64 q] w fun e w' => e = .returned (.int .i64 ((q + n + m + l : Nat) : Int)) ∧ w'.ownsRow base 9 1 (.slice a n c) n (marksT q n) ∧ w'.ownsRow base 3 1 (.slice b m d) m (marksI (q + n) m) ∧ w'.ownsRow base 3 1 (.slice e0 l f) l (marksI (q + n + m) l) ∧
      OnlyIn w w' [(Value.slice a n c).ownBlock, (Value.slice b m d).ownBlock, (Value.slice e0 l f).ownBlock] := by
  obtain ⟨W, hW⟩ : ∃ W, W = w.alloc (Obj.cells #[.slice a n c, .slice b m d, .slice e0 l f, .int .i64 z] 43) := ⟨_, rfl⟩
  have hbW : Below w.heap.size w W := by rw [hW]; exact (Below.refl _ _).alloc (Nat.le_refl _) _
  have k0 : C4 W w.heap.size (.slice a n c) (.slice b m d) (.slice e0 l f) (.int .i64 z) := by rw [hW]; exact c4_new _ _ _ _ _ _
  have na : ∀ k, (Value.slice a n c).ownBlock = some k → k < w.heap.size := fun k hk => (h1.lt k hk).2
  have nb : ∀ k, (Value.slice b m d).ownBlock = some k → k < w.heap.size := fun k hk => (h2.lt k hk).2
  have HH := hide (And.intro (owns_below h1 hbW) (And.intro (owns_below h2 hbW) (owns_below h3 hbW)))
  have HAP := hide (And.intro a12 (And.intro a13 a23))
  have HN := hide (And.intro na nb)
  have HBW := hide hbW
  clear h1 h2 h3 a12 a13 a23 na nb hbW
  obtain ⟨⟨x0, x1, x2, -⟩, -⟩ := id k0
  go_enter Try.func21, Try.ntmps21
  go_wp2_with fail
  rw [← hW]
  clear hW
  refine (markChip_any a b n m c d base q xs ys W HH.out.1 HH.out.2.1 HAP.out.1 hn hm hq0 hq).mono ?_
  rintro e w1 ⟨rfl, o1, o2, on1⟩
  have y2 : w1.cell? ⟨w.heap.size, 2, none⟩ = some (.slice e0 l f) := by
    have hb := on1.block w.heap.size k0.lt (by
      intro hk
      simp only [List.mem_cons, List.not_mem_nil, or_false] at hk
      rcases hk with hk | hk
      · have := HN.out.1 _ hk.symm; omega
      · have := HN.out.2 _ hk.symm; omega)
    simp only [World.cell?] at x2 ⊢
    rw [hb]; exact x2
  have o3 : w1.ownsRow base 3 1 (.slice e0 l f) l zs := on1.owns HH.out.2.2 (fun k hk hc => by
    simp only [List.mem_cons, List.not_mem_nil, or_false] at hc
    rcases hc with hc | hc
    · exact HAP.out.2.1 k hc.symm hk
    · exact HAP.out.2.2 k hc.symm hk)
  have HO := hide (And.intro o1 (And.intro o2 on1))
  clear k0 x0 x1 x2 o1 o2 on1
  go_wp2_with fail
  refine (markIntS_any (.slice e0 l f) l zs base (q + n + m) w1 o3 hl (by omega)).mono ?_
  rintro e w2 ⟨rfl, o3', hg2⟩
  have p1 : w2.ownsRow base 9 1 (.slice a n c) n (marksT q n) := HO.out.1.kept hg2 (by
    cases hv : (Value.slice a n c).ownBlock with
    | none => exact .inl rfl
    | some k => right; intro e; exact HAP.out.2.1 k hv e.symm)
  have p2 : w2.ownsRow base 3 1 (.slice b m d) m (marksI (q + n) m) := HO.out.2.1.kept hg2 (by
    cases hv : (Value.slice b m d).ownBlock with
    | none => exact .inl rfl
    | some k => right; intro e; exact HAP.out.2.2 k hv e.symm)
  have on2 : OnlyIn w w2 [(Value.slice a n c).ownBlock, (Value.slice b m d).ownBlock, (Value.slice e0 l f).ownBlock] := by
    have := ((OnlyIn.of_below HBW.out []).trans HO.out.2.2).trans (OnlyIn.of_grown hg2)
    simpa using this
  clear hg2 o3 y2 HO
  go_wp2
  go_ret
  exact ⟨rfl, p1, p2, o3', on2⟩

end Go.Proofs.Ytdicjbabnknjhaa
