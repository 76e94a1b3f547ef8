/-
  Nodes: read, owned, marked; contracts of the laws' helpers over them: toNode, szNode, eqNode, markNode, heldNode; a node that came in.
-/
import Derived.Test.YtmolhhljodlhaaaLawKit
import Derived.Test.YtmolhhljodlhaaaRowsLib
namespace Go.Proofs.Ytmolhhljodlhaaa
open Go.RowKit Go.ChangeShapes Go.WideShapes Go.ChangeAt Go.Joins Go.Deep
set_option maxRecDepth 100000
set_option linter.unusedVariables false

/-- A node's value. -/
def nodeV (dir : Bool) (a : Option Addr) (n c : Nat) (b : Option Addr) (m d : Nat) (dat : ByteArray) : Value := .agg #[.bool dir, .slice a n c, .slice b m d, .string dat]
def NodeRd (w : World) (v : Value) (dir : Bool) (ns : List ByteArray) (ks : List Int) (dat : ByteArray) : Prop :=
  ∃ a c b d, v = .agg #[.bool dir, .slice a ns.length c, .slice b ks.length d, .string dat] ∧ Rd w a (vsString ns) ∧ Rd w b (vsInt ks)
def NodeOwn (w : World) (base : Nat) (v : Value) (dir : Bool) (ns : List ByteArray) (ks : List Int) (dat : ByteArray) : Prop :=
  ∃ v1 v2, v = .agg #[.bool dir, v1, v2, .string dat] ∧ w.ownsRow base 9 1 v1 ns.length (vsString ns) ∧ w.ownsRow base 3 1 v2 ks.length (vsInt ks) ∧ (∀ k, v1.ownBlock = some k → v2.ownBlock ≠ some k)
def NodeMk (w : World) (base : Nat) (v : Value) (n m q : Nat) : Prop :=
  ∃ dir a c b d dat, v = .agg #[.bool dir, .slice a n c, .slice b m d, .string dat] ∧ w.ownsRow base 9 1 (.slice a n c) n (marksT q n) ∧ w.ownsRow base 3 1 (.slice b m d) m (marksI (q + n) m)
theorem node_open {w : World} {base : Nat} {v : Value} {dir : Bool} {ns : List ByteArray} {ks : List Int} {dat : ByteArray} (h : NodeOwn w base v dir ns ks dat) :
    ∃ a c b d, v = .agg #[.bool dir, .slice a ns.length c, .slice b ks.length d, .string dat] ∧ w.ownsRow base 9 1 (.slice a ns.length c) ns.length (vsString ns) ∧ w.ownsRow base 3 1 (.slice b ks.length d) ks.length (vsInt ks) ∧
      (∀ k, (Value.slice a ns.length c).ownBlock = some k → (Value.slice b ks.length d).ownBlock ≠ some k) := by
  obtain ⟨v1, v2, rfl, h1, h2, h3⟩ := h
  obtain ⟨a, c, rfl⟩ := owns_shape h1
  obtain ⟨b, d, rfl⟩ := owns_shape h2
  exact ⟨a, c, b, d, rfl, h1, h2, h3⟩
theorem NodeOwn.shape {u : World} {base : Nat} {v : Value} {dir : Bool} {ns : List ByteArray} {ks : List Int} {dat : ByteArray} (h : NodeOwn u base v dir ns ks dat) : ∃ a c b d, v = .agg #[.bool dir, .slice a ns.length c, .slice b ks.length d, .string dat] := by
  obtain ⟨a, c, b, d, rfl, -⟩ := node_open h
  exact ⟨a, c, b, d, rfl⟩
theorem NodeOwn.rd {u : World} {base : Nat} {v : Value} {dir : Bool} {ns : List ByteArray} {ks : List Int} {dat : ByteArray} (h : NodeOwn u base v dir ns ks dat) : NodeRd u v dir ns ks dat := by
  obtain ⟨a, c, b, d, rfl, h1, h2, -⟩ := node_open h
  exact ⟨a, c, b, d, rfl, rd_of_own h1, rd_of_own h2⟩
theorem NodeRd.below {u u' : World} {v : Value} {dir : Bool} {ns : List ByteArray} {ks : List Int} {dat : ByteArray} (h : NodeRd u v dir ns ks dat) (hb : Below u.heap.size u u') : NodeRd u' v dir ns ks dat := by
  obtain ⟨a, c, b, d, rfl, h1, h2⟩ := h
  exact ⟨a, c, b, d, rfl, h1.below hb, h2.below hb⟩
theorem NodeOwn.below {u u' : World} {base : Nat} {v : Value} {dir : Bool} {ns : List ByteArray} {ks : List Int} {dat : ByteArray} (h : NodeOwn u base v dir ns ks dat) (hb : Below u.heap.size u u') : NodeOwn u' base v dir ns ks dat := by
  obtain ⟨v1, v2, rfl, h1, h2, h3⟩ := h
  exact ⟨v1, v2, rfl, owns_below h1 hb, owns_below h2 hb, h3⟩
theorem NodeOwn.only {u u' : World} {base : Nat} {v : Value} {dir : Bool} {ns : List ByteArray} {ks : List Int} {dat : ByteArray} {L : List (Option Nat)} (h : NodeOwn u base v dir ns ks dat) (hO : OnlyIn u u' L) (hn : ∀ k, some k ∈ bk v → some k ∉ L) : NodeOwn u' base v dir ns ks dat := by
  obtain ⟨v1, v2, rfl, h1, h2, h3⟩ := h
  exact ⟨v1, v2, rfl, hO.owns h1 (fun k hk => hn k (by simp [bk, hk])), hO.owns h2 (fun k hk => hn k (by simp [bk, hk])), h3⟩
theorem NodeOwn.blk {u : World} {base : Nat} {v : Value} {dir : Bool} {ns : List ByteArray} {ks : List Int} {dat : ByteArray} (h : NodeOwn u base v dir ns ks dat) {k : Nat} (hk : some k ∈ bk v) : base ≤ k ∧ k < u.heap.size := by
  obtain ⟨v1, v2, rfl, h1, h2, h3⟩ := h
  simp only [bk, List.map_cons, List.map_nil, List.mem_cons, List.not_mem_nil, or_false] at hk
  rcases hk with hk | hk | hk | hk
  · cases hk
  · exact h1.lt k hk.symm
  · exact h2.lt k hk.symm
  · cases hk
theorem NodeOwn.mono {u : World} {base base' : Nat} {v : Value} {dir : Bool} {ns : List ByteArray} {ks : List Int} {dat : ByteArray} (h : NodeOwn u base' v dir ns ks dat) (hb : base ≤ base') : NodeOwn u base v dir ns ks dat := by
  obtain ⟨v1, v2, rfl, h1, h2, h3⟩ := h
  exact ⟨v1, v2, rfl, owns_mono h1 hb, owns_mono h2 hb, h3⟩
theorem NodeMk.below {u u' : World} {base : Nat} {v : Value} {n m q : Nat} (h : NodeMk u base v n m q) (hb : Below u.heap.size u u') : NodeMk u' base v n m q := by
  obtain ⟨dir, a, c, b, d, dat, rfl, h1, h2⟩ := h
  exact ⟨dir, a, c, b, d, dat, rfl, owns_below h1 hb, owns_below h2 hb⟩

set_option maxHeartbeats 1600000 in
theorem toNode_any (dir : Bool) (a b : Option Addr) (ns : List ByteArray) (ks : List Int) (dat : ByteArray) (c d : Nat) (w : World) (hp : Rd w a (vsString ns)) (hw : Rd w b (vsInt ks)) (hl : ns.length ≤ 1048576) (hm : ks.length ≤ 1048576) :
    Calls Try.prog 13 #[.agg #[.bool dir, .slice a ns.length c, .slice b ks.length d, .string dat]] w fun e w' => ∃ v, e = .returned v ∧ NodeOwn w' w.heap.size v dir ns ks dat ∧ Below w.heap.size w w' := by
  obtain ⟨A, hA⟩ : ∃ A, A = w.alloc (Obj.cells #[.bool dir, .slice a ns.length c, .slice b ks.length d, .string dat] 26) := ⟨_, rfl⟩
  obtain ⟨A2, hA2⟩ : ∃ A2, A2 = A.alloc (Obj.cells #[.bool false, .slice none 0 0, .slice none 0 0, .string ⟨#[]⟩] 29) := ⟨_, rfl⟩
  obtain ⟨W, hW⟩ : ∃ W, W = A2.alloc (Obj.cells #[.bool dir, .slice none 0 0, .slice none 0 0, .string ⟨#[]⟩] 29) := ⟨_, rfl⟩
  have hsA : A.heap.size = w.heap.size + 1 := by rw [hA]; simp
  have hsA2 : A2.heap.size = w.heap.size + 1 + 1 := by rw [hA2]; simp [hsA]
  have hb0 : Below w.heap.size w A := by rw [hA]; exact (Below.refl _ _).alloc (Nat.le_refl _) _
  have hb1 : Below A.heap.size A A2 := by rw [hA2]; exact (Below.refl _ _).alloc (Nat.le_refl _) _
  have hb2 : Below A2.heap.size A2 W := by rw [hW]; exact (Below.refl _ _).alloc (Nat.le_refl _) _
  have k0 : C4 W w.heap.size (.bool dir) (.slice a ns.length c) (.slice b ks.length d) (.string dat) := by
    have : C4 A w.heap.size (.bool dir) (.slice a ns.length c) (.slice b ks.length d) (.string dat) := by rw [hA]; exact c4_new _ _ _ _ _ _
    exact (this.below hb1).below hb2
  have k1 : C4 W (w.heap.size + 1) (.bool false) (.slice none 0 0) (.slice none 0 0) (.string ⟨#[]⟩) := by
    have : C4 A2 A.heap.size (.bool false) (.slice none 0 0) (.slice none 0 0) (.string ⟨#[]⟩) := by rw [hA2]; exact c4_new _ _ _ _ _ _
    rw [hsA] at this
    exact this.below hb2
  have k2 : C4 W (w.heap.size + 1 + 1) (.bool dir) (.slice none 0 0) (.slice none 0 0) (.string ⟨#[]⟩) := by
    have : C4 W A2.heap.size (.bool dir) (.slice none 0 0) (.slice none 0 0) (.string ⟨#[]⟩) := by rw [hW]; exact c4_new _ _ _ _ _ _
    rw [hsA2] at this
    exact this
  have hbW : Below w.heap.size w W := after (after hb0 hb1) hb2
  have hsW : w.heap.size + 1 + 1 < W.heap.size := k2.lt
  have hp1 := hp.below hbW
  have HW := hide hw
  clear hp hw hb0 hb1 hb2 hsA hsA2
  obtain ⟨⟨c00, c01, c02, c03⟩, -⟩ := id k0
  go_enter Try.func13, Try.ntmps13
  go_wp2_with fail
  rw [← hA]
  rw [← hA2]
  rw [← hW]
  clear hA hA2 hW
  refine (toStringS_any a ns c W hp1 (by omega)).mono ?_
  rintro e w1 ⟨rfl, ho1, hb1⟩
  obtain ⟨g1, hg1⟩ : ∃ g1, g1 = W.heap.size := ⟨_, rfl⟩
  rw [← hg1] at ho1 ⊢
  have hg1' : w.heap.size + 1 + 1 < g1 := by omega
  have K0 := k0.below hb1
  have K1 := k1.below hb1
  have K2 := k2.below hb1
  have hbw1 := after hbW hb1
  clear k0 k1 k2 hb1 hbW hp1 c00 c01 c02 c03 hg1
  obtain ⟨U, hU⟩ : ∃ U, U = w1.setCell ⟨w.heap.size + 1 + 1, 1, none⟩ (.slice (some ⟨g1, 0, none⟩) ns.length ns.length) := ⟨_, rfl⟩
  have L0 : C4 U w.heap.size (.bool dir) (.slice a ns.length c) (.slice b ks.length d) (.string dat) := by rw [hU]; exact K0.other (by omega) _
  have L1 : C4 U (w.heap.size + 1) (.bool false) (.slice none 0 0) (.slice none 0 0) (.string ⟨#[]⟩) := by rw [hU]; exact K1.other (by omega) _
  have L2 : C4 U (w.heap.size + 1 + 1) (.bool dir) (.slice (some ⟨g1, 0, none⟩) ns.length ns.length) (.slice none 0 0) (.string ⟨#[]⟩) := by rw [hU]; exact K2.set1 _
  have hbU : Below w.heap.size w U := by rw [hU]; exact hbw1.setCell (by show _ ≤ _; simp; omega) _
  have hoU : U.ownsRow g1 9 1 (.slice (some ⟨g1, 0, none⟩) ns.length ns.length) ns.length (vsString ns) := by rw [hU]; exact ftlRows_set ho1 hg1' _
  obtain ⟨⟨u0, u1, -⟩, uf⟩ := id K2
  have uf1 := uf 1
  obtain ⟨⟨-, -, v2, -⟩, -⟩ := id K0
  clear ho1 uf hsW
  go_wp2_with fail
  rw [← hU]
  clear hU u0 u1 uf1 v2 K0 K1 K2 hbw1
  have hgU : g1 < U.heap.size := (owns_lt hoU).2
  refine (toIntS_any b ks d U (HW.out.below hbU) (by omega)).mono ?_
  rintro e w2 ⟨rfl, ho2, hb2⟩
  have hoP := owns_below hoU hb2
  obtain ⟨g2, hg2⟩ : ∃ g2, g2 = U.heap.size := ⟨_, rfl⟩
  rw [← hg2] at ho2 ⊢
  have hg2' : g1 < g2 := by omega
  have N0 := L0.below hb2
  have N1 := L1.below hb2
  have N2 := L2.below hb2
  have hbw2 := after hbU hb2
  obtain ⟨⟨-, -, -, n03⟩, -⟩ := id N0
  obtain ⟨⟨n10, n11, n12, n13⟩, nf1⟩ := id N1
  obtain ⟨⟨n20, n21, n22, n23⟩, nf2⟩ := id N2
  have f10 := nf1 0
  have f11 := nf1 1
  have f12 := nf1 2
  have f13 := nf1 3
  have f22 := nf2 2
  have f23 := nf2 3
  have HQ := hide (And.intro hoP ho2)
  have hgg : w.heap.size + 1 < g1 := by omega
  have hg3 : w.heap.size + 1 < g2 := by omega
  have hg4 : w.heap.size + 1 + 1 < g2 := by omega
  clear L0 L1 L2 hb2 hbU N0 N1 N2 nf1 nf2 hg2 hgU hoU hoP ho2
  go_wp2
  refine bodyPost_ret (v := .agg #[.bool dir, .slice (some ⟨g1, 0, none⟩) ns.length ns.length, .slice (some ⟨g2, 0, none⟩) ks.length ks.length, .string dat]) (by simp [results, Try.results13, go_sem, n10, n11, n12, n13]) rfl ⟨_, rfl, ⟨_, _, rfl, ?_, ?_, ?_⟩, (((((hbw2.setCell (by show _ ≤ _; simp; omega) _).setCell (by show _ ≤ _; simp; omega) _).setCell (by show _ ≤ _; simp) _).setCell (by show _ ≤ _; simp) _).setCell (by show _ ≤ _; simp) _).setCell (by show _ ≤ _; simp) _⟩
  · exact owns_mono (ftlRows_set (ftlRows_set (ftlRows_set (ftlRows_set (ftlRows_set (ftlRows_set HQ.out.1 hg1' _) hg1' _) hgg _) hgg _) hgg _) hgg _) (by omega)
  · exact owns_mono (ftlRows_set (ftlRows_set (ftlRows_set (ftlRows_set (ftlRows_set (ftlRows_set HQ.out.2 hg4 _) hg4 _) hg3 _) hg3 _) hg3 _) hg3 _) (by omega)
  · intro k hk
    simp [Value.ownBlock] at hk ⊢
    omega

set_option maxHeartbeats 1600000 in
theorem eqNode_same (dir : Bool) (a b a' b' : Option Addr) (ns : List ByteArray) (ks : List Int) (dat : ByteArray) (c d c' d' : Nat) (w : World) (hp : Rd w a (vsString ns)) (hw : Rd w b (vsInt ks)) (hp' : Rd w a' (vsString ns)) (hw' : Rd w b' (vsInt ks)) (hl : ns.length ≤ 1048576) (hm : ks.length ≤ 1048576) :
    Calls Try.prog 15 #[.agg #[.bool dir, .slice a ns.length c, .slice b ks.length d, .string dat], .agg #[.bool dir, .slice a' ns.length c', .slice b' ks.length d', .string dat]] w fun e w' => e = .returned (.bool true) ∧ Below w.heap.size w w' := by
  have hbW : Below w.heap.size w ((w.alloc (Obj.cells #[.bool dir, .slice a ns.length c, .slice b ks.length d, .string dat] 29)).alloc (Obj.cells #[.bool dir, .slice a' ns.length c', .slice b' ks.length d', .string dat] 29)) := ((Below.refl _ _).alloc (Nat.le_refl _) _).alloc (by simp) _
  go_enter Try.func15, Try.ntmps15
  go_wp2_with fail
  refine (eqStringS_any a a' ns ns c c' _ (hp.below hbW) (hp'.below hbW) (by omega) (by omega)).mono ?_
  rintro e w1 ⟨rfl, n, rfl⟩
  have hd : decide (ns = ns) = true := by simp
  rw [hd]
  clear hd
  go_wp2_with fail
  refine (eqIntS_any b b' ks ks d d' _ (hw.below (after_drew hbW n)) (hw'.below (after_drew hbW n)) (by omega) (by omega)).mono ?_
  rintro e w2 ⟨rfl, m, rfl⟩
  have hd' : decide (ks = ks) = true := by simp
  rw [hd']
  clear hd' hp hw hp' hw'
  have HB := hide (after_drew hbW (n + m))
  clear hbW
  go_wp2
  go_ret
  exact ⟨rfl, by first | exact HB.out | exact after_drew HB.out 1⟩

set_option maxHeartbeats 1600000 in
theorem markNode_any (dir : Bool) (a b : Option Addr) (n m c d base q : Nat) (dat : ByteArray) (xs ys : List Value) (w : World) (h1 : w.ownsRow base 9 1 (.slice a n c) n xs) (h2 : w.ownsRow base 3 1 (.slice b m d) m ys)
    (hne : ∀ k, (Value.slice a n c).ownBlock = some k → (Value.slice b m d).ownBlock ≠ some k) (hl : n ≤ 1048576) (hm : m ≤ 1048576) (hq0 : 0 < q) (hq : q ≤ 1000000) :
    Calls Try.prog 20 #[.agg #[.bool dir, .slice a n c, .slice b m d, .string dat], .int .i64 q] w fun e w' => e = .returned (.int .i64 ((q + n + m : Nat) : Int)) ∧ w'.ownsRow base 9 1 (.slice a n c) n (marksT q n) ∧ w'.ownsRow base 3 1 (.slice b m d) m (marksI (q + n) m) ∧
      OnlyIn w w' [(Value.slice a n c).ownBlock, (Value.slice b m d).ownBlock] := by
  have hbW : Below w.heap.size w (w.alloc (Obj.cells #[.bool dir, .slice a n c, .slice b m d, .string dat] 29)) := (Below.refl _ _).alloc (Nat.le_refl _) _
  have cW : (w.alloc (Obj.cells #[.bool dir, .slice a n c, .slice b m d, .string dat] 29)).cell? ⟨w.heap.size, 2, none⟩ = some (.slice b m d) := by simp
  have nW : ∀ k, (Value.slice a n c).ownBlock = some k → k < w.heap.size := fun k hk => (h1.lt k hk).2
  go_enter Try.func20, Try.ntmps20
  go_wp2_with fail
  refine (markStringS_any (.slice a n c) n xs base q _ (owns_below h1 hbW) hl (by omega) hq0).mono ?_
  rintro e w1 ⟨rfl, ho1, hg1⟩
  have c1 : w1.cell? ⟨w.heap.size, 2, none⟩ = some (.slice b m d) := hg1.cell cW (by
    intro e
    have := nW w.heap.size e.symm
    omega)
  have ho2 : w1.ownsRow base 3 1 (.slice b m d) m ys := (owns_below h2 hbW).kept hg1 (by
    cases hv : (Value.slice b m d).ownBlock with
    | none => exact .inl rfl
    | some k =>
      right
      intro e
      exact hne k e.symm hv)
  have on1 : OnlyIn w w1 [(Value.slice a n c).ownBlock] := by
    have := (OnlyIn.of_below hbW []).trans (OnlyIn.of_grown hg1)
    simpa using this
  clear cW hbW hg1 h1 h2
  go_wp2_with fail
  refine (markIntS_any (.slice b m d) m ys base (q + n) _ ho2 hm (by omega)).mono ?_
  rintro e w2 ⟨rfl, ho2', hg2⟩
  have ho1' : w2.ownsRow base 9 1 (.slice a n c) n (marksT q n) := ho1.kept hg2 (by
    cases hv : (Value.slice a n c).ownBlock with
    | none => exact .inl rfl
    | some k =>
      right
      intro e
      exact hne k hv e.symm)
  have on2 : OnlyIn w w2 [(Value.slice a n c).ownBlock, (Value.slice b m d).ownBlock] := on1.trans (OnlyIn.of_grown hg2)
  clear hg2 ho1 ho2 on1 c1
  go_wp2
  go_ret
  exact ⟨rfl, ho1', ho2', on2⟩

set_option maxHeartbeats 1600000 in
theorem heldNode_any (dir : Bool) (a b : Option Addr) (n m c d base q : Nat) (dat : ByteArray) (w : World) (h1 : w.ownsRow base 9 1 (.slice a n c) n (marksT q n)) (h2 : w.ownsRow base 3 1 (.slice b m d) m (marksI (q + n) m)) (hl : n ≤ 1048576) (hm : m ≤ 1048576) (hq0 : 0 < q) (hq : q ≤ 1000000) :
    Calls Try.prog 21 #[.agg #[.bool dir, .slice a n c, .slice b m d, .string dat], .int .i64 q] w fun e w' => e = .returned (.int .i64 ((q + n + m : Nat) : Int)) ∧ Below w.heap.size w w' := by
  have hbW : Below w.heap.size w (w.alloc (Obj.cells #[.bool dir, .slice a n c, .slice b m d, .string dat] 29)) := (Below.refl _ _).alloc (Nat.le_refl _) _
  go_enter Try.func21, Try.ntmps21
  go_wp2_with fail
  refine (heldStringS_any (.slice a n c) n base q _ (owns_below h1 hbW) hl (by omega) hq0).mono ?_
  rintro e w1 ⟨rfl, hb1⟩
  have c1 : w1.cell? ⟨w.heap.size, 2, none⟩ = some (.slice b m d) := (hb1.cell (p := ⟨w.heap.size, 2, none⟩) (by show _ < _; simp)).trans (by simp)
  have hbw1 := after hbW hb1
  have h2' := owns_below h2 hbw1
  have hnn : ¬ ((q : Int) + (n : Int) < 0) := by omega
  clear hb1 hbW h1 h2
  go_wp2_with fail
  refine (heldIntS_any (.slice b m d) m base (q + n) _ h2' hm (by omega)).mono ?_
  rintro e u ⟨rfl, hu⟩
  have hu' := hu.symm
  subst hu'
  have hnn2 : ¬ ((q : Int) + (n : Int) + (m : Int) < 0) := by omega
  clear h2' c1
  go_wp2
  go_ret
  exact ⟨rfl, hbw1⟩

set_option maxHeartbeats 800000 in
/-- What is left behind texts: fewer by their number. -/
theorem szStringL_any (a : Option Addr) (ps : List ByteArray) (c : Nat) (l : Nat) (w : World) (hp : Rd w a (vsString ps)) (hm : ps.length ≤ maxLen) (hs : ∀ s ∈ ps, s.size ≤ maxLen) (hl : l ≤ 1048576) :
    Calls Try.prog 27 #[.slice a ps.length c, .int .i64 l] w fun e w' => (∃ r : Int, e = .returned (.int .i64 r) ∧ -1 ≤ r ∧ r ≤ l ∧ (0 ≤ r → ps.length + r ≤ l ∧ ∀ s ∈ ps, s.size ≤ l)) ∧ w' = w := by
  unfold maxLen at hm hs
  by_cases hbig : (l : Int) - ps.length < 0
  · clear hp
    go_enter Try.func27, Try.ntmps27
    go_wp2
    go_ret
    exact ⟨⟨-1, rfl, by omega, by omega, by omega⟩, rfl⟩
  · go_enter Try.func27, Try.ntmps27
    go_wp2
    go_loop [1, 5] (fun q i => ∃ (k : Nat) (r : Int), k ≤ ps.length ∧ i = .int .i64 k ∧ q = .int .i64 r ∧ 0 ≤ r ∧ r ≤ (l : Int) - ps.length ∧ Hid (∀ s ∈ ps.take k, s.size ≤ l)) (fun _ i => ps.length - (intOf i).toNat)
    case atStart => exact ⟨0, _, Nat.zero_le _, rfl, rfl, by omega, by omega, by show ∀ _, _; simp⟩
    case round =>
      obtain ⟨k, r, hk, rfl, rfl, hr0, hr1, hall⟩ := hrel
      by_cases hlt : k < ps.length
      · obtain ⟨b, off, x, rfl, hck, HX⟩ := rdString_at hp hlt
        have hx : x.size ≤ 9223372036854775807 := by
          have := hs x (List.mem_of_getElem? HX.out)
          omega
        clear hp
        by_cases hneg : r - (x.size : Int) < 0
        · go_wp2
          go_ret
          exact ⟨⟨-1, rfl, by omega, by omega, by omega⟩, rfl⟩
        · have hall' : Hid (∀ s ∈ ps.take (k + 1), s.size ≤ l) := by
            show ∀ _, _
            intro s hs'
            rw [List.take_add_one, HX.out] at hs'
            simp only [Option.toList_some, List.mem_append, List.mem_singleton] at hs'
            rcases hs' with h | rfl
            · exact hall.out s h
            · omega
          go_wp2
          go_round
          case rel => exact ⟨k + 1, _, by omega, by go_num, rfl, by omega, by omega, hall'⟩
          case measure => simp [intOf]; omega
      · have hall' : Hid (∀ s ∈ ps, s.size ≤ l) := by
          have := hall.out
          rw [List.take_of_length_le (by omega)] at this
          exact this
        clear hp
        go_wp2
        go_ret
        exact ⟨⟨r, rfl, by omega, by omega, fun _ => ⟨by omega, hall'.out⟩⟩, rfl⟩

theorem szIntL_any (a : Option Addr) (n c : Nat) (l : Nat) (w : World) (hm : n ≤ maxLen) (hl : l ≤ 1048576) :
    Calls Try.prog 28 #[.slice a n c, .int .i64 l] w fun e w' => (∃ r : Int, e = .returned (.int .i64 r) ∧ -1 ≤ r ∧ r ≤ l ∧ (0 ≤ r → n + r ≤ l)) ∧ w' = w := by
  unfold maxLen at hm
  by_cases hbig : (l : Int) - n < 0
  · go_enter Try.func28, Try.ntmps28
    go_wp2
    go_ret
    exact ⟨⟨-1, rfl, by omega, by omega, by omega⟩, rfl⟩
  · go_enter Try.func28, Try.ntmps28
    go_wp2
    go_ret
    exact ⟨⟨_, rfl, by omega, by omega, fun _ => by omega⟩, rfl⟩

set_option maxHeartbeats 1600000 in
theorem szNode_any (dir : Bool) (a b : Option Addr) (ns : List ByteArray) (m c d : Nat) (dat : ByteArray) (l : Nat) (w : World) (hp : Rd w a (vsString ns)) (hn : ns.length ≤ maxLen) (hs : ∀ s ∈ ns, s.size ≤ maxLen) (hm : m ≤ maxLen) (hd : dat.size ≤ maxLen) (hl : l ≤ 1048576) :
    Calls Try.prog 11 #[.agg #[.bool dir, .slice a ns.length c, .slice b m d, .string dat], .int .i64 l] w fun e w' => (∃ r : Int, e = .returned (.int .i64 r) ∧ -1 ≤ r ∧ r ≤ l ∧ (0 ≤ r → ns.length + m + dat.size ≤ l ∧ (∀ s ∈ ns, s.size ≤ l))) ∧ Below w.heap.size w w' := by
  obtain ⟨W, hW⟩ : ∃ W, W = w.alloc (Obj.cells #[.bool dir, .slice a ns.length c, .slice b m d, .string dat] 26) := ⟨_, rfl⟩
  have hbW : Below w.heap.size w W := by rw [hW]; exact (Below.refl _ _).alloc (Nat.le_refl _) _
  have x2 : W.cell? ⟨w.heap.size, 2, none⟩ = some (.slice b m d) := by rw [hW]; simp
  have x3 : W.cell? ⟨w.heap.size, 3, none⟩ = some (.string dat) := by rw [hW]; simp
  have hdm : dat.size ≤ 9223372036854775807 := by unfold maxLen at hd; omega
  clear hd
  go_enter Try.func11, Try.ntmps11
  go_wp2_with fail
  rw [← hW]
  clear hW
  refine (szStringL_any a ns c l W (hp.below hbW) hn hs hl).mono ?_
  rintro e u ⟨⟨r, rfl, hr0, hr1, hr2⟩, hu⟩
  have hu' := hu.symm
  subst hu'
  by_cases hneg : r < 0
  · clear hp hr2 hs
    go_wp2
    go_ret
    exact ⟨⟨-1, rfl, by omega, by omega, by omega⟩, hbW⟩
  · obtain ⟨R, rfl⟩ : ∃ R : Nat, r = R := ⟨r.toNat, by omega⟩
    have HR := hide (hr2 (by omega))
    clear hr2 hs hp hn
    go_wp2_with fail
    refine (szIntL_any b m d R _ hm (by omega)).mono ?_
    rintro e u ⟨⟨r2, rfl, hs0, hs1, hs2⟩, hu⟩
    have hu' := hu.symm
    subst hu'
    have HS : Hid _ := hs2
    clear hs2
    by_cases hneg2 : r2 < 0
    · go_wp2
      go_ret
      exact ⟨⟨-1, rfl, by omega, by omega, by omega⟩, hbW⟩
    · by_cases hneg3 : r2 - (dat.size : Int) < 0
      · go_wp2
        go_ret
        exact ⟨⟨-1, rfl, by omega, by omega, by omega⟩, hbW⟩
      · go_wp2
        go_ret
        exact ⟨⟨_, rfl, by omega, by omega, fun h => ⟨by have := HS.out (by omega); have := HR.out.1; omega, HR.out.2⟩⟩, hbW⟩

theorem node_to {u : World} {v : Value} {dir : Bool} {ns : List ByteArray} {ks : List Int} {dat : ByteArray} (h : NodeRd u v dir ns ks dat) (hl : ns.length ≤ 1048576) (hm : ks.length ≤ 1048576) :
    Calls Try.prog 13 #[v] u fun e w' => ∃ v, e = .returned v ∧ NodeOwn w' u.heap.size v dir ns ks dat ∧ Below u.heap.size u w' := by
  obtain ⟨a, c, b, d, rfl, h1, h2⟩ := h
  exact toNode_any dir a b ns ks dat c d u h1 h2 hl hm
theorem node_eq {u : World} {v v' : Value} {dir : Bool} {ns : List ByteArray} {ks : List Int} {dat : ByteArray} (h : NodeRd u v dir ns ks dat) (h' : NodeRd u v' dir ns ks dat) (hl : ns.length ≤ 1048576) (hm : ks.length ≤ 1048576) :
    Calls Try.prog 15 #[v, v'] u fun e w' => e = .returned (.bool true) ∧ Below u.heap.size u w' := by
  obtain ⟨a, c, b, d, rfl, h1, h2⟩ := h
  obtain ⟨a', c', b', d', rfl, h1', h2'⟩ := h'
  exact eqNode_same dir a b a' b' ns ks dat c d c' d' u h1 h2 h1' h2' hl hm
theorem node_mark {u : World} {base : Nat} {v : Value} {dir : Bool} {ns : List ByteArray} {ks : List Int} {dat : ByteArray} {q : Nat} (h : NodeOwn u base v dir ns ks dat) (hl : ns.length ≤ 1048576) (hm : ks.length ≤ 1048576) (hq0 : 0 < q) (hq : q ≤ 1000000) :
    Calls Try.prog 20 #[v, .int .i64 q] u fun e w' => e = .returned (.int .i64 ((q + ns.length + ks.length : Nat) : Int)) ∧ NodeMk w' base v ns.length ks.length q ∧ OnlyIn u w' (bk v) := by
  obtain ⟨a, c, b, d, rfl, h1, h2, h3⟩ := node_open h
  refine (markNode_any dir a b ns.length ks.length c d base q dat _ _ u h1 h2 h3 hl hm hq0 hq).mono ?_
  rintro e' w' ⟨rfl, k1, k2, hO⟩
  refine ⟨rfl, ⟨dir, a, c, b, d, dat, rfl, k1, k2⟩, ⟨hO.os, hO.tape, hO.output, hO.size, fun i hi hn => hO.block i hi (fun h => hn ?_)⟩⟩
  simp only [bk, List.map_cons, List.map_nil, List.mem_cons, List.not_mem_nil, or_false] at h ⊢
  rcases h with h | h
  · exact .inr (.inl h)
  · exact .inr (.inr (.inl h))
theorem node_held {u : World} {base : Nat} {v : Value} {n m q : Nat} (h : NodeMk u base v n m q) (hl : n ≤ 1048576) (hm : m ≤ 1048576) (hq0 : 0 < q) (hq : q ≤ 1000000) :
    Calls Try.prog 21 #[v, .int .i64 q] u fun e w' => e = .returned (.int .i64 ((q + n + m : Nat) : Int)) ∧ Below u.heap.size u w' := by
  obtain ⟨dir, a, c, b, d, dat, rfl, h1, h2⟩ := h
  exact heldNode_any dir a b n m c d base q dat u h1 h2 hl hm hq0 hq
theorem node_sz {u : World} {v : Value} {dir : Bool} {ns : List ByteArray} {ks : List Int} {dat : ByteArray} (l : Nat) (h : NodeRd u v dir ns ks dat) (hn : ns.length ≤ maxLen) (hm : ks.length ≤ maxLen) (hd : dat.size ≤ maxLen) (hs : ∀ s ∈ ns, s.size ≤ maxLen) (hl : l ≤ 1048576) :
    Calls Try.prog 11 #[v, .int .i64 l] u fun e w' => (∃ r : Int, e = .returned (.int .i64 r) ∧ -1 ≤ r ∧ r ≤ l ∧ (0 ≤ r → ns.length + ks.length + dat.size ≤ l ∧ ∀ s ∈ ns, s.size ≤ l)) ∧ Below u.heap.size u w' := by
  obtain ⟨a, c, b, d, rfl, h1, h2⟩ := h
  exact szNode_any dir a b ns ks.length c d dat l u h1 hn hs hm hd hl

theorem node_of {H : Type} {enc : TypeId × Value → H} {W : World} {r : Reach} {base : Nat} {v : Value} {d : DataW H} {p : List MemPlace} (hv : Value.okWide Try.prog W r base 26 v) (h : DataW.Trod enc Try.prog W 0 (fun _ => true) true 26 v d p) :
    ∃ dir a ns c b ks e dat, v = .agg #[.bool dir, .slice a (List.length ns) c, .slice b (List.length ks) e, .string dat] ∧ NodeRd W (.agg #[.bool dir, .slice a (List.length ns) c, .slice b (List.length ks) e, .string dat]) dir ns ks dat ∧
      ns.length ≤ maxLen ∧ ks.length ≤ maxLen ∧ dat.size ≤ maxLen ∧ (∀ s ∈ ns, s.size ≤ maxLen) := by
  obtain ⟨cs, rfl, hsz⟩ := okWide_struct Try.underlying26 hv
  obtain ⟨c0, c1, c2, c3, rfl⟩ := array4 (hsz.trans (by kernel_rfl))
  obtain ⟨fuel, hf⟩ := h
  obtain ⟨y0, y1, y2, y3, n, -, -, h0, h1, h2, h3⟩ := trod_struct4 Try.underlying26 hf
  have k0 : DataW.trod enc Try.prog W 0 (fun _ => true) true n 4 [c0] = some y0 := h0
  have k1 : DataW.trod enc Try.prog W 0 (fun _ => true) true n 23 [c1] = some y1 := h1
  have k2 : DataW.trod enc Try.prog W 0 (fun _ => true) true n 24 [c2] = some y2 := h2
  have k3 : DataW.trod enc Try.prog W 0 (fun _ => true) true n 9 [c3] = some y3 := h3
  obtain ⟨a, ns, c, rfl, hp, hl, hs⟩ := rdStrings_of k1
  obtain ⟨b, ks, e, rfl, hw, hm⟩ := rdInts_of k2
  obtain ⟨dir, e0, -⟩ := DataW.trod_bool Try.underlying4 k0
  obtain ⟨dat, e3, -, wd⟩ := DataW.trod_string Try.underlying9 k3
  cases e0
  cases e3
  exact ⟨dir, a, ns, c, b, ks, e, dat, rfl, ⟨a, c, b, e, rfl, hp, hw⟩, hl, hm, wd, hs⟩

end Go.Proofs.Ytmolhhljodlhaaa
