/-
  'append(out, part...)' of a row that came in (of structs of any width) to one of the call's own.
  Contracts of both Views; the laws' helpers over rows of texts.
  Contract of the specification's Recover, of whatever came in.
-/
import Derived.Test.YtdicjbabnknjhaaGreatJRecover34
import Derived.Laws.OwnMore
import Derived.Test.YtdicjbabnknjhaaGreatJRecover29
import Derived.Test.YtdicjbabnknjhaaGreatJRecover39
import Derived.Test.YtdicjbabnknjhaaGreatJRecover40
import Derived.Test.YtdicjbabnknjhaaGreatJRecover37
namespace Go.Proofs.YtdicjbabnknjhaaGreat
open Go.RowKit

theorem run_append_none_c {P : Program} {w : World} (base : Nat) (t ty e : TypeId) (i : TypeInfo) (size c : Nat) (ht : P.underlying t = some (.slice e)) (hi : P.info? e = some i)
    (v : Value) (n : Nat) (xs : List Value) (hown : w.ownsRow base e size v n xs) :
    (Builtin.append_ #[t, t] ty #[v, .slice none 0 c]).run P w = .ok v w := by
  rcases hown.2 with ⟨rfl, rfl⟩ | ⟨g, cap, cur, rfl, _, _, hnc, _⟩
  · simp [Builtin.append_, run_underlying ht, sizeOf, typeInfo, hi, Builtin.lenOf, Builtin.firstCells]
  · simp [Builtin.append_, run_underlying ht, sizeOf, typeInfo, hi, Builtin.lenOf, Builtin.firstCells, hnc, storeCells]

theorem wpList_append_rd {P : Program} {w : World} {ops : Array Oper} {rest : List Oper} {o : Oper} {a : Act} {Q : Exit → Act → World → Prop} (hgd : o.guard = none) (s x : Operand) (t : TypeId)
    (ho : o.op = .call { callee := .builtin .append, args := #[s, x], argTypes := #[t, t] })
    (base : Nat) (e : TypeId) (i : TypeInfo) (z : Value) (size bytes : Nat) (ht : P.underlying t = some (.slice e)) (hi : P.info? e = some i) (hz : i.zero = some z)
    (hsize : i.size = size) (hby : i.bytes = bytes) (hzs : z.cells.size = size) (hsz : 0 < size)
    (v : Value) (n : Nat) (xs : List Value) (hs : a.eval s = v) (hown : w.ownsRow base e size v n xs)
    (la : Option Addr) (m lc : Nat) (news : List Value) (hx : a.eval x = .slice la m lc) (hrd : Rd w la news) (hl : news.length = m * size) (h1 : ∀ u ∈ news, u.oneCell' = true)
    (h63 : n + m ≤ maxLen) (hbytes : (n + m) * bytes ≤ 140737488355328) (hbase : base ≤ w.heap.size)
    (h : ∀ v' w', w'.ownsRow base e size v' (n + m) (xs ++ news) → w.grownBy w' v.ownBlock → wpList P ops Q rest (a.put o.dst v') w') : wpList P ops Q (o :: rest) a w := by
  have hrd' : ∀ ad, la = some ad → ∀ j u, news[j]? = some u → w.cell? (ad.add j) = some u := by
    rintro ad rfl j u hj
    rcases hrd with h0 | ⟨b, off, ha, hc⟩
    · rw [h0] at hj; simp at hj
    · injection ha with ha
      subst ha
      rw [add_at]
      exact hc j u hj
  cases la with
  | some ad => exact wpList_append_own _ hgd s x t ho base e i z size bytes ht hi hz hsize hby hzs hsz v n xs hs hown ad m lc news hx hl (hrd' ad rfl) h1 h63 hbytes hbase (fun v' w' k1 k2 _ => h v' w' k1 k2)
  | none =>
    have hnil : news = [] := by
      rcases hrd with h0 | ⟨b, off, ha, hc⟩
      · exact h0
      · cases ha
    subst hnil
    have hm : m = 0 := by
      have h2 : 0 = m * size := hl
      rcases Nat.eq_zero_or_pos m with h0 | h0
      · exact h0
      · have := Nat.mul_pos h0 hsz; omega
    subst hm
    refine wpList_plain hgd fun K hK => ?_
    have hrun := run_append_none_c (P := P) (w := w) base t o.type e i size lc ht hi v n xs hown
    unfold Oper.wp
    simp [execOp, ho, resolve, invoke, builtin, hs, hx, hrun, Result.andThen]
    exact hK _ _ (h v w (by simpa using hown) (World.grownBy.refl _ _))
end Go.Proofs.YtdicjbabnknjhaaGreat

namespace Go.Proofs.YtdicjbabnknjhaaGreat
open Go.RowKit

/-- What each sector of a chip that is right has. -/
def viewU (ps : List ByteArray) : List ByteArray := (List.range 26).map fun (s : Nat) => secD ps ((s : Nat) : Int)
theorem viewU_len (ps : List ByteArray) : (viewU ps).length = 26 := by simp [viewU]
theorem viewU_at (ps : List ByteArray) {k : Nat} (h : k < 26) : (viewU ps)[k]? = some (secD ps (k : Int)) := by simp [viewU, h]
/-- View of whatever came in. -/
def viewOf (ps : List ByteArray) (ws ms : List Int) (q : Int) : List ByteArray := if ftlOkB ps ws ms q = true then viewU ps else []
theorem viewOf_len (ps : List ByteArray) (ws ms : List Int) (q : Int) : (viewOf ps ws ms q).length ≤ 1000 := by
  unfold viewOf
  split
  · rw [viewU_len]; decide
  · simp

/-! Rows of texts. -/
def StrsRd (w : World) (v : Value) (xs : List ByteArray) : Prop := ∃ a c, v = .slice a xs.length c ∧ Rd w a (vsString xs)
def StrsOwn (w : World) (base : Nat) (v : Value) (xs : List ByteArray) : Prop := w.ownsRow base 9 1 v xs.length (vsString xs)
def StrsMk (w : World) (base : Nat) (v : Value) (n q : Nat) : Prop := w.ownsRow base 9 1 v n (marksT q n)
theorem StrsOwn.shape {u : World} {base : Nat} {v : Value} {xs : List ByteArray} (h : StrsOwn u base v xs) : ∃ a c, v = .slice a xs.length c := owns_shape h
theorem StrsOwn.rd {u : World} {base : Nat} {v : Value} {xs : List ByteArray} (h : StrsOwn u base v xs) : StrsRd u v xs := by
  obtain ⟨a, c, rfl⟩ := h.shape
  exact ⟨a, c, rfl, rd_of_own h⟩
theorem StrsRd.below {u u' : World} {v : Value} {xs : List ByteArray} (h : StrsRd u v xs) (hb : Below u.heap.size u u') : StrsRd u' v xs := by
  obtain ⟨a, c, rfl, h1⟩ := h
  exact ⟨a, c, rfl, h1.below hb⟩
theorem StrsOwn.below {u u' : World} {base : Nat} {v : Value} {xs : List ByteArray} (h : StrsOwn u base v xs) (hb : Below u.heap.size u u') : StrsOwn u' base v xs := owns_below h hb
theorem StrsMk.below {u u' : World} {base : Nat} {v : Value} {n q : Nat} (h : StrsMk u base v n q) (hb : Below u.heap.size u u') : StrsMk u' base v n q := owns_below h hb
theorem StrsOwn.only {u u' : World} {base : Nat} {v : Value} {xs : List ByteArray} {L : List (Option Nat)} (h : StrsOwn u base v xs) (hO : OnlyIn u u' L) (hn : ∀ k, some k ∈ bk v → some k ∉ L) : StrsOwn u' base v xs := by
  obtain ⟨a, c, rfl⟩ := h.shape
  exact hO.owns h (fun k hk => hn k (by rw [bk_slice, hk]; simp))
theorem StrsMk.only {u u' : World} {base : Nat} {v : Value} {n q : Nat} {L : List (Option Nat)} (h : StrsMk u base v n q) (hO : OnlyIn u u' L) (hn : ∀ k, some k ∈ bk v → some k ∉ L) : StrsMk u' base v n q := by
  obtain ⟨a, c, rfl⟩ := owns_shape h
  exact hO.owns h (fun k hk => hn k (by rw [bk_slice, hk]; simp))
theorem StrsOwn.blk {u : World} {base : Nat} {v : Value} {xs : List ByteArray} (h : StrsOwn u base v xs) {k : Nat} (hk : some k ∈ bk v) : base ≤ k ∧ k < u.heap.size := by
  obtain ⟨a, c, rfl⟩ := h.shape
  rw [bk_slice] at hk
  simp only [List.mem_cons, List.not_mem_nil, or_false] at hk
  exact World.ownsRow.lt h k hk.symm
theorem strs_eq {u : World} {v v' : Value} {xs : List ByteArray} (h : StrsRd u v xs) (h' : StrsRd u v' xs) (hl : xs.length ≤ 1048576) :
    Calls Tryz.prog 72 #[v, v'] u fun e w' => e = .returned (.bool true) ∧ Below u.heap.size u w' := by
  obtain ⟨a, c, rfl, h1⟩ := h
  obtain ⟨a', c', rfl, h1'⟩ := h'
  refine (eqStringS_any a a' xs xs c c' u h1 h1' (by omega) (by omega)).mono ?_
  rintro e w' ⟨rfl, n, rfl⟩
  exact ⟨ret_bool (by simp), after_drew (Below.refl _ _) n⟩
theorem strs_mark {u : World} {base : Nat} {v : Value} {xs : List ByteArray} {q : Nat} (h : StrsOwn u base v xs) (hl : xs.length ≤ 1048576) (hq0 : 0 < q) (hq : q ≤ 1000000) :
    Calls Tryz.prog 73 #[v, .int .i64 q] u fun e w' => e = .returned (.int .i64 ((q + xs.length : Nat) : Int)) ∧ StrsMk w' base v xs.length q ∧ OnlyIn u w' (bk v) := by
  obtain ⟨a, c, rfl⟩ := h.shape
  refine (markStringS_any (.slice a xs.length c) xs.length _ base q u h hl (by omega) hq0).mono ?_
  rintro e w' ⟨rfl, k1, hg⟩
  exact ⟨rfl, k1, OnlyIn.of_grown hg⟩
theorem strs_held {u : World} {base : Nat} {v : Value} {n q : Nat} (h : StrsMk u base v n q) (hl : n ≤ 1048576) (hq0 : 0 < q) (hq : q ≤ 1000000) :
    Calls Tryz.prog 74 #[v, .int .i64 q] u fun e w' => e = .returned (.int .i64 ((q + n : Nat) : Int)) ∧ Below u.heap.size u w' :=
  heldStringS_any v n base q u h hl (by omega) hq0

/-- What l4Sector answers of a chip that is right. -/
theorem specSec_any (a e0 : Option Addr) (p1 : Value) (ps : List ByteArray) (c f S : Nat) (q : Int) (w : World) (hp : Rd w a (vsString ps)) (hms : Rd w e0 (vsInt (mMap ps))) (hch : ps.length = 60) (hS : S < 26) (hs : ∀ s ∈ ps, s.size ≤ 1048576) :
    Calls Tryz.prog 26 #[.agg #[.slice a ps.length c, p1, .slice e0 (mMap ps).length f, .int .i64 q], .int .i64 S] w fun e w' => e = .returned (.string (secD ps S)) ∧ Below w.heap.size w w' := by
  obtain ⟨o, ho, ho1, ho2⟩ := map_old (ps := ps) (k := 60) (s := S) hS
  have ho' : (mMap ps)[S]? = some o := ho
  have e : secD ps S = dataAt ps o := by rw [secD, if_pos (by omega), Int.toNat_natCast, ho']; rfl
  rw [e]
  by_cases hneg : o < 0
  · rw [dataAt, if_pos hneg]
    exact specSec_none _ _ e0 (mMap ps) f S _ o w hms ho' hS hneg
  · obtain ⟨p, rfl⟩ : ∃ p : Nat, o = p := ⟨o.toNat, by omega⟩
    rw [dataAt, if_neg hneg, Int.toNat_natCast]
    exact specSec_some a _ e0 ps (mMap ps) c f S p _ w hp hms ho' hS (by omega) (by omega) hs

end Go.Proofs.YtdicjbabnknjhaaGreat

namespace Go.Proofs.YtdicjbabnknjhaaGreat
open Go.RowKit

set_option maxRecDepth 100000 in
set_option maxHeartbeats 12800000 in
theorem specRecover_fn (a b e0 : Option Addr) (ps : List ByteArray) (ws ms : List Int) (c d f : Nat) (q : Int) (w : World) (hp : Rd w a (vsString ps)) (hw : Rd w b (vsInt ws)) (hms : Rd w e0 (vsInt ms)) (hl : ps.length ≤ 1048576) (hm : ws.length ≤ 1048576) (hn : ms.length ≤ 1048576) (hs : ∀ s ∈ ps, s.size ≤ 1048576) :
    Calls Tryz.prog 19 #[.agg #[.slice a ps.length c, .slice b ws.length d, .slice e0 ms.length f, .int .i64 q]] w fun e w' => PlanIs w w' e (recoverR ps ws ms q) := by
  obtain ⟨R, hR⟩ : ∃ R, R = recoverR ps ws ms q := ⟨_, rfl⟩
  rw [← hR]
  obtain ⟨A, hA⟩ : ∃ A, A = w.alloc (Obj.cells #[.slice a ps.length c, .slice b ws.length d, .slice e0 ms.length f, .int .i64 q] 34) := ⟨_, rfl⟩
  obtain ⟨A2, hA2⟩ : ∃ A2, A2 = A.alloc (Obj.cells #[.slice none 0 0, .slice none 0 0, .slice none 0 0, .int .i64 0] 34) := ⟨_, rfl⟩
  have hsA : A.heap.size = w.heap.size + 1 := by rw [hA]; simp
  have hsA2 : A2.heap.size = w.heap.size + 1 + 1 := by rw [hA2]; simp [hsA]
  have hb0 : Below w.heap.size w A := by rw [hA]; exact (Below.refl _ _).alloc (Nat.le_refl _) _
  have hb1 : Below A.heap.size A A2 := by rw [hA2]; exact (Below.refl _ _).alloc (Nat.le_refl _) _
  have hb2 := after hb0 hb1
  have k1 : C4 A2 (w.heap.size + 1) (.slice none 0 0) (.slice none 0 0) (.slice none 0 0) (.int .i64 0) := by
    have : C4 A2 A.heap.size (.slice none 0 0) (.slice none 0 0) (.slice none 0 0) (.int .i64 0) := by rw [hA2]; exact c4_new _ _ _ _ _ _
    rw [hsA] at this
    exact this
  have k0 : C4 A2 w.heap.size (.slice a ps.length c) (.slice b ws.length d) (.slice e0 ms.length f) (.int .i64 q) := by
    have : C4 A w.heap.size (.slice a ps.length c) (.slice b ws.length d) (.slice e0 ms.length f) (.int .i64 q) := by rw [hA]; exact c4_new _ _ _ _ _ _
    exact this.below hb1
  have HFO := hide (specFtlOk_any a b e0 ps ws ms c d f q A2 (hp.below hb2) (hw.below hb2) (hms.below hb2) hl hm hn hs)
  have HRD := hide (And.intro (hp.below hb2) (And.intro (hw.below hb2) (hms.below hb2)))
  have HB2 := hide hb2
  have HK1 := hide k1
  have HK0 := hide k0
  have HSA2 := hide hsA2
  have hR0 := hide hR
  obtain ⟨⟨x0, x1, x2, x3⟩, -⟩ := id k0
  clear hp hw hms hs hb0 hb1 hb2 k1 k0 hR
  clear hsA hsA2
  have hRF : Hid (∀ (V w5 : World) (vf : Value) (y0 y1 y2 y3 : Value) (va : Value) (cs : List (Int × Int × ByteArray)) (PS : List ByteArray) (WS MS : List Int) (Q : Int), Below A2.heap.size A2 w5 → ActsOwn w5 A2.heap.size va cs → FtlOwn w5 A2.heap.size vf PS WS MS Q → V = w5 → ∀ F : Bool, R = (cs, (PS, WS, MS, Q), F) → PlanIs w ((((V.setCell ⟨w.heap.size + 1, 0, none⟩ y0).setCell ⟨w.heap.size + 1, 1, none⟩ y1).setCell ⟨w.heap.size + 1, 2, none⟩ y2).setCell ⟨w.heap.size + 1, 3, none⟩ y3) (.returned (.tuple #[va, vf, .bool F])) R) := by
    intro V w5 vf y0 y1 y2 y3 va cs PS WS MS Q hb5 ha hf hV F hRe
    subst hV
    have h := plan_fin HB2.out hb5 ⟨Nat.le_refl _, hb5.size⟩ HK1.out ha hf V 0 y0 y1 y2 y3 (Below.refl _ _)
    subst hRe
    exact ⟨va, vf, rfl, h.1, h.2.1, h.2.2⟩
  have HEMP : Hid (∀ u, Below A2.heap.size A2 u → Below A2.heap.size A2 (u.alloc (Obj.cells #[] 71)) ∧ ActsOwn (u.alloc (Obj.cells #[] 71)) A2.heap.size (.slice (some ⟨u.heap.size, 0, none⟩) 0 0) []) := fun u hu => ⟨hu.alloc hu.size _, World.ownsRow_made u #[] 0 hu.size (Nat.zero_le _) rfl⟩
  have HY : Hid (∀ u, Below A2.heap.size A2 u → C4 u (w.heap.size + 1) (.slice none 0 0) (.slice none 0 0) (.slice none 0 0) (.int .i64 0)) := fun u hu => HK1.out.below hu
  have HXC : Hid (∀ u, Below A2.heap.size A2 u → u.cell? ⟨w.heap.size, 0, none⟩ = some (.slice a ps.length c) ∧ u.cell? ⟨w.heap.size, 1, none⟩ = some (.slice b ws.length d) ∧ u.cell? ⟨w.heap.size, 2, none⟩ = some (.slice e0 ms.length f) ∧ u.cell? ⟨w.heap.size, 3, none⟩ = some (.int .i64 q)) := fun u hu => (HK0.out.below hu).1
  go_enter Tryz.func19, Tryz.ntmps19
  go_wp2_with fail
  rw [← hA]
  rw [← hA2]
  clear hA hA2
  refine HFO.out.mono ?_
  rintro e w1 ⟨rfl, hbx⟩
  have HB1 := hide hbx
  clear HFO x0 x1 x2 x3 hbx
  cases hok : ftlOkB ps ws ms q with
  | false =>
    obtain ⟨hbe, hae⟩ := HEMP.out w1 HB1.out
    obtain ⟨⟨y0, y1, y2, y3⟩, yf⟩ := HY.out _ hbe
    have yf0 := yf 0
    have yf1 := yf 1
    have yf2 := yf 2
    have yf3 := yf 3
    have hRe : R = ([], ([], [], [], 0), false) := by rw [hR0.out, recoverR, if_neg (by rw [hok]; decide)]
    have HFI := hide (hRF.out _ _ (.agg #[.slice none 0 0, .slice none 0 0, .slice none 0 0, .int .i64 0]) (.slice none 0 0) (.slice none 0 0) (.slice none 0 0) (.int .i64 0) _ [] [] [] [] 0 hbe hae (ftlOwn_zero _ _) rfl false hRe)
    clear hbe hae yf hok hRe
    go_wp2
    exact bodyPost_ret (v := .tuple #[.slice (some ⟨w1.heap.size, 0, none⟩) 0 0, .agg #[.slice none 0 0, .slice none 0 0, .slice none 0 0, .int .i64 0], .bool false]) (by simp [results, Tryz.results19, go_sem, y0, y1, y2, y3]) rfl HFI.out
  | true =>
    obtain ⟨hch, hmm, hqq⟩ := ftlOk_parts hok
    have HCP : Hid (∀ u, Below A2.heap.size A2 u → Calls Tryz.prog 27 #[.agg #[.slice a ps.length c, .slice b ws.length d, .slice e0 ms.length f, .int .i64 q]] u fun e w' => ∃ a b e0 c d f, e = .returned (.agg #[.slice a ps.length c, .slice b ws.length d, .slice e0 ms.length f, .int .i64 q]) ∧ FtlOwn w' u.heap.size (.agg #[.slice a ps.length c, .slice b ws.length d, .slice e0 ms.length f, .int .i64 q]) ps ws ms q ∧ Below u.heap.size u w') := by
      intro u hu2
      refine (copy4_any a b e0 ps ws ms c d f q u (HRD.out.1.below hu2) (HRD.out.2.1.below hu2) (HRD.out.2.2.below hu2) hch.1 hch.2.1 (by rw [← hmm]; exact mMap_len ps)).mono ?_
      rintro e w' ⟨v, rfl, hf, hb⟩
      obtain ⟨a1, c1, b1, d1, e1, f1, rfl⟩ := hf.shape
      exact ⟨_, _, _, _, _, _, rfl, hf, hb⟩
    have HOK := hide hok
    obtain ⟨x0, x1, x2, x3⟩ := HXC.out w1 HB1.out
    have HL4 : Hid (∀ u, Below A2.heap.size A2 u → Calls Tryz.prog 26 #[.agg #[.slice a ps.length c, .slice b ws.length d, .slice e0 ms.length f, .int .i64 q], .int .i64 24] u fun e w' => e = .returned (.string (secD ps 24)) ∧ Below u.heap.size u w') := by
      intro u hu
      have h3 := HRD.out.2.2.below hu
      rw [← hmm] at h3 ⊢
      exact specSec_any a e0 (.slice b ws.length d) ps c f 24 q u (HRD.out.1.below hu) h3 hch.1 (by decide) (fun s h => by have := hch.2.2.1 s h; omega)
    obtain ⟨D, hD⟩ : ∃ D, D = secD ps 24 := ⟨_, rfl⟩
    rw [← hD] at HL4
    have HDS : Hid (D.size ≤ 400) := by show D.size ≤ 400; rw [hD]; exact secD_size
    obtain ⟨L, hL⟩ : ∃ L, L = (logR D).getD [] := ⟨_, rfl⟩
    have HL3 : Hid (L.length ≤ 3) := by show L.length ≤ 3; rw [hL]; exact logR_len D
    have HLB : Hid (∀ x ∈ L, x.2.size ≤ 400 ∧ 0 ≤ x.1 ∧ x.1 ≤ 1000000000) := by
      intro x hx
      rw [hL] at hx
      cases hr : logR D with
      | none => rw [hr] at hx; simp at hx
      | some R =>
        rw [hr] at hx
        obtain ⟨k1, k2⟩ := logR_some hr
        have k3 := logT_some (L := R) (by rw [k1]; exact k2)
        have := in_bd k3.1 k3.2.1 x hx
        exact ⟨this.2, this.1.1, this.1.2⟩
    have HLR : Hid (∀ u, Calls Tryz.prog 47 #[.string D] u fun e w' => ∃ v, e = .returned (.tuple #[v, .bool (logR D).isSome]) ∧ PutsOwn w' u.heap.size v L ∧ Below u.heap.size u w') := fun u => by rw [hL]; exact specLogRead_any D u (by have := HDS.out; omega)
    have HNO : Hid (D = ByteArray.empty → R = ([], (ps, ws, ms, q), true)) := fun h => by
      rw [hR0.out, recoverR, if_pos hok, recoverX, if_pos (by rw [← hD]; exact h)]
      show ([], (ps, ws, mMap ps, mSeq ps), true) = _
      rw [hmm, hqq]
    have HXY : Hid (D ≠ ByteArray.empty → recoverX ps ws = pWritesL (L ++ [(24, ByteArray.empty)]) ps ws) := fun h => by rw [recoverX, if_neg (by rw [← hD]; exact h), hL, hD]
    obtain ⟨B, hB⟩ : ∃ B, B = (logR D).isSome := ⟨_, rfl⟩
    rw [← hB] at HLR
    clear hD hL hB hok hch hmm hqq
    go_wp2_with fail
    refine (HL4.out w1 HB1.out).mono ?_
    rintro e w2 ⟨rfl, hb2⟩
    have HB2' := hide (after HB1.out hb2)
    clear hb2 HL4 x0 x1 x2 x3
    by_cases h0 : D = ByteArray.empty
    · have hem : D.toList.isEmpty = true := by rw [h0, ByteArray.toList_eq]; rfl
      have HRE := hide (HNO.out h0)
      clear h0 HXY HL3 HLR HLB HNO
      obtain ⟨hbe, hae⟩ := HEMP.out w2 HB2'.out
      have HAE := hide hae
      have HBE := hide hbe
      obtain ⟨x0, x1, x2, x3⟩ := HXC.out _ hbe
      clear hae hbe
      go_wp2_with fail
      refine (HCP.out _ HBE.out).mono ?_
      rintro e w3 ⟨a2, b2, e2, c2, d2, f2, rfl, hf2, hb3⟩
      have hB := after HBE.out hb3
      obtain ⟨⟨y0, y1, y2, y3⟩, yf⟩ := HY.out w3 hB
      have yf0 := yf 0
      have yf1 := yf 1
      have yf2 := yf 2
      have yf3 := yf 3
      have HFI := hide (hRF.out w3 w3 (.agg #[.slice a2 ps.length c2, .slice b2 ws.length d2, .slice e2 ms.length f2, .int .i64 q]) (.slice a2 ps.length c2) (.slice b2 ws.length d2) (.slice e2 ms.length f2) (.int .i64 q) (.slice (some ⟨w2.heap.size, 0, none⟩) 0 0) [] ps ws ms q hB (HAE.out.below hb3) (ftlOwn_mono hf2 HBE.out.size) rfl true HRE.out)
      clear hf2 hb3 hB yf x0 x1 x2 x3 HXC HY HCP
      go_wp2
      exact bodyPost_ret (v := .tuple #[.slice (some ⟨w2.heap.size, 0, none⟩) 0 0, .agg #[.slice a2 ps.length c2, .slice b2 ws.length d2, .slice e2 ms.length f2, .int .i64 q], .bool true]) (by simp [results, Tryz.results19, go_sem, y0, y1, y2, y3]) rfl HFI.out
    · have hem := isEmpty_str h0
      have HX := hide (HXY.out h0)
      clear h0 HXY HCP HNO
      go_wp2_with fail
      refine (HLR.out w2).mono ?_
      rintro e w4 ⟨v4, rfl, ho4, hb4⟩
      obtain ⟨la, lc, rfl⟩ := ho4.shape
      have HB4 := hide (after HB2'.out hb4)
      have HO4 := hide ho4
      clear ho4 hb4 HLR
      obtain ⟨i2, hi2, hz0, hz1, hz2⟩ := info_parts infoPut
      obtain ⟨M, hM⟩ : ∃ M, M = L ++ [(24, ByteArray.empty)] := ⟨_, rfl⟩
      rw [← hM] at HX
      have hl3 := HL3.out
      have HME : Hid (M = [] ++ L ++ [(24, ByteArray.empty)]) := by show _ = _; rw [hM]; rfl
      have HML : Hid (M.length ≤ 1048576) := by show M.length ≤ _; rw [hM]; simp; omega
      have HMB : Hid (∀ x ∈ M, x.2.size ≤ 1048576 ∧ -9223372036854775808 ≤ x.1 ∧ x.1 ≤ 9223372036854775807) := fun x hx => by
        rw [hM] at hx
        simp only [List.mem_append, List.mem_cons, List.not_mem_nil, or_false] at hx
        rcases hx with hx | rfl
        · have := HLB.out x hx
          exact ⟨by omega, by omega, by omega⟩
        · exact ⟨by decide, by decide, by decide⟩
      obtain ⟨U, hU⟩ : ∃ U, U = w4.alloc (Obj.cells #[] 58) := ⟨_, rfl⟩
      have HUE := hide hU
      have hbU : Below w4.heap.size w4 U := by rw [hU]; exact (Below.refl _ _).alloc (Nat.le_refl _) _
      have hUo : U.ownsRow w4.heap.size 58 2 (.slice (some ⟨w4.heap.size, 0, none⟩) 0 0) 0 (vsPut []) := by
        rw [hU]; exact World.ownsRow_made w4 #[] 0 (Nat.le_refl _) (Nat.zero_le _) rfl
      have hsU : w4.heap.size ≤ U.heap.size := hbU.size
      have HRU := hide ((rd_of_ownN HO4.out).below hbU)
      have HVL : Hid ((vsPut L).length = L.length * 2) := vsPut_len L
      clear hM hbU
      go_wp2_with (first
        | (rw [← hU]; clear hU)
        | (at_builtin; refine wpList_append_rd rfl (.tmp 29) (.tmp 30) 38 rfl w4.heap.size 58 i2 (.agg #[.int .i64 0, .string ⟨#[]⟩]) 2 24 Tryz.underlying38 hi2 hz0 hz1 hz2 rfl (by decide) _ _ _ rfl hUo la L.length lc (vsPut L) rfl HRU.out HVL.out (vsPut_one L) (by unfold maxLen; omega) (by omega) hsU ?_; intro v5 w5 ho5 hg5; have hs5 : w4.heap.size ≤ w5.heap.size := Nat.le_trans hsU hg5.size)
        | (at_builtin; refine wpList_append_row (w0 := w5) rfl (.tmp 31) (.tmp 33) 38 rfl w4.heap.size 58 i2 (.agg #[.int .i64 0, .string ⟨#[]⟩]) 2 24 Tryz.underlying38 hi2 hz0 hz1 hz2 rfl (by decide) _ _ _ [.int .i64 24, .string ⟨#[]⟩] rfl ho5 rfl (put_one _ _) rfl (by omega) (by omega) hs5 rfl ?_; intro v6 w6 ho6 hg6; have hb6 : Below w4.heap.size w4 w6 := (((Below.refl _ _).alloc (Nat.le_refl _) (Obj.cells #[] 58)).trans (by rw [← HUE.out]; exact (grown_below hUo hg5 hsU).trans (grown_below ho5 hg6 hs5))); obtain ⟨x0, x1, x2, x3⟩ := HXC.out w6 (after HB4.out hb6)))
      have HB6 := hide (after HB4.out hb6)
      have ho6' : PutsOwn w6 w4.heap.size v6 M := by
        show World.ownsRow _ _ _ _ _ _ _
        rw [HME.out, List.length_append, List.length_append, vsPut_app, vsPut_app]
        exact ho6
      obtain ⟨a6, c6, rfl⟩ := ho6'.shape
      have hrM : Rd w6 a6 (vsPut M) := rd_of_ownN ho6'
      obtain ⟨RR, hRR⟩ : ∃ RR, RR = writesR ps ws ms q M := ⟨_, rfl⟩
      have HRR : Hid (R = RR) := by
        show _ = _
        rw [hR0.out, hRR, recoverR, writesR, if_pos HOK.out, if_pos HOK.out, HX.out]
        cases pWritesL M ps ws <;> rfl
      have HSZ : Hid (∀ s ∈ ps, s.size ≤ 1048576) := fun s h => by have := (ftlOk_parts HOK.out).1.2.2.1 s h; omega
      have HWR := hide (specWrites_fn a b e0 ps ws ms c d f c6 a6 q M w6 (HRD.out.1.below HB6.out) (HRD.out.2.1.below HB6.out) (HRD.out.2.2.below HB6.out) hl hm hn HSZ.out HML.out HMB.out hrM)
      rw [← hRR] at HWR
      clear hRR ho5 hg5 ho6 hg6 ho6' hrM hb6 hUo HRU hs5 hsU
      refine HWR.out.mono ?_
      rintro e w7 ⟨va, vf, rfl, hva, hvf, hb7⟩
      obtain ⟨a7, k7, rfl⟩ := owns3_shape hva
      obtain ⟨a8, c8, b8, d8, e8, f8, rfl⟩ := hvf.shape
      obtain ⟨V, hV⟩ : ∃ V, V = w7.alloc (Obj.cells #[.slice a8 RR.2.1.1.length c8, .slice b8 RR.2.1.2.1.length d8, .slice e8 RR.2.1.2.2.1.length f8, .int .i64 RR.2.1.2.2.2] 34) := ⟨_, rfl⟩
      have hbV : Below w7.heap.size w7 V := by rw [hV]; exact (Below.refl _ _).alloc (Nat.le_refl _) _
      have hG : C4 V w7.heap.size (.slice a8 RR.2.1.1.length c8) (.slice b8 RR.2.1.2.1.length d8) (.slice e8 RR.2.1.2.2.1.length f8) (.int .i64 RR.2.1.2.2.2) := by rw [hV]; exact c4_new _ _ _ _ _ _
      have hB := after HB6.out (after hb7 hbV)
      obtain ⟨⟨y0, y1, y2, y3⟩, yf⟩ := HY.out V hB
      have yf0 := yf 0
      have yf1 := yf 1
      have yf2 := yf 2
      have yf3 := yf 3
      have hlo : A2.heap.size ≤ w6.heap.size := HB6.out.size
      have HFI := hide (fun n : Nat => hRF.out (V.drewN n) (V.drewN n) (.agg #[.slice a8 RR.2.1.1.length c8, .slice b8 RR.2.1.2.1.length d8, .slice e8 RR.2.1.2.2.1.length f8, .int .i64 RR.2.1.2.2.2]) (.slice a8 RR.2.1.1.length c8) (.slice b8 RR.2.1.2.1.length d8) (.slice e8 RR.2.1.2.2.1.length f8) (.int .i64 RR.2.1.2.2.2) (.slice a7 RR.1.length k7) RR.1 RR.2.1.1 RR.2.1.2.1 RR.2.1.2.2.1 RR.2.1.2.2.2 (after_drew (hB) n) (show ActsOwn (V.drewN n) A2.heap.size _ RR.1 from owns_mono (owns_below hva (after_drew hbV n)) hlo) (show FtlOwn (V.drewN n) A2.heap.size _ RR.2.1.1 RR.2.1.2.1 RR.2.1.2.2.1 RR.2.1.2.2.2 from ftlOwn_mono (hvf.below (after_drew hbV n)) hlo) rfl RR.2.2 HRR.out)
      have m3 : w.heap.size + 1 ≠ w7.heap.size := by have := HSA2.out; have := hb7.size; omega
      have hS4 := hG.1
      obtain ⟨g0, g1, g2, g3⟩ := id hS4
      clear hva hvf hb7 hbV hG hB yf hlo HWR x0 x1 x2 x3 HXC
      generalize hg : w7.heap.size = G at g0 g1 g2 g3 m3 hS4 ⊢
      go_wp2_with fail
      rw [← hV]
      clear hV
      go_region_held (fun u => u.cell? ⟨G, 0, none⟩ = some (.slice a8 RR.2.1.1.length c8) ∧ u.cell? ⟨G, 1, none⟩ = some (.slice b8 RR.2.1.2.1.length d8) ∧ u.cell? ⟨G, 2, none⟩ = some (.slice e8 RR.2.1.2.2.1.length f8) ∧ u.cell? ⟨G, 3, none⟩ = some (.int .i64 RR.2.1.2.2.2))
        (first | assumption | go_keep | exact ⟨cell_other (cell_other (cell_other (cell_other hS4.1 m3) m3) m3) m3, cell_other (cell_other (cell_other (cell_other hS4.2.1 m3) m3) m3) m3, cell_other (cell_other (cell_other (cell_other hS4.2.2.1 m3) m3) m3) m3, cell_other (cell_other (cell_other (cell_other hS4.2.2.2 m3) m3) m3) m3⟩)
        (fail)
      go_wp2
      exact bodyPost_ret (v := .tuple #[.slice a7 RR.1.length k7, .agg #[.slice a8 RR.2.1.1.length c8, .slice b8 RR.2.1.2.1.length d8, .slice e8 RR.2.1.2.2.1.length f8, .int .i64 RR.2.1.2.2.2], .bool RR.2.2]) (by simp [results, Tryz.results19, go_sem, y0, y1, y2, y3]) rfl (HFI.out _)
end Go.Proofs.YtdicjbabnknjhaaGreat
