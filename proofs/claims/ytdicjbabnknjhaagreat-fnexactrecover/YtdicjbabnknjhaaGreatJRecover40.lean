/-
  What the laws' walks carry along of rows of acts: read, owned, marked; the laws' helpers over them.
  What Plan answers, of both: in the form that its law's walk takes.
  Contract of the specification's Writes, of whatever came in.
-/
import Derived.Test.YtdicjbabnknjhaaGreatJRecover39
import Derived.Test.YtdicjbabnknjhaaGreatJRecover31
import Derived.Test.YtdicjbabnknjhaaGreatJRecover33
import Derived.Test.YtdicjbabnknjhaaGreatJRecover34
import Derived.Test.YtdicjbabnknjhaaGreatJRecover30
namespace Go.Proofs.YtdicjbabnknjhaaGreat
open Go.RowKit

def ActsRd (w : World) (v : Value) (cs : List (Int × Int × ByteArray)) : Prop := ∃ a c, v = .slice a cs.length c ∧ Rd w a (vsAct cs)
def ActsMk (w : World) (base : Nat) (v : Value) (n q : Nat) : Prop := w.ownsRow base 71 3 v n (marksA q n)
theorem rd_of_own3 {w : World} {base : Nat} {e : TypeId} {a : Option Addr} {n c : Nat} {xs : List Value} (h : w.ownsRow base e 3 (.slice a n c) n xs) : Rd w a xs := by
  rcases id h with ⟨hl, ⟨_, rfl⟩ | ⟨g, cap, cur, he, -⟩⟩
  · left; simpa using hl
  · simp at he
    obtain ⟨rfl, rfl⟩ := he
    refine .inr ⟨g, 0, rfl, fun i v hv => ?_⟩
    have hi : i < n * 3 := by
      rcases Nat.lt_or_ge i xs.length with h' | h'
      · omega
      · simp [h'] at hv
    rw [Nat.zero_add, h.cellAt i (by omega)]
    exact hv
theorem ActsOwn.shape {u : World} {base : Nat} {v : Value} {cs : List (Int × Int × ByteArray)} (h : ActsOwn u base v cs) : ∃ a c, v = .slice a cs.length c := owns3_shape h
theorem ActsOwn.rd {u : World} {base : Nat} {v : Value} {cs : List (Int × Int × ByteArray)} (h : ActsOwn u base v cs) : ActsRd u v cs := by
  obtain ⟨a, c, rfl⟩ := h.shape
  exact ⟨a, c, rfl, rd_of_own3 h⟩
theorem ActsRd.below {u u' : World} {v : Value} {cs : List (Int × Int × ByteArray)} (h : ActsRd u v cs) (hb : Below u.heap.size u u') : ActsRd u' v cs := by
  obtain ⟨a, c, rfl, h1⟩ := h
  exact ⟨a, c, rfl, h1.below hb⟩
theorem ActsOwn.below {u u' : World} {base : Nat} {v : Value} {cs : List (Int × Int × ByteArray)} (h : ActsOwn u base v cs) (hb : Below u.heap.size u u') : ActsOwn u' base v cs := owns_below h hb
theorem ActsMk.below {u u' : World} {base : Nat} {v : Value} {n q : Nat} (h : ActsMk u base v n q) (hb : Below u.heap.size u u') : ActsMk u' base v n q := owns_below h hb
theorem ActsOwn.only {u u' : World} {base : Nat} {v : Value} {cs : List (Int × Int × ByteArray)} {L : List (Option Nat)} (h : ActsOwn u base v cs) (hO : OnlyIn u u' L) (hn : ∀ k, some k ∈ bk v → some k ∉ L) : ActsOwn u' base v cs := by
  obtain ⟨a, c, rfl⟩ := h.shape
  exact hO.owns h (fun k hk => hn k (by rw [bk_slice, hk]; simp))
theorem ActsMk.only {u u' : World} {base : Nat} {v : Value} {n q : Nat} {L : List (Option Nat)} (h : ActsMk u base v n q) (hO : OnlyIn u u' L) (hn : ∀ k, some k ∈ bk v → some k ∉ L) : ActsMk u' base v n q := by
  obtain ⟨a, c, rfl⟩ := owns3_shape h
  exact hO.owns h (fun k hk => hn k (by rw [bk_slice, hk]; simp))
theorem ActsOwn.blk {u : World} {base : Nat} {v : Value} {cs : List (Int × Int × ByteArray)} (h : ActsOwn u base v cs) {k : Nat} (hk : some k ∈ bk v) : base ≤ k ∧ k < u.heap.size := by
  obtain ⟨a, c, rfl⟩ := h.shape
  rw [bk_slice] at hk
  simp only [List.mem_cons, List.not_mem_nil, or_false] at hk
  exact World.ownsRow.lt h k hk.symm
theorem acts_eq {u : World} {v v' : Value} {cs : List (Int × Int × ByteArray)} (h : ActsRd u v cs) (h' : ActsRd u v' cs) (hl : cs.length ≤ 1048576) :
    Calls Tryz.prog 11 #[v, v'] u fun e w' => e = .returned (.bool true) ∧ Below u.heap.size u w' := by
  obtain ⟨a, c, rfl, h1⟩ := h
  obtain ⟨a', c', rfl, h1'⟩ := h'
  exact eqActS_same a a' cs c c' u h1 h1' hl
theorem acts_mark {u : World} {base : Nat} {v : Value} {cs : List (Int × Int × ByteArray)} {q : Nat} (h : ActsOwn u base v cs) (hl : cs.length ≤ 1048576) (_hq0 : 0 < q) (hq : q ≤ 1000000) :
    Calls Tryz.prog 16 #[v, .int .i64 q] u fun e w' => e = .returned (.int .i64 ((q + cs.length * 3 : Nat) : Int)) ∧ ActsMk w' base v cs.length q ∧ OnlyIn u w' (bk v) := by
  obtain ⟨a, c, rfl⟩ := h.shape
  refine (markActS_any (.slice a cs.length c) cs.length _ base q u h hl (by omega)).mono ?_
  rintro e w' ⟨rfl, k1, hg⟩
  exact ⟨rfl, k1, OnlyIn.of_grown hg⟩
theorem acts_held {u : World} {base : Nat} {v : Value} {n q : Nat} (h : ActsMk u base v n q) (hl : n ≤ 1048576) (_hq0 : 0 < q) (hq : q ≤ 1000000) :
    Calls Tryz.prog 17 #[v, .int .i64 q] u fun e w' => e = .returned (.int .i64 ((q + n * 3 : Nat) : Int)) ∧ Below u.heap.size u w' :=
  heldActS_any v n base q u h hl (by omega)
/-- Acts and what is mounted lie apart: their rows are of other kinds. -/
theorem acts_ftl_apart {u : World} {base base' : Nat} {v v' : Value} {cs : List (Int × Int × ByteArray)} {ps : List ByteArray} {ws ms : List Int} {q : Int} (h : ActsOwn u base v cs) (h' : FtlOwn u base' v' ps ws ms q) : (∀ k, some k ∈ bk v → some k ∉ bk v') ∧ ∀ k, some k ∈ bk v' → some k ∉ bk v := by
  obtain ⟨a, c, rfl⟩ := h.shape
  obtain ⟨v1, v2, v3, rfl, o1, o2, o3, -⟩ := h'
  have key : ∀ k, some k ∈ bk (.slice a cs.length c) → some k ∉ bk (.agg #[v1, v2, v3, .int .i64 q]) := by
    intro k hk hk'
    rw [bk_slice] at hk
    simp only [List.mem_cons, List.not_mem_nil, or_false] at hk
    simp only [bk, List.map_cons, List.map_nil, List.mem_cons, List.not_mem_nil, or_false, Value.ownBlock] at hk'
    have hk := hk.symm
    rcases hk' with e | e | e | e
    · exact kind_ne2 h o1 (by decide) k hk e.symm
    · exact kind_ne2 h o2 (by decide) k hk e.symm
    · exact kind_ne2 h o3 (by decide) k hk e.symm
    · cases e
  exact ⟨key, fun k hk hk' => key k hk' hk⟩
end Go.Proofs.YtdicjbabnknjhaaGreat

namespace Go.Proofs.YtdicjbabnknjhaaGreat
open Go.RowKit

theorem specPlan_fn (a b e0 : Option Addr) (ps : List ByteArray) (ws ms : List Int) (c d f : Nat) (q s : Int) (t : ByteArray) (w : World) (hp : Rd w a (vsString ps)) (hw : Rd w b (vsInt ws)) (hms : Rd w e0 (vsInt ms)) (hl : ps.length ≤ 1048576) (hm : ws.length ≤ 1048576) (hn : ms.length ≤ 1048576) (hs : ∀ s ∈ ps, s.size ≤ 1048576) (ht : t.size ≤ 1048576) (hs0 : -9223372036854775808 ≤ s) (hs1 : s ≤ 9223372036854775807) :
    Calls Tryz.prog 60 #[.agg #[.slice a ps.length c, .slice b ws.length d, .slice e0 ms.length f, .int .i64 q], .int .i64 s, .string t] w fun e w' => PlanIs w w' e (planR ps ws ms q s t) := by
  cases hok : ftlOkB ps ws ms q with
  | true =>
    refine (specPlan_ok a b e0 ps ws ms c d f q s t w hp hw hms hok ht hs0 hs1).mono ?_
    intro e w' h
    exact planIs_of hok h
  | false =>
    refine (specPlan_bad a b e0 ps ws ms c d f q s t w hp hw hms hl hm hn hs hok).mono ?_
    rintro e w' ⟨va, vf, rfl, ha, hf, hb⟩
    unfold planR
    rw [if_neg (by rw [hok]; decide)]
    exact ⟨va, vf, rfl, ha, hf, hb⟩
theorem planR_len (ps : List ByteArray) (ws ms : List Int) (q s : Int) (t : ByteArray) : (planR ps ws ms q s t).1.length ≤ 2000 ∧ (planR ps ws ms q s t).2.1.1.length ≤ 2000 ∧ (planR ps ws ms q s t).2.1.2.1.length ≤ 2000 ∧ (planR ps ws ms q s t).2.1.2.2.1.length ≤ 2000 := by
  unfold planR
  split
  · next hok =>
    obtain ⟨hch, hmm, -⟩ := ftlOk_parts hok
    split
    · exact ⟨Nat.zero_le _, by show ps.length ≤ _; rw [hch.1]; decide, by show ws.length ≤ _; rw [hch.2.1]; decide, by show ms.length ≤ _; rw [← hmm, mMap_len]; decide⟩
    · next r hr =>
      obtain ⟨h1, h2⟩ := pPlan_right hch hr
      exact ⟨by show r.2.2.length ≤ _; omega, by show r.1.length ≤ _; rw [h1.1]; decide, by show r.2.1.length ≤ _; rw [h1.2.1]; decide, by show (mMap r.1).length ≤ _; rw [mMap_len]; decide⟩
  · exact ⟨by decide, by decide, by decide, by decide⟩

end Go.Proofs.YtdicjbabnknjhaaGreat

namespace Go.Proofs.YtdicjbabnknjhaaGreat
open Go.RowKit

/-- 'append(out, more...)' of rows of acts of the call's own. -/
theorem wpList_append_acts {P : Program} {w : World} {ops : Array Oper} {rest : List Oper} {o : Oper} {a : Act} {Q : Exit → Act → World → Prop} (hgd : o.guard = none) (s x : Operand) (t : TypeId)
    (ho : o.op = .call { callee := .builtin .append, args := #[s, x], argTypes := #[t, t] })
    (base base' : Nat) (e : TypeId) (i : TypeInfo) (z : Value) (size bytes : Nat) (ht : P.underlying t = some (.slice e)) (hi : P.info? e = some i) (hz : i.zero = some z)
    (hsize : i.size = size) (hby : i.bytes = bytes) (hzs : z.cells.size = size) (hsz : 0 < size)
    (v : Value) (n : Nat) (xs : List Value) (hs : a.eval s = v) (hown : w.ownsRow base e size v n xs)
    (v2 : Value) (m : Nat) (news : List Value) (hx : a.eval x = v2) (hown2 : w.ownsRow base' e size v2 m news) (h1 : ∀ u ∈ news, u.oneCell' = true)
    (hbytes : (n + m) * bytes ≤ 140737488355328) (hn : n + m ≤ 140737488355328) (hbase : base ≤ w.heap.size)
    (h : ∀ v' w', w'.ownsRow base e size v' (n + m) (xs ++ news) → w.grownBy w' v.ownBlock → wpList P ops Q rest (a.put o.dst v') w') : wpList P ops Q (o :: rest) a w := by
  rcases id hown2 with ⟨hl, ⟨rfl, rfl⟩ | ⟨g, cap, cur, rfl, -⟩⟩
  · have hnil : news = [] := List.eq_nil_of_length_eq_zero (by simpa using hl)
    subst hnil
    refine wpList_append_own_none hgd s x t ho base e i size ht hi v n xs hs hown hx ?_
    exact h v w (by simpa using hown) (World.grownBy.refl _ _)
  · refine wpList_append_own _ hgd s x t ho base e i z size bytes ht hi hz hsize hby hzs hsz v n xs hs hown ⟨g, 0, none⟩ m cap news hx hl (hown2.cells (g := g) rfl) h1 (by unfold maxLen; omega) hbytes hbase ?_
    intro v' w' h2 h3 _
    exact h v' w' h2 h3
theorem acts_one (cs : List (Int × Int × ByteArray)) : ∀ u ∈ vsAct cs, u.oneCell' = true := by
  intro u hu
  unfold vsAct at hu
  rw [List.mem_flatMap] at hu
  obtain ⟨x, -, hx⟩ := hu
  simp only [List.mem_cons, List.not_mem_nil, or_false] at hx
  rcases hx with rfl | rfl | rfl <;> rfl

/-- What is written so far: the Ftl in block G, all acts. -/
def WSt (w : World) (G base : Nat) (v : Value) (L : List (Int × ByteArray)) (R : Option (List ByteArray × List Int × List (Int × Int × ByteArray))) (k : Nat) : Prop :=
  ∃ a c b d e f ps ws ms q cs, w.heap[G]? = some (.cells #[.slice a (List.length ps) c, .slice b (List.length ws) d, .slice e (List.length ms) f, .int .i64 q] 34 (0, 0)) ∧ base ≤ G ∧
    FtlOwn w base (.agg #[.slice a ps.length c, .slice b ws.length d, .slice e ms.length f, .int .i64 q]) ps ws ms q ∧ ActsOwn w base v cs ∧ ftlOkB ps ws ms q = true ∧ pWrites (L.drop k) ps ws cs = R ∧ cs.length ≤ 1571 * k
theorem WSt.below {w w' : World} {G base : Nat} {v : Value} {L : List (Int × ByteArray)} {R : Option (List ByteArray × List Int × List (Int × Int × ByteArray))} {k : Nat} (h : WSt w G base v L R k) (hb : Below w.heap.size w w') : WSt w' G base v L R k := by
  obtain ⟨a, c, b, d, e, f, ps, ws, ms, q, cs, h0, hB, h1, h2, h3⟩ := h
  exact ⟨a, c, b, d, e, f, ps, ws, ms, q, cs, (hb.block G (lt_of_block h0)).trans h0, hB, h1.below hb, h2.below hb, h3⟩

/-- What a plan leaves: its Ftl in block G2. -/
def NSt (u wx : World) (G2 : Nat) (a1 : Option Addr) (k1 : Nat) (ra : List (Int × Int × ByteArray)) (a : Option Addr) (c : Nat) (b : Option Addr) (d : Nat) (e : Option Addr) (f : Nat) (rp : List ByteArray) (rw rm : List Int) (rq : Int) : Prop :=
  C4 wx G2 (.slice a rp.length c) (.slice b rw.length d) (.slice e rm.length f) (.int .i64 rq) ∧ u.heap.size ≤ G2 ∧ ActsOwn wx u.heap.size (.slice a1 ra.length k1) ra ∧
    FtlOwn wx u.heap.size (.agg #[.slice a rp.length c, .slice b rw.length d, .slice e rm.length f, .int .i64 rq]) rp rw rm rq ∧ Below u.heap.size u wx
theorem nst_late {u w4 : World} {a1 : Option Addr} {k1 : Nat} {ra : List (Int × Int × ByteArray)} {a : Option Addr} {c : Nat} {b : Option Addr} {d : Nat} {e : Option Addr} {f : Nat} {rp : List ByteArray} {rw rm : List Int} {rq : Int} {t : TypeId} (ha : ActsOwn w4 u.heap.size (.slice a1 ra.length k1) ra)
    (hf : FtlOwn w4 u.heap.size (.agg #[.slice a rp.length c, .slice b rw.length d, .slice e rm.length f, .int .i64 rq]) rp rw rm rq) (hb : Below u.heap.size u w4) : NSt u (w4.alloc (Obj.cells #[.slice a rp.length c, .slice b rw.length d, .slice e rm.length f, .int .i64 rq] t)) w4.heap.size a1 k1 ra a c b d e f rp rw rm rq := by
  have hk : Below w4.heap.size w4 (w4.alloc (Obj.cells #[.slice a rp.length c, .slice b rw.length d, .slice e rm.length f, .int .i64 rq] t)) := (Below.refl _ _).alloc (Nat.le_refl _) _
  exact ⟨c4_new _ _ _ _ _ _, hb.size, ha.below hk, hf.below hk, after hb hk⟩
theorem nst_early {u w4 : World} {a1 : Option Addr} {k1 : Nat} {ra : List (Int × Int × ByteArray)} {a : Option Addr} {c : Nat} {b : Option Addr} {d : Nat} {e : Option Addr} {f : Nat} {rp : List ByteArray} {rw rm : List Int} {rq : Int} {z0 z1 z2 z3 : Value} (hz : C4 w4 u.heap.size z0 z1 z2 z3) (ha : ActsOwn w4 (u.heap.size + 1) (.slice a1 ra.length k1) ra)
    (hf : FtlOwn w4 (u.heap.size + 1) (.agg #[.slice a rp.length c, .slice b rw.length d, .slice e rm.length f, .int .i64 rq]) rp rw rm rq) (hb : Below u.heap.size u w4) : NSt u ((((w4.setCell ⟨u.heap.size, 0, none⟩ (.slice a rp.length c)).setCell ⟨u.heap.size, 1, none⟩ (.slice b rw.length d)).setCell ⟨u.heap.size, 2, none⟩ (.slice e rm.length f)).setCell ⟨u.heap.size, 3, none⟩ (.int .i64 rq)) u.heap.size a1 k1 ra a c b d e f rp rw rm rq := by
  have hl : u.heap.size < u.heap.size + 1 := by omega
  refine ⟨(((hz.set0 _).set1 _).set2 _).set3 _, Nat.le_refl _, ?_, ?_, ((((hb.setCell (p := ⟨u.heap.size, 0, none⟩) (Nat.le_refl _) _).setCell (p := ⟨u.heap.size, 1, none⟩) (Nat.le_refl _) _).setCell (p := ⟨u.heap.size, 2, none⟩) (Nat.le_refl _) _).setCell (p := ⟨u.heap.size, 3, none⟩) (Nat.le_refl _) _)⟩
  · exact owns_mono (ownsRow_setCell_below (ownsRow_setCell_below (ownsRow_setCell_below (ownsRow_setCell_below ha (a := ⟨u.heap.size, 0, none⟩) hl _) (a := ⟨u.heap.size, 1, none⟩) hl _) (a := ⟨u.heap.size, 2, none⟩) hl _) (a := ⟨u.heap.size, 3, none⟩) hl _) (by omega)
  · obtain ⟨v1, v2, v3, hv, o1, o2, o3, hh⟩ := hf
    have key : ∀ {eT : TypeId} {size n' : Nat} {v : Value} {xs : List Value}, w4.ownsRow (u.heap.size + 1) eT size v n' xs → ((((w4.setCell ⟨u.heap.size, 0, none⟩ (.slice a rp.length c)).setCell ⟨u.heap.size, 1, none⟩ (.slice b rw.length d)).setCell ⟨u.heap.size, 2, none⟩ (.slice e rm.length f)).setCell ⟨u.heap.size, 3, none⟩ (.int .i64 rq)).ownsRow u.heap.size eT size v n' xs := fun ho =>
      owns_mono (ownsRow_setCell_below (ownsRow_setCell_below (ownsRow_setCell_below (ownsRow_setCell_below ho (a := ⟨u.heap.size, 0, none⟩) hl _) (a := ⟨u.heap.size, 1, none⟩) hl _) (a := ⟨u.heap.size, 2, none⟩) hl _) (a := ⟨u.heap.size, 3, none⟩) hl _) (by omega)
    exact ⟨v1, v2, v3, hv, key o1, key o2, key o3, hh⟩
theorem vsAct_app (xs ys : List (Int × Int × ByteArray)) : vsAct xs ++ vsAct ys = vsAct (xs ++ ys) := by simp [vsAct]

set_option maxRecDepth 100000 in
set_option maxHeartbeats 12800000 in
theorem specWrites_fn (a b e0 : Option Addr) (ps : List ByteArray) (ws ms : List Int) (c d f lc : Nat) (la : Option Addr) (q : Int) (L : List (Int × ByteArray)) (w : World) (hp : Rd w a (vsString ps)) (hw : Rd w b (vsInt ws)) (hms : Rd w e0 (vsInt ms)) (hl : ps.length ≤ 1048576) (hm : ws.length ≤ 1048576) (hn : ms.length ≤ 1048576) (hs : ∀ s ∈ ps, s.size ≤ 1048576) (hLn : L.length ≤ 1048576) (hLb : ∀ x ∈ L, x.2.size ≤ 1048576 ∧ -9223372036854775808 ≤ x.1 ∧ x.1 ≤ 9223372036854775807) (hd : Rd w la (vsPut L)) :
    Calls Tryz.prog 28 #[.agg #[.slice a ps.length c, .slice b ws.length d, .slice e0 ms.length f, .int .i64 q], .slice la L.length lc] w fun e w' => PlanIs w w' e (writesR ps ws ms q L) := by
  obtain ⟨R, hR⟩ : ∃ R, R = writesR ps ws ms q L := ⟨_, rfl⟩
  rw [← hR]
  obtain ⟨A, hA⟩ : ∃ A, A = w.alloc (Obj.cells #[.slice a ps.length c, .slice b ws.length d, .slice e0 ms.length f, .int .i64 q] 34) := ⟨_, rfl⟩
  obtain ⟨A2, hA2⟩ : ∃ A2, A2 = A.alloc (Obj.cells #[.slice none 0 0, .slice none 0 0, .slice none 0 0, .int .i64 0] 34) := ⟨_, rfl⟩
  obtain ⟨A3, hA3⟩ : ∃ A3, A3 = A2.alloc (Obj.cells #[] 71) := ⟨_, rfl⟩
  have hsA : A.heap.size = w.heap.size + 1 := by rw [hA]; simp
  have hsA2 : A2.heap.size = w.heap.size + 1 + 1 := by rw [hA2]; simp [hsA]
  have hb0 : Below w.heap.size w A := by rw [hA]; exact (Below.refl _ _).alloc (Nat.le_refl _) _
  have hb1 : Below A.heap.size A A2 := by rw [hA2]; exact (Below.refl _ _).alloc (Nat.le_refl _) _
  have hb3 : Below A2.heap.size A2 A3 := by rw [hA3]; exact (Below.refl _ _).alloc (Nat.le_refl _) _
  have hb2 := after hb0 hb1
  have hb23 := after hb2 hb3
  have k1 : C4 A2 (w.heap.size + 1) (.slice none 0 0) (.slice none 0 0) (.slice none 0 0) (.int .i64 0) := by
    have : C4 A2 A.heap.size (.slice none 0 0) (.slice none 0 0) (.slice none 0 0) (.int .i64 0) := by rw [hA2]; exact c4_new _ _ _ _ _ _
    rw [hsA] at this
    exact this
  have k0 : C4 A3 w.heap.size (.slice a ps.length c) (.slice b ws.length d) (.slice e0 ms.length f) (.int .i64 q) := by
    have : C4 A w.heap.size (.slice a ps.length c) (.slice b ws.length d) (.slice e0 ms.length f) (.int .i64 q) := by rw [hA]; exact c4_new _ _ _ _ _ _
    exact (this.below hb1).below hb3
  have hnone : ActsOwn A3 A2.heap.size (.slice (some ⟨A2.heap.size, 0, none⟩) 0 0) [] := by
    rw [hA3]; exact World.ownsRow_made A2 #[] 0 (Nat.le_refl _) (Nat.zero_le _) rfl
  have HFO := hide (specFtlOk_any a b e0 ps ws ms c d f q A3 (hp.below hb23) (hw.below hb23) (hms.below hb23) hl hm hn hs)
  have HRD := hide (And.intro (hp.below hb23) (And.intro (hw.below hb23) (And.intro (hms.below hb23) (hd.below hb23))))
  have HB2 := hide (And.intro hb2 hb3)
  have HK1 := hide k1
  have HK0 := hide k0
  have HNONE := hide hnone
  have HSA2 := hide hsA2
  have HLB := hide hLb
  have hR0 := hide hR
  obtain ⟨⟨x0, x1, x2, x3⟩, -⟩ := id k0
  clear hp hw hms hs hd hb0 hb1 hb2 hb3 hb23 k1 k0 hnone hLb hR
  clear hsA hsA2
  have hRF : Hid (∀ (V w5 : World) (vf : Value) (y0 y1 y2 y3 : Value) (va : Value) (cs : List (Int × Int × ByteArray)) (PS : List ByteArray) (WS MS : List Int) (Q : Int), Below A2.heap.size A2 w5 → ActsOwn w5 A2.heap.size va cs → FtlOwn w5 A2.heap.size vf PS WS MS Q → V = w5 → ∀ F : Bool, R = (cs, (PS, WS, MS, Q), F) → PlanIs w ((((V.setCell ⟨w.heap.size + 1, 0, none⟩ y0).setCell ⟨w.heap.size + 1, 1, none⟩ y1).setCell ⟨w.heap.size + 1, 2, none⟩ y2).setCell ⟨w.heap.size + 1, 3, none⟩ y3) (.returned (.tuple #[va, vf, .bool F])) R) := by
    intro V w5 vf y0 y1 y2 y3 va cs PS WS MS Q hb5 ha hf hV F hRe
    subst hV
    have h := plan_fin HB2.out.1 hb5 ⟨Nat.le_refl _, hb5.size⟩ HK1.out ha hf V 0 y0 y1 y2 y3 (Below.refl _ _)
    subst hRe
    exact ⟨va, vf, rfl, h.1, h.2.1, h.2.2⟩
  go_enter Tryz.func28, Tryz.ntmps28
  go_wp2_with fail
  rw [← hA]
  rw [← hA2]
  rw [← hA3]
  rw [← HSA2.out]
  clear hA hA2 hA3
  refine HFO.out.mono ?_
  rintro e w1 ⟨rfl, hbx⟩
  have HB1 := hide hbx
  clear HFO x0 x1 x2 x3
  cases hok : ftlOkB ps ws ms q with
  | false =>
    have hk := HK1.out.below (after HB2.out.2 hbx)
    obtain ⟨⟨y0, y1, y2, y3⟩, yf⟩ := id hk
    have yf0 := yf 0
    have yf1 := yf 1
    have yf2 := yf 2
    have yf3 := yf 3
    have hRe : R = ([], ([], [], [], 0), false) := by rw [hR0.out, writesR, if_neg (by rw [hok]; decide)]
    have HFI := hide (hRF.out w1 w1 (.agg #[.slice none 0 0, .slice none 0 0, .slice none 0 0, .int .i64 0]) (.slice none 0 0) (.slice none 0 0) (.slice none 0 0) (.int .i64 0) _ [] [] [] [] 0 (after HB2.out.2 hbx) (HNONE.out.below hbx) (ftlOwn_zero _ _) rfl false hRe)
    clear hbx yf hk hok
    go_wp2
    exact bodyPost_ret (v := .tuple #[.slice (some ⟨A2.heap.size, 0, none⟩) 0 0, .agg #[.slice none 0 0, .slice none 0 0, .slice none 0 0, .int .i64 0], .bool false]) (by simp [results, Tryz.results28, go_sem, y0, y1, y2, y3]) rfl HFI.out
  | true =>
    obtain ⟨hch, hmm, hqq⟩ := ftlOk_parts hok
    have HCP : Hid (∀ u, Below A3.heap.size A3 u → Calls Tryz.prog 27 #[.agg #[.slice a ps.length c, .slice b ws.length d, .slice e0 ms.length f, .int .i64 q]] u fun e w' => ∃ a b e0 c d f, e = .returned (.agg #[.slice a ps.length c, .slice b ws.length d, .slice e0 ms.length f, .int .i64 q]) ∧ FtlOwn w' u.heap.size (.agg #[.slice a ps.length c, .slice b ws.length d, .slice e0 ms.length f, .int .i64 q]) ps ws ms q ∧ Below u.heap.size u w') := by
      intro u hu2
      refine (copy4_any a b e0 ps ws ms c d f q u (HRD.out.1.below hu2) (HRD.out.2.1.below hu2) (HRD.out.2.2.1.below hu2) hch.1 hch.2.1 (by rw [← hmm]; exact mMap_len ps)).mono ?_
      rintro e w' ⟨v, rfl, hf, hb⟩
      obtain ⟨a1, c1, b1, d1, e1, f1, rfl⟩ := hf.shape
      exact ⟨_, _, _, _, _, _, rfl, hf, hb⟩
    -- 'return none, l4Copy(f), false', wherever
    have HBK : Hid (∀ u, Below A3.heap.size A3 u → ftlOkB ps ws ms q = true → pWritesL L ps ws = none → R = ([], (ps, ws, ms, q), false)) := by
      intro u _ h1 h2
      rw [hR0.out, writesR, if_pos h1, h2]
    have HOK := hide hok
    have HXC : Hid (∀ u, Below A3.heap.size A3 u → u.cell? ⟨w.heap.size, 0, none⟩ = some (.slice a ps.length c) ∧ u.cell? ⟨w.heap.size, 1, none⟩ = some (.slice b ws.length d) ∧ u.cell? ⟨w.heap.size, 2, none⟩ = some (.slice e0 ms.length f) ∧ u.cell? ⟨w.heap.size, 3, none⟩ = some (.int .i64 q)) := fun u hu => (HK0.out.below hu).1
    have HY : Hid (∀ u, Below A3.heap.size A3 u → C4 u (w.heap.size + 1) (.slice none 0 0) (.slice none 0 0) (.slice none 0 0) (.int .i64 0)) := fun u hu => HK1.out.below (after HB2.out.2 hu)
    obtain ⟨x0, x1, x2, x3⟩ := HXC.out w1 hbx
    by_cases h8 : 8 < L.length
    · have hi : (8 : Int) < (L.length : Int) := by omega
      have HRE := hide (HBK.out w1 hbx hok (by rw [pWritesL, if_pos h8]))
      clear hok hch hmm hqq hbx HBK
      go_wp2_with fail
      refine (HCP.out w1 HB1.out).mono ?_
      rintro e w2 ⟨a2, b2, e2, c2, d2, f2, rfl, hf2, hb2⟩
      have hB := after HB1.out hb2
      obtain ⟨⟨y0, y1, y2, y3⟩, yf⟩ := HY.out w2 hB
      have yf0 := yf 0
      have yf1 := yf 1
      have yf2 := yf 2
      have yf3 := yf 3
      have HFI := hide (hRF.out w2 w2 (.agg #[.slice a2 ps.length c2, .slice b2 ws.length d2, .slice e2 ms.length f2, .int .i64 q]) (.slice a2 ps.length c2) (.slice b2 ws.length d2) (.slice e2 ms.length f2) (.int .i64 q) _ [] ps ws ms q (after HB2.out.2 hB) (HNONE.out.below hB) (ftlOwn_mono hf2 (Nat.le_trans HB2.out.2.size HB1.out.size)) rfl false HRE.out)
      clear hf2 hb2 hB yf x0 x1 x2 x3 HXC HY HCP
      go_wp2
      exact bodyPost_ret (v := .tuple #[.slice (some ⟨A2.heap.size, 0, none⟩) 0 0, .agg #[.slice a2 ps.length c2, .slice b2 ws.length d2, .slice e2 ms.length f2, .int .i64 q], .bool false]) (by simp [results, Tryz.results28, go_sem, y0, y1, y2, y3]) rfl HFI.out
    · have hi : ¬ (8 : Int) < (L.length : Int) := by omega
      have hltw : w.heap.size < w1.heap.size := lt_of_cell x0
      have hltA : A2.heap.size < w1.heap.size := by have := HB1.out.size; have := (HNONE.out.lt A2.heap.size rfl).2; omega
      obtain ⟨W2, hW2⟩ : ∃ W2, W2 = w1.alloc (Obj.cells #[] 71) := ⟨_, rfl⟩
      have hbW2 : Below w1.heap.size w1 W2 := by rw [hW2]; exact (Below.refl _ _).alloc (Nat.le_refl _) _
      have hall : ActsOwn W2 w1.heap.size (.slice (some ⟨w1.heap.size, 0, none⟩) 0 0) [] := by rw [hW2]; exact World.ownsRow_made w1 #[] 0 (Nat.le_refl _) (Nat.zero_le _) rfl
      have HALL := hide hall
      have HCQ := hide (HCP.out W2 (after HB1.out hbW2))
      have HBW2 := hide hbW2
      have HMQ := hide (And.intro hch (And.intro hmm hqq))
      clear hall hbW2 hok hch hmm hqq hbx
      go_wp2_with fail
      rw [← hW2]
      clear hW2
      refine HCQ.out.mono ?_
      rintro e w2 ⟨a2, b2, e2, c2, d2, f2, rfl, hf2, hb2⟩
      obtain ⟨V, hV⟩ : ∃ V, V = w2.alloc (Obj.cells #[.slice a2 ps.length c2, .slice b2 ws.length d2, .slice e2 ms.length f2, .int .i64 q] 34) := ⟨_, rfl⟩
      have hbV : Below w2.heap.size w2 V := by rw [hV]; exact (Below.refl _ _).alloc (Nat.le_refl _) _
      have HG : Hid (WSt V w2.heap.size w1.heap.size (.slice (some ⟨w1.heap.size, 0, none⟩) 0 0) L (pWrites L ps ws []) 0) :=
        ⟨a2, c2, b2, d2, e2, f2, ps, ws, ms, q, [], by rw [hV]; exact heap_alloc_new _ _, Nat.le_trans HBW2.out.size hb2.size, ftlOwn_mono (hf2.below hbV) HBW2.out.size, (HALL.out.below hb2).below hbV, HOK.out, rfl, by simp⟩
      have HBV : Hid (Below w1.heap.size w1 V) := after HBW2.out (after hb2 hbV)
      have HGL : Hid (w1.heap.size ≤ w2.heap.size) := Nat.le_trans HBW2.out.size hb2.size
      clear hf2 hb2 hbV HALL HCQ HBW2 x0 x1 x2 x3 hltw
      go_wp2_with fail
      rw [← hV]
      clear hV
      obtain ⟨R0, hR0'⟩ : ∃ R0, R0 = pWrites L ps ws [] := ⟨_, rfl⟩
      rw [← hR0'] at HG
      have HRL : Hid (pWritesL L ps ws = R0) := by show _ = _; rw [pWritesL, if_neg h8, hR0']
      clear hR0'
      generalize w2.heap.size = G at HG HGL ⊢
      obtain ⟨B1, hB1⟩ : ∃ B1, B1 = w1.heap.size := ⟨_, rfl⟩
      have HB1E := hide hB1
      rw [← hB1] at HG HGL HBV ⊢
      clear hB1
      go_loopw [8, 10] (fun v i wr => ∃ k : Nat, k ≤ L.length ∧ i = .int .i64 k ∧ Hid (WSt wr G B1 v L R0 k) ∧ Hid (Below B1 w1 wr)) (fun _ i _ => L.length - (intOf i).toNat)
      case atStart => exact ⟨0, Nat.zero_le _, rfl, HG, HBV⟩
      case round =>
        obtain ⟨k, hk, rfl, hst, hbr⟩ := hrel
        clear HG HBV
        have hbw1 : Below w1.heap.size w1 wr := by rw [← HB1E.out]; exact hbr.out
        by_cases hlt : k < L.length
        · obtain ⟨b1, o1, x, rfl, h0, h1, HX⟩ := rdPut_at (HRD.out.2.2.2.below (after HB1.out hbw1)) hlt
          obtain ⟨s, t⟩ := x
          have hki : (k : Int) < (L.length : Int) := by omega
          obtain ⟨a6, c6, b6, d6, e6, f6, p6, w6, m6, q6, cs6, hG, hBG, hF6, hA6, hok6, hpw6, hcl6⟩ := hst.out
          have g0 := wk_cell hG (i := 0) rfl
          have g1 := wk_cell hG (i := 1) rfl
          have g2 := wk_cell hG (i := 2) rfl
          have g3 := wk_cell hG (i := 3) rfl
          have HST := hide (And.intro hG (And.intro hF6 (And.intro hA6 (And.intro hok6 (And.intro hpw6 hcl6)))))
          obtain ⟨RR, hRR⟩ : ∃ RR, RR = planR p6 w6 m6 q6 s t := ⟨_, rfl⟩
          have hlb := HLB.out _ (List.mem_of_getElem? HX.out)
          have hpr := ftlOk_parts hok6
          obtain ⟨n0, c0, n2, d2', n4, f0, hsv, r0, r1, r2⟩ := hF6.rd
          injection hsv with hsv
          simp at hsv
          obtain ⟨⟨rfl, rfl⟩, ⟨rfl, rfl⟩, ⟨rfl, rfl⟩⟩ := hsv
          have HPL : Hid (∀ u, Below wr.heap.size wr u → Calls Tryz.prog 60 #[.agg #[.slice a6 p6.length c6, .slice b6 w6.length d6, .slice e6 m6.length f6, .int .i64 q6], .int .i64 s, .string t] u fun e w' => ∃ a1 k1 a c b d e0 f, e = .returned (.tuple #[.slice a1 RR.1.length k1, .agg #[.slice a RR.2.1.1.length c, .slice b RR.2.1.2.1.length d, .slice e0 RR.2.1.2.2.1.length f, .int .i64 RR.2.1.2.2.2], .bool RR.2.2]) ∧ ActsOwn w' u.heap.size (.slice a1 RR.1.length k1) RR.1 ∧ FtlOwn w' u.heap.size (.agg #[.slice a RR.2.1.1.length c, .slice b RR.2.1.2.1.length d, .slice e0 RR.2.1.2.2.1.length f, .int .i64 RR.2.1.2.2.2]) RR.2.1.1 RR.2.1.2.1 RR.2.1.2.2.1 RR.2.1.2.2.2 ∧ Below u.heap.size u w') := by
            intro u hu
            rw [hRR]
            refine (specPlan_fn a6 b6 e6 p6 w6 m6 c6 d6 f6 q6 s t u (r0.below hu) (r1.below hu) (r2.below hu) (by rw [hpr.1.1]; decide) (by rw [hpr.1.2.1]; decide) (by rw [← hpr.2.1, mMap_len]; decide) (fun s h => by have := hpr.1.2.2.1 s h; omega) hlb.1 hlb.2.1 hlb.2.2).mono ?_
            rintro e w' ⟨va, vf, rfl, hva, hvf, hb⟩
            obtain ⟨a1, k1, rfl⟩ := owns3_shape hva
            obtain ⟨a', c', b', d', e', f', rfl⟩ := hvf.shape
            exact ⟨_, _, _, _, _, _, _, _, rfl, hva, hvf, hb⟩
          have HNO : Hid (RR.2.2 = false → R0 = none) := by
            intro h
            rw [← hpw6]
            refine pWrites_none HX.out ?_
            cases hq : pPlan p6 w6 s t with
            | none => rfl
            | some r => rw [hRR, planR, if_pos hok6, hq] at h; cases h
          have HYES : Hid (RR.2.2 = true → ftlOkB RR.2.1.1 RR.2.1.2.1 RR.2.1.2.2.1 RR.2.1.2.2.2 = true ∧ pWrites (L.drop (k + 1)) RR.2.1.1 RR.2.1.2.1 (cs6 ++ RR.1) = R0 ∧ RR.1.length ≤ 1571) := by
            intro h
            cases hq : pPlan p6 w6 s t with
            | none => rw [hRR, planR, if_pos hok6, hq] at h; cases h
            | some r =>
              have h1 := pPlan_right hpr.1 hq
              rw [hRR, planR, if_pos hok6, hq]
              exact ⟨ftlOk_of h1.1, by rw [← hpw6, pWrites_some HX.out hq], h1.2⟩
          have hGl := lt_of_cell g0
          have hbl := lt_of_cell h0
          have HK : Hid (∀ u, Below wr.heap.size wr u → u.cell? ⟨G, 0, none⟩ = some (.slice a6 p6.length c6) ∧ u.cell? ⟨G, 1, none⟩ = some (.slice b6 w6.length d6) ∧ u.cell? ⟨G, 2, none⟩ = some (.slice e6 m6.length f6) ∧ u.cell? ⟨G, 3, none⟩ = some (.int .i64 q6) ∧ u.cell? ⟨b1, o1 + k * 2, none⟩ = some (.int .i64 s) ∧ u.cell? ⟨b1, o1 + k * 2 + 1, none⟩ = some (.string t)) := fun u hu =>
            ⟨(hu.cell (p := ⟨G, 0, none⟩) hGl).trans g0, (hu.cell (p := ⟨G, 1, none⟩) hGl).trans g1, (hu.cell (p := ⟨G, 2, none⟩) hGl).trans g2, (hu.cell (p := ⟨G, 3, none⟩) hGl).trans g3, (hu.cell (p := ⟨b1, o1 + k * 2, none⟩) hbl).trans h0, (hu.cell (p := ⟨b1, o1 + k * 2 + 1, none⟩) hbl).trans h1⟩
          obtain ⟨ra, ⟨rp, rww, rm, rq⟩, rok⟩ := RR
          have m1 : wr.heap.size ≠ G := by omega
          have m2 : wr.heap.size ≠ b1 := by omega
          clear hG hF6 hA6 hok6 hpw6 hcl6 hst hRR hlb hpr r0 r1 r2
          go_wp2_with fail
          go_cut [11, 12, 13] (fun x y z wx => ∃ a1 k1 a4 c4 b4 d4 e4 f4 G2, x = .slice a1 (List.length ra) k1 ∧ y = .pointer (some ⟨G2, 0, none⟩) ∧ z = .bool rok ∧ Hid (NSt wr wx G2 a1 k1 ra a4 c4 b4 d4 e4 f4 rp rww rm rq))
          case first =>
            go_region_held (fun u => u.cell? ⟨G, 0, none⟩ = some (.slice a6 p6.length c6) ∧ u.cell? ⟨G, 1, none⟩ = some (.slice b6 w6.length d6) ∧ u.cell? ⟨G, 2, none⟩ = some (.slice e6 m6.length f6) ∧ u.cell? ⟨G, 3, none⟩ = some (.int .i64 q6) ∧ u.cell? ⟨b1, o1 + k * 2, none⟩ = some (.int .i64 s) ∧ u.cell? ⟨b1, o1 + k * 2 + 1, none⟩ = some (.string t))
              (first | assumption | go_keep | exact ⟨cell_other (cell_other (cell_other (cell_other hS4.1 m1) m1) m1) m1, cell_other (cell_other (cell_other (cell_other hS4.2.1 m1) m1) m1) m1, cell_other (cell_other (cell_other (cell_other hS4.2.2.1 m1) m1) m1) m1, cell_other (cell_other (cell_other (cell_other hS4.2.2.2.1 m1) m1) m1) m1, cell_other (cell_other (cell_other (cell_other hS4.2.2.2.2.1 m2) m2) m2) m2, cell_other (cell_other (cell_other (cell_other hS4.2.2.2.2.2 m2) m2) m2) m2⟩)
              ((first
                | (go_at_call 60; refine (HPL.out (wr.alloc (Obj.cells #[.slice none 0 0, .slice none 0 0, .slice none 0 0, .int .i64 0] 34)).drew (((Below.refl _ _).alloc (Nat.le_refl _) _).drew)).mono ?_; rintro e w4 ⟨a1, k1, a4, c4, b4, d4, e4, f4, rfl, hpa, hpf, hb4⟩; have hsz4 : (wr.alloc (Obj.cells #[.slice none 0 0, .slice none 0 0, .slice none 0 0, .int .i64 0] 34)).drew.heap.size = wr.heap.size + 1 := World.size_alloc _ _; rw [hsz4] at hpa hpf; have HPA := hide hpa; have HPF := hide hpf; have HZ4 := hide (C4.below (show C4 (wr.alloc (Obj.cells #[.slice none 0 0, .slice none 0 0, .slice none 0 0, .int .i64 0] 34)).drew wr.heap.size _ _ _ _ from c4_new wr (.slice none 0 0) (.slice none 0 0) (.slice none 0 0) (.int .i64 0) 34) hb4); have HB4 : Hid (Below wr.heap.size wr w4) := (((Below.refl _ _).alloc (Nat.le_refl _) _).drew).trans (hb4.mono (by rw [hsz4]; omega)); have hS4 := HK.out w4 HB4.out; obtain ⟨⟨j0, j1, j2, j3⟩, jf⟩ := id HZ4.out; have jf0 := jf 0; have jf1 := jf 1; have jf2 := jf 2; have jf3 := jf 3; clear hpa hpf hb4 jf hsz4)
                | (go_at_call 60; refine (HPL.out wr.drew (after_drew (Below.refl _ _) 1)).mono ?_; rintro e w4 ⟨a1, k1, a4, c4, b4, d4, e4, f4, rfl, hpa, hpf, hb4⟩; have HPA : Hid (ActsOwn w4 wr.heap.size (.slice a1 ra.length k1) ra) := hpa; have HPF : Hid (FtlOwn w4 wr.heap.size (.agg #[.slice a4 rp.length c4, .slice b4 rww.length d4, .slice e4 rm.length f4, .int .i64 rq]) rp rww rm rq) := hpf; have HB4 : Hid (Below wr.heap.size wr w4) := after (after_drew (Below.refl _ _) 1) hb4; have hS4 := HK.out w4 HB4.out; clear hpa hpf hb4)))
            all_goals (first
              | (have HP := hide (nst_late (t := 34) HPA.out HPF.out HB4.out); clear HPL HK h0 h1 g0 g1 g2 g3 hS4; go_wp2_with fail; go_meet; exact ⟨_, _, _, _, _, _, _, _, _, rfl, rfl, rfl, HP⟩)
              | (have HP := hide (nst_early HZ4.out HPA.out HPF.out HB4.out); clear HPL HK h0 h1 g0 g1 g2 g3 hS4 j0 j1 j2 j3 jf0 jf1 jf2 jf3; go_wp2_with fail; go_meet; exact ⟨_, _, _, _, _, _, _, _, _, rfl, rfl, rfl, HP⟩))
          case rest =>
          obtain ⟨a1, k1, a4, c4, b4, d4, e4, f4, G2, rfl, rfl, rfl, HN⟩ := hcut
          clear HPL HK h0 h1 g0 g1 g2 g3
          obtain ⟨⟨⟨y0, y1, y2, y3⟩, -⟩, hG2, hac, hfc, hbc⟩ := HN.out
          have hbc1 := after hbw1 hbc
          cases rok with
          | false =>
            have HRE := hide (HBK.out wc (after HB1.out hbc1) HOK.out (by rw [HRL.out]; exact HNO.out rfl))
            have HBC := hide (after HB1.out hbc1)
            have HCQ := hide (HCP.out wc HBC.out)
            obtain ⟨x0, x1, x2, x3⟩ := HXC.out wc HBC.out
            clear hac hfc hbc hbc1 hbw1 HST HNO HYES HN y0 y1 y2 y3
            go_wp2_with fail
            refine HCQ.out.mono ?_
            rintro e w2 ⟨a9, b9, e9, c9, d9, f9, rfl, hf2, hb2⟩
            have hB := after HBC.out hb2
            obtain ⟨⟨y0, y1, y2, y3⟩, yf⟩ := HY.out w2 hB
            have yf0 := yf 0
            have yf1 := yf 1
            have yf2 := yf 2
            have yf3 := yf 3
            have HFI := hide (hRF.out w2 w2 (.agg #[.slice a9 ps.length c9, .slice b9 ws.length d9, .slice e9 ms.length f9, .int .i64 q]) (.slice a9 ps.length c9) (.slice b9 ws.length d9) (.slice e9 ms.length f9) (.int .i64 q) _ [] ps ws ms q (after HB2.out.2 hB) (HNONE.out.below hB) (ftlOwn_mono hf2 (Nat.le_trans HB2.out.2.size HBC.out.size)) rfl false HRE.out)
            clear hf2 hb2 hB yf x0 x1 x2 x3 HXC HY HCP
            go_wp2
            exact bodyPost_ret (v := .tuple #[.slice (some ⟨A2.heap.size, 0, none⟩) 0 0, .agg #[.slice a9 ps.length c9, .slice b9 ws.length d9, .slice e9 ms.length f9, .int .i64 q], .bool false]) (by simp [results, Tryz.results28, go_sem, y0, y1, y2, y3]) rfl HFI.out
          | true =>
            obtain ⟨hG, hF6, hA6, hok6, hpw6, hcl6⟩ := HST.out
            have hyes := HYES.out rfl
            have hGc := (hbc.block G (lt_of_block hG)).trans hG
            have hA8 : wc.ownsRow B1 71 3 u8 cs6.length (vsAct cs6) := hA6.below hbc
            have hne8 : u8.ownBlock ≠ some G := kind_ne hA8 hGc (by decide)
            have hlt8 : ∀ j, u8.ownBlock = some j → j < wr.heap.size := fun j hj => (hA6.lt j hj).2
            have hlo8 : ∀ j, u8.ownBlock = some j → B1 ≤ j := fun j hj => (hA6.lt j hj).1
            have hbase : B1 ≤ wc.heap.size := by have := (lt_of_block hGc); omega
            have hcl : cs6.length ≤ 12568 ∧ ra.length ≤ 1571 := ⟨by omega, hyes.2.2⟩
            have HQ8 : Hid (∀ (v' : Value) (w5 : World), w5.ownsRow B1 71 3 v' (cs6.length + ra.length) (vsAct cs6 ++ vsAct ra) → wc.grownBy w5 u8.ownBlock →
                (w5.cell? ⟨G2, 0, none⟩ = some (.slice a4 rp.length c4) ∧ w5.cell? ⟨G2, 1, none⟩ = some (.slice b4 rww.length d4) ∧ w5.cell? ⟨G2, 2, none⟩ = some (.slice e4 rm.length f4) ∧ w5.cell? ⟨G2, 3, none⟩ = some (.int .i64 rq)) ∧
                (∃ z0 z1 z2 z3, w5.cell? ⟨G, 0, none⟩ = some z0 ∧ w5.cell? ⟨G, 1, none⟩ = some z1 ∧ w5.cell? ⟨G, 2, none⟩ = some z2 ∧ w5.cell? ⟨G, 3, none⟩ = some z3) ∧ (∀ j, w5.frozen? ⟨G, j, none⟩ = false) ∧
                Hid (WSt ((((w5.setCell ⟨G, 0, none⟩ (.slice a4 rp.length c4)).setCell ⟨G, 1, none⟩ (.slice b4 rww.length d4)).setCell ⟨G, 2, none⟩ (.slice e4 rm.length f4)).setCell ⟨G, 3, none⟩ (.int .i64 rq)) G B1 v' L R0 (k + 1)) ∧
                Hid (Below B1 w1 ((((w5.setCell ⟨G, 0, none⟩ (.slice a4 rp.length c4)).setCell ⟨G, 1, none⟩ (.slice b4 rww.length d4)).setCell ⟨G, 2, none⟩ (.slice e4 rm.length f4)).setCell ⟨G, 3, none⟩ (.int .i64 rq)))) := by
              intro v' w5 hv' hg5
              have hG5 : w5.heap[G]? = _ := (hg5.block G (lt_of_block hGc) (fun e => hne8 e.symm)).trans hGc
              have hn2 : ∀ j, some (⟨G2, j, none⟩ : Addr).block ≠ u8.ownBlock := fun j e => by have := hlt8 G2 e.symm; omega
              refine ⟨⟨hg5.cell y0 (hn2 0), hg5.cell y1 (hn2 1), hg5.cell y2 (hn2 2), hg5.cell y3 (hn2 3)⟩, ⟨_, _, _, _, wk_cell hG5 (i := 0) rfl, wk_cell hG5 (i := 1) rfl, wk_cell hG5 (i := 2) rfl, wk_cell hG5 (i := 3) rfl⟩, fun j => wk_frozen hG5 j, ?_, ?_⟩
              · have hkv : v'.ownBlock ≠ some G := kind_ne hv' hG5 (by decide)
                obtain ⟨q1, q2, q3, hqv, o1, o2, o3, hh⟩ := hfc
                have key : ∀ {eT : TypeId} {size n' : Nat} {v : Value} {xs : List Value}, wc.ownsRow wr.heap.size eT size v n' xs → ((((w5.setCell ⟨G, 0, none⟩ (.slice a4 rp.length c4)).setCell ⟨G, 1, none⟩ (.slice b4 rww.length d4)).setCell ⟨G, 2, none⟩ (.slice e4 rm.length f4)).setCell ⟨G, 3, none⟩ (.int .i64 rq)).ownsRow B1 eT size v n' xs := fun {eT} {size} {n'} {v} {xs} ho => by
                  have hk1 : w5.ownsRow wr.heap.size eT size v n' xs := by
                    cases hob : v.ownBlock with
                    | none => exact ho.kept hg5 (.inl hob)
                    | some j => exact ho.kept hg5 (.inr (fun e => by rw [hob] at e; have := (ho.lt j hob).1; have := hlt8 j e.symm; omega))
                  have hkk : v.ownBlock ≠ some G := fun e => by have := (ho.lt G e).1; omega
                  exact owns_mono (ownsRow_setCell_other (ownsRow_setCell_other (ownsRow_setCell_other (ownsRow_setCell_other hk1 hkk _) hkk _) hkk _) hkk _) (by omega)
                refine ⟨a4, c4, b4, d4, e4, f4, rp, rww, rm, rq, cs6 ++ ra, wk_set (wk_set (wk_set (wk_set hG5 0 _) 1 _) 2 _) 3 _, by omega, ⟨q1, q2, q3, hqv, key o1, key o2, key o3, hh⟩, ?_, hyes.1, hyes.2.1, by rw [List.length_append]; omega⟩
                show World.ownsRow _ _ _ _ _ (cs6 ++ ra).length (vsAct (cs6 ++ ra))
                rw [← vsAct_app, List.length_append]
                exact ownsRow_setCell_other (ownsRow_setCell_other (ownsRow_setCell_other (ownsRow_setCell_other hv' hkv _) hkv _) hkv _) hkv _
              · have hb5 : Below B1 wc w5 := (Below.refl _ _).grown hg5 hbase (fun j hj => hlo8 j hj)
                have hbG : B1 ≤ G := by omega
                exact ((((hbr.out.trans ((hbc.mono (by omega)).trans hb5)).setCell (p := ⟨G, 0, none⟩) hbG _).setCell (p := ⟨G, 1, none⟩) hbG _).setCell (p := ⟨G, 2, none⟩) hbG _).setCell (p := ⟨G, 3, none⟩) hbG _
            obtain ⟨i2, hi2, hz0, hz1, hz2⟩ := info_parts infoAct
            have HAC := hide hac
            clear hG hF6 hA6 hok6 hpw6 hcl6 hyes hGc hne8 hlt8 hlo8 hac hfc hbc hbc1 hbw1 HST HNO HYES HN hbr
            go_wp2_with (at_builtin; go_must (refine wpList_append_acts rfl _ _ 31 rfl B1 wr.heap.size 71 i2 (.agg #[.int .i64 0, .int .i64 0, .string ⟨#[]⟩]) 3 32 Tryz.underlying31 hi2 hz0 hz1 hz2 rfl (by decide) _ _ _ rfl hA8 _ _ _ rfl HAC.out (acts_one ra) (by omega) (by omega) hbase ?_); intro v' w5 hown' hg5; obtain ⟨⟨j0, j1, j2, j3⟩, ⟨z0, z1, z2, z3, gg0, gg1, gg2, gg3⟩, gf, HWS, HBS⟩ := HQ8.out v' w5 hown' hg5; have gf0 := gf 0; have gf1 := gf 1; have gf2 := gf 2; have gf3 := gf 3; clear hown' hg5 gf)
            go_roundw
            case rel => exact ⟨k + 1, by omega, by go_num, HWS, HBS⟩
            case measure => simp [intOf]; omega
        · have HRE : Hid (k = L.length) := by show _ = _; omega
          have hki : ¬ (k : Int) < (L.length : Int) := by omega
          obtain ⟨a6, c6, b6, d6, e6, f6, p6, w6, m6, q6, cs6, hG, hBG, hF6, hA6, hok6, hpw6, hcl6⟩ := hst.out
          have g0 := wk_cell hG (i := 0) rfl
          have g1 := wk_cell hG (i := 1) rfl
          have g2 := wk_cell hG (i := 2) rfl
          have g3 := wk_cell hG (i := 3) rfl
          have hB := after HB1.out hbw1
          obtain ⟨⟨y0, y1, y2, y3⟩, yf⟩ := HY.out wr hB
          have yf0 := yf 0
          have yf1 := yf 1
          have yf2 := yf 2
          have yf3 := yf 3
          have hlo : A2.heap.size ≤ B1 := by rw [HB1E.out]; exact Nat.le_trans HB2.out.2.size HB1.out.size
          have hRe : R = (cs6, (p6, w6, m6, q6), true) := by
            obtain ⟨-, h1, h2⟩ := ftlOk_parts hok6
            rw [hR0.out, writesR, if_pos HOK.out, HRL.out, ← hpw6, HRE.out, List.drop_length]
            simp only [pWrites, h1, h2]
          obtain ⟨a7, k7, rfl⟩ := owns3_shape hA6
          have HFI := hide (fun n : Nat => hRF.out (wr.drewN n) (wr.drewN n) (.agg #[.slice a6 p6.length c6, .slice b6 w6.length d6, .slice e6 m6.length f6, .int .i64 q6]) (.slice a6 p6.length c6) (.slice b6 w6.length d6) (.slice e6 m6.length f6) (.int .i64 q6) (.slice a7 cs6.length k7) cs6 p6 w6 m6 q6 (after_drew (after HB2.out.2 hB) n) (show ActsOwn (wr.drewN n) A2.heap.size (.slice a7 cs6.length k7) cs6 from owns_mono hA6 hlo) (show FtlOwn (wr.drewN n) A2.heap.size _ p6 w6 m6 q6 from ftlOwn_mono hF6 hlo) rfl true hRe)
          clear hst hbr hbw1 hG hF6 hA6 hok6 hpw6 hcl6 hB yf hRe HXC HCP HBK
          have m3 : w.heap.size + 1 ≠ G := by have := HSA2.out; have := HGL.out; omega
          have hS4 : wr.cell? ⟨G, 0, none⟩ = some (.slice a6 p6.length c6) ∧ wr.cell? ⟨G, 1, none⟩ = some (.slice b6 w6.length d6) ∧ wr.cell? ⟨G, 2, none⟩ = some (.slice e6 m6.length f6) ∧ wr.cell? ⟨G, 3, none⟩ = some (.int .i64 q6) := ⟨g0, g1, g2, g3⟩
          go_wp2
          go_region_held (fun u => u.cell? ⟨G, 0, none⟩ = some (.slice a6 p6.length c6) ∧ u.cell? ⟨G, 1, none⟩ = some (.slice b6 w6.length d6) ∧ u.cell? ⟨G, 2, none⟩ = some (.slice e6 m6.length f6) ∧ u.cell? ⟨G, 3, none⟩ = some (.int .i64 q6))
            (first | assumption | go_keep | exact ⟨cell_other (cell_other (cell_other (cell_other hS4.1 m3) m3) m3) m3, cell_other (cell_other (cell_other (cell_other hS4.2.1 m3) m3) m3) m3, cell_other (cell_other (cell_other (cell_other hS4.2.2.1 m3) m3) m3) m3, cell_other (cell_other (cell_other (cell_other hS4.2.2.2 m3) m3) m3) m3⟩)
            (fail)
          go_wp2
          exact bodyPost_ret (v := .tuple #[.slice a7 cs6.length k7, .agg #[.slice a6 p6.length c6, .slice b6 w6.length d6, .slice e6 m6.length f6, .int .i64 q6], .bool true]) (by simp [results, Tryz.results28, go_sem, y0, y1, y2, y3]) rfl (HFI.out _)

end Go.Proofs.YtdicjbabnknjhaaGreat
