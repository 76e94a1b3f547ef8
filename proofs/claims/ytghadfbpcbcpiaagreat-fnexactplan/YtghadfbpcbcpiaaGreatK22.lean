/-
  Work under way in the program (impl.writing): a block of five cells; what is stored into it. 'append' of one act as a step of a region that draws its order.
  What the two Mounts answer, of any chip: the same.
  Contract of the program's (*writing).add.
  Contract of the program's crowded.
-/
import Derived.Test.YtghadfbpcbcpiaaGreatK21
import Derived.Test.YtghadfbpcbcpiaaGreatK8
import Derived.Test.YtghadfbpcbcpiaaGreatK11
import Derived.Test.YtghadfbpcbcpiaaGreatK7
import Derived.Test.YtghadfbpcbcpiaaGreatK18
import Derived.Deep.DeepCutAuto
import Derived.Deep.RegionHeldLaw
import Derived.Test.YtghadfbpcbcpiaaGreatK15
namespace Go.Proofs.YtghadfbpcbcpiaaGreat
open Go.RowKit

theorem ftlOwn_mono {w : World} {base base' : Nat} {v : Value} {ps : List ByteArray} {ws ms : List Int} {q : Int} (h : FtlOwn w base' v ps ws ms q) (hb : base ≤ base') : FtlOwn w base v ps ws ms q := by
  obtain ⟨v1, v2, v3, hv, o1, o2, o3, hh⟩ := h
  exact ⟨v1, v2, v3, hv, owns_mono o1 hb, owns_mono o2 hb, owns_mono o3 hb, hh⟩
theorem ftl_rows {w : World} {base n m l c d f : Nat} {a b e : Option Addr} {z q : Int} {ps : List ByteArray} {ws ms : List Int} (h : FtlOwn w base (.agg #[.slice a n c, .slice b m d, .slice e l f, .int .i64 z]) ps ws ms q) :
    w.ownsRow base 9 1 (.slice a n c) ps.length (vsString ps) ∧ w.ownsRow base 3 1 (.slice b m d) ws.length (vsInt ws) ∧ w.ownsRow base 3 1 (.slice e l f) ms.length (vsInt ms) := by
  obtain ⟨v1, v2, v3, hv, o1, o2, o3, hh⟩ := h
  injection hv with hv
  simp at hv
  obtain ⟨rfl, rfl, rfl, -⟩ := hv
  exact ⟨o1, o2, o3⟩

/-- The acts of the work in block P, whatever else it has. -/
def PActs (w : World) (P base : Nat) (v4 : Option Addr) (k4 : Nat) (cs : List (Int × Int × ByteArray)) : Prop :=
  ∃ x1 x2 x3 x4, w.heap[P]? = some (.cells #[.slice v4 cs.length k4, x1, x2, x3, x4] 79 (0, 0)) ∧ base ≤ P ∧ w.ownsRow base 62 3 (.slice v4 cs.length k4) cs.length (vsAct cs)
/-- Work in block P. -/
def PWAt (w : World) (P base : Nat) (v4 : Option Addr) (k4 : Nat) (a : Option Addr) (c : Nat) (b : Option Addr) (d : Nat) (e : Option Addr) (f : Nat) (ps : List ByteArray) (ws ms : List Int) (q : Int) (cs : List (Int × Int × ByteArray)) : Prop :=
  w.heap[P]? = some (.cells #[.slice v4 cs.length k4, .slice a ps.length c, .slice b ws.length d, .slice e ms.length f, .int .i64 q] 79 (0, 0)) ∧ base ≤ P ∧ w.ownsRow base 62 3 (.slice v4 cs.length k4) cs.length (vsAct cs) ∧
    FtlOwn w base (.agg #[.slice a ps.length c, .slice b ws.length d, .slice e ms.length f, .int .i64 q]) ps ws ms q
def PW (w : World) (P base : Nat) (ps : List ByteArray) (ws ms : List Int) (q : Int) (cs : List (Int × Int × ByteArray)) : Prop :=
  ∃ v4 k4 a c b d e f, PWAt w P base v4 k4 a c b d e f ps ws ms q cs

section
variable {w : World} {P base : Nat} {v4 : Option Addr} {k4 : Nat} {a : Option Addr} {c : Nat} {b : Option Addr} {d : Nat} {e : Option Addr} {f : Nat} {ps : List ByteArray} {ws ms : List Int} {q : Int} {cs : List (Int × Int × ByteArray)}
theorem PWAt.lt (h : PWAt w P base v4 k4 a c b d e f ps ws ms q cs) : P < w.heap.size ∧ base ≤ P ∧ base ≤ w.heap.size := by
  have h1 := lt_of_block h.1
  have h2 := h.2.1
  exact ⟨h1, h2, by omega⟩
theorem PWAt.cells (h : PWAt w P base v4 k4 a c b d e f ps ws ms q cs) :
    (w.cell? ⟨P, 0, none⟩ = some (.slice v4 cs.length k4) ∧ w.cell? ⟨P, 1, none⟩ = some (.slice a ps.length c) ∧ w.cell? ⟨P, 2, none⟩ = some (.slice b ws.length d) ∧ w.cell? ⟨P, 3, none⟩ = some (.slice e ms.length f) ∧ w.cell? ⟨P, 4, none⟩ = some (.int .i64 q)) ∧ ∀ i, w.frozen? ⟨P, i, none⟩ = false :=
  ⟨⟨wk_cell h.1 rfl, wk_cell h.1 rfl, wk_cell h.1 rfl, wk_cell h.1 rfl, wk_cell h.1 rfl⟩, fun i => wk_frozen h.1 i⟩
theorem PWAt.below {w' : World} (h : PWAt w P base v4 k4 a c b d e f ps ws ms q cs) (hb : Below w.heap.size w w') : PWAt w' P base v4 k4 a c b d e f ps ws ms q cs := by
  obtain ⟨h0, hB, h1, h2⟩ := h
  exact ⟨(hb.block P (lt_of_block h0)).trans h0, hB, owns_below h1 hb, h2.below hb⟩
theorem PWAt.rd (h : PWAt w P base v4 k4 a c b d e f ps ws ms q cs) : Rd w a (vsString ps) ∧ Rd w b (vsInt ws) ∧ Rd w e (vsInt ms) := by
  obtain ⟨o1, o2, o3⟩ := ftl_rows h.2.2.2
  exact ⟨rd_of_own o1, rd_of_own o2, rd_of_own o3⟩
theorem PWAt.cap (h : PWAt w P base v4 k4 a c b d e f ps ws ms q cs) : ps.length ≤ c := owns_cap (ftl_rows h.2.2.2).1
theorem PWAt.acts (h : PWAt w P base v4 k4 a c b d e f ps ws ms q cs) : PActs w P base v4 k4 cs := ⟨_, _, _, _, h.1, h.2.1, h.2.2.1⟩
theorem PWAt.pw (h : PWAt w P base v4 k4 a c b d e f ps ws ms q cs) : PW w P base ps ws ms q cs := ⟨_, _, _, _, _, _, _, _, h⟩
theorem PW.below {w' : World} (h : PW w P base ps ws ms q cs) (hb : Below w.heap.size w w') : PW w' P base ps ws ms q cs := by
  obtain ⟨v4, k4, a, c, b, d, e, f, h⟩ := h
  exact (h.below hb).pw
theorem PActs.below {w' : World} (h : PActs w P base v4 k4 cs) (hb : Below w.heap.size w w') : PActs w' P base v4 k4 cs := by
  obtain ⟨x0, x1, x2, x3, h0, hB, h4⟩ := h
  exact ⟨x0, x1, x2, x3, (hb.block P (lt_of_block h0)).trans h0, hB, owns_below h4 hb⟩
theorem PActs.cells (h : PActs w P base v4 k4 cs) : w.cell? ⟨P, 0, none⟩ = some (.slice v4 cs.length k4) ∧ (∃ x1 x2 x3 x4, w.cell? ⟨P, 1, none⟩ = some x1 ∧ w.cell? ⟨P, 2, none⟩ = some x2 ∧ w.cell? ⟨P, 3, none⟩ = some x3 ∧ w.cell? ⟨P, 4, none⟩ = some x4) ∧ (∀ i, w.frozen? ⟨P, i, none⟩ = false) ∧ P < w.heap.size ∧ base ≤ P := by
  obtain ⟨x1, x2, x3, x4, h0, hB, h4⟩ := h
  exact ⟨wk_cell h0 rfl, ⟨x1, x2, x3, x4, wk_cell h0 rfl, wk_cell h0 rfl, wk_cell h0 rfl, wk_cell h0 rfl⟩, fun i => wk_frozen h0 i, lt_of_block h0, hB⟩
/-- One more act is laid down. -/
theorem PActs.act {u : World} {v : Value} (x : Int × Int × ByteArray) (h : PActs w P base v4 k4 cs) (hg : w.grownBy u (Value.slice v4 cs.length k4).ownBlock) (hv : u.ownsRow base 62 3 v (cs.length + 1) (vsAct cs ++ [.int .i64 x.1, .int .i64 x.2.1, .string x.2.2])) :
    ∃ a' k', v = .slice a' (cs ++ [x]).length k' ∧ PActs (u.setCell ⟨P, 0, none⟩ v) P base a' k' (cs ++ [x]) ∧ Below base w (u.setCell ⟨P, 0, none⟩ v) ∧ Fr P P P w (u.setCell ⟨P, 0, none⟩ v) := by
  obtain ⟨x1, x2, x3, x4, h0, hB, h4⟩ := h
  have hlt := lt_of_block h0
  have n4 := kind_ne h4 h0 (by decide)
  obtain ⟨a', k', rfl⟩ := owns3_shape hv
  have hl : cs.length + 1 = (cs ++ [x]).length := by simp
  rw [vsAct_snoc, hl] at hv
  rw [hl]
  have hP : u.heap[P]? = some (.cells #[.slice v4 cs.length k4, x1, x2, x3, x4] 79 (0, 0)) := (hg.block P hlt (fun e => n4 e.symm)).trans h0
  have hb : Below base w u := (Below.refl _ _).grown hg (by omega) (fun k hk => (h4.lt k hk).1)
  refine ⟨a', k', rfl, ⟨x1, x2, x3, x4, wk_set hP 0 _, hB, ownsRow_setCell_other hv ?_ _⟩, hb.setCell hB _, (Fr.grown hg h4).set (.inl rfl) _ _⟩
  exact kind_ne hv hP (by decide)
/-- What is mounted anew is laid into work. -/
theorem PActs.mount {nb : Nat} (h : PActs w P base v4 k4 cs) (hf : FtlOwn w nb (.agg #[.slice a ps.length c, .slice b ws.length d, .slice e ms.length f, .int .i64 q]) ps ws ms q) (hn : base ≤ nb) :
    PWAt ((((w.setCell ⟨P, 1, none⟩ (.slice a ps.length c)).setCell ⟨P, 2, none⟩ (.slice b ws.length d)).setCell ⟨P, 3, none⟩ (.slice e ms.length f)).setCell ⟨P, 4, none⟩ (.int .i64 q)) P base v4 k4 a c b d e f ps ws ms q cs ∧
    Below base w ((((w.setCell ⟨P, 1, none⟩ (.slice a ps.length c)).setCell ⟨P, 2, none⟩ (.slice b ws.length d)).setCell ⟨P, 3, none⟩ (.slice e ms.length f)).setCell ⟨P, 4, none⟩ (.int .i64 q)) ∧
    Fr P P P w ((((w.setCell ⟨P, 1, none⟩ (.slice a ps.length c)).setCell ⟨P, 2, none⟩ (.slice b ws.length d)).setCell ⟨P, 3, none⟩ (.slice e ms.length f)).setCell ⟨P, 4, none⟩ (.int .i64 q)) := by
  obtain ⟨x1, x2, x3, x4, h0, hB, h4⟩ := h
  obtain ⟨v1, v2, v3, hv, o1, o2, o3, hh⟩ := hf
  injection hv with hv
  simp at hv
  obtain ⟨rfl, rfl, rfl⟩ := hv
  have m1 := kind_ne o1 h0 (by decide)
  have m2 := kind_ne o2 h0 (by decide)
  have m3 := kind_ne o3 h0 (by decide)
  have m4 := kind_ne h4 h0 (by decide)
  have st : ∀ {e : TypeId} {size : Nat} {v : Value} {n : Nat} {xs : List Value} (y0 y1 y2 y3 : Value), w.ownsRow base e size v n xs → v.ownBlock ≠ some P → ((((w.setCell ⟨P, 1, none⟩ y0).setCell ⟨P, 2, none⟩ y1).setCell ⟨P, 3, none⟩ y2).setCell ⟨P, 4, none⟩ y3).ownsRow base e size v n xs := fun y0 y1 y2 y3 ho hn =>
    ownsRow_setCell_other (ownsRow_setCell_other (ownsRow_setCell_other (ownsRow_setCell_other ho hn _) hn _) hn _) hn _
  refine ⟨⟨wk_set (wk_set (wk_set (wk_set h0 1 _) 2 _) 3 _) 4 _, hB, st _ _ _ _ h4 m4, _, _, _, rfl, st _ _ _ _ (owns_mono o1 hn) m1, st _ _ _ _ (owns_mono o2 hn) m2, st _ _ _ _ (owns_mono o3 hn) m3, hh⟩,
    ((((Below.refl _ _).setCell hB _).setCell hB _).setCell hB _).setCell hB _, ((((Fr.of_below (Below.refl _ _)).set (.inl rfl) _ _).set (.inl rfl) _ _).set (.inl rfl) _ _).set (.inl rfl) _ _⟩
/-- Work that begins. -/
theorem pwork_new (hf : FtlOwn w base (.agg #[.slice a ps.length c, .slice b ws.length d, .slice e ms.length f, .int .i64 q]) ps ws ms q) (hb : base ≤ w.heap.size) :
    PWAt (w.alloc (Obj.cells #[.slice none 0 0, .slice a ps.length c, .slice b ws.length d, .slice e ms.length f, .int .i64 q] 79)) w.heap.size base none 0 a c b d e f ps ws ms q [] :=
  ⟨heap_alloc_new _ _, hb, World.ownsRow_nil _ _ _ _, hf.below ((Below.refl _ _).alloc (Nat.le_refl _) _)⟩
end

/-- 'append(acts, act)', acts being the call's own, as a step of a region that draws its order. -/
theorem step_append_act {P : Program} {w w0 : World} {ops : Array Oper} {o : Oper} {a : Act} {K : Act → World → Prop} {Q : Exit → Act → World → Prop} {E : Prop} (hgd : o.guard = none) (s x : Operand) (t : TypeId)
    (ho : o.op = .call { callee := .builtin .append, args := #[s, x], argTypes := #[t, t] })
    (base : Nat) (e : TypeId) (i : TypeInfo) (z : Value) (bytes : Nat) (ht : P.underlying t = some (.slice e)) (hi : P.info? e = some i) (hz : i.zero = some z)
    (hsize : i.size = 3) (hby : i.bytes = bytes) (hzs : z.cells.size = 3)
    (v : Value) (n : Nat) (xs : List Value) (u0 u1 u2 : Value) (hs : a.eval s = v) (hown : w0.ownsRow base e 3 v n xs) (h1 : u0.oneCell' = true ∧ u1.oneCell' = true ∧ u2.oneCell' = true)
    (hx : a.eval x = .slice (some ⟨w0.heap.size, 0, none⟩) 1 1)
    (hbytes : (n + 1) * bytes ≤ 140737488355328) (hn : n ≤ 140737488355327) (hbase : base ≤ w0.heap.size)
    (hw : w = w0.alloc (.cells #[u0, u1, u2] e)) (h : ∀ v' w', w'.ownsRow base e 3 v' (n + 1) (xs ++ [u0, u1, u2]) → w0.grownBy w' v.ownBlock → K (a.put o.dst v') w') :
    if Region.wanted o (yielded ops a.tmps) = true then Oper.wp P o a w K Q else E := by
  have hwt : Region.wanted o (yielded ops a.tmps) = true := by simp [Region.wanted, hgd]
  rw [if_pos hwt]
  subst hw
  refine wp_append_own _ s x t ho base e i z 3 bytes ht hi hz hsize hby hzs (by decide) v n xs hs (hown.alloc _) ⟨w0.heap.size, 0, none⟩ 1 1 [u0, u1, u2] hx rfl ?_ ?_ (by unfold maxLen; omega) hbytes (by simp; omega) ?_
  · intro j y hj
    match j, hj with
    | 0, hj => simp at hj; subst hj; simp [Addr.add]
    | 1, hj => simp at hj; subst hj; simp [Addr.add]
    | 2, hj => simp at hj; subst hj; simp [Addr.add]
  · intro y hy
    simp at hy
    rcases hy with rfl | rfl | rfl
    · exact h1.1
    · exact h1.2.1
    · exact h1.2.2
  · intro v' w' k1 k2 _
    exact h v' w' k1 (grown_trans (World.grownBy_alloc w0 _ _) k2)
end Go.Proofs.YtghadfbpcbcpiaaGreat

namespace Go.Proofs.YtghadfbpcbcpiaaGreat
open Go.RowKit

theorem fnExactMount_both (ps : List ByteArray) (ws : List Int)  (hk0 : ps.length ≤ 1048576) (hk1 : ws.length ≤ 1048576) (hs : ∀ s ∈ ps, s.size ≤ 1048576)  :
    ∃ (Gps : List ByteArray) (Gws : List Int) (Gms : List Int) (Gq : Int) , Gps.length ≤ 1000 ∧ Gws.length ≤ 1000 ∧ Gms.length ≤ 1000 ∧ Hid (∀ (u : World) (v : Value), ChipRd u v ps ws → Calls Tryz.prog 36 #[v] u fun e w' => ∃ v, e = .returned (v) ∧ FtlOwn w' u.heap.size v Gps Gws Gms Gq ∧ Below u.heap.size u w') ∧ Hid (∀ (u : World) (v : Value), ChipRd u v ps ws → Calls Tryz.prog 49 #[v] u fun e w' => ∃ v, e = .returned (v) ∧ FtlOwn w' u.heap.size v Gps Gws Gms Gq ∧ Below u.heap.size u w') := by
  by_cases hok : chipOkP ps ws
  · refine ⟨ps, ws, mMap ps, mSeq ps, by rw [hok.1]; decide, by rw [hok.2.1]; decide, by rw [mMap_len]; decide, ?_, ?_⟩
    · rintro u v ⟨a, c, b, d, rfl, h1, h2⟩
      exact specMount_ok a b ps ws c d u h1 h2 hok
    · rintro u v ⟨a, c, b, d, rfl, h1, h2⟩
      exact implMount_ok a b ps ws c d u h1 h2 hok
  · refine ⟨[], [], [], 0, by decide, by decide, by decide, ?_, ?_⟩
    · rintro u v ⟨a, c, b, d, rfl, h1, h2⟩
      exact specMount_bad a b ps ws c d u h1 h2 hk0 hk1 hs hok
    · rintro u v ⟨a, c, b, d, rfl, h1, h2⟩
      exact implMount_bad a b ps ws c d u h1 h2 hk0 hk1 hs hok

end Go.Proofs.YtghadfbpcbcpiaaGreat

namespace Go.Proofs.YtghadfbpcbcpiaaGreat
open Go.RowKit

/-- A chip in a variable of its own, its rows new as well. -/
def CVarIn (u : World) (lo B : Nat) (a : Option Addr) (c : Nat) (b : Option Addr) (d : Nat) (ps : List ByteArray) (ws : List Int) : Prop :=
  (u.cell? ⟨B, 0, none⟩ = some (.slice a ps.length c) ∧ u.cell? ⟨B, 1, none⟩ = some (.slice b ws.length d)) ∧ (Rd u a (vsString ps) ∧ Rd u b (vsInt ws)) ∧ lo ≤ B ∧ ∀ b0 off, (a = some ⟨b0, off, none⟩ ∨ b = some ⟨b0, off, none⟩) → lo ≤ b0
def CVar (A u : World) (B : Nat) (a : Option Addr) (c : Nat) (b : Option Addr) (d : Nat) (ps : List ByteArray) (ws : List Int) : Prop :=
  CVarIn u A.heap.size B a c b d ps ws ∧ Below A.heap.size A u
theorem cell_far {u u' : World} {p o : Nat} {v : Value} (h : u.cell? ⟨p, o, none⟩ = some v) (hk : u'.heap[p]? = u.heap[p]?) : u'.cell? ⟨p, o, none⟩ = some v := by
  simp only [World.cell?] at h ⊢
  rw [hk]; exact h
theorem rd_far {u u' : World} {a : Option Addr} {vs : List Value} (h : Rd u a vs) (hk : ∀ b off, a = some ⟨b, off, none⟩ → b < u.heap.size → u'.heap[b]? = u.heap[b]?) : Rd u' a vs := by
  rcases h with h | ⟨b, off, ha, hc⟩
  · exact .inl h
  · exact .inr ⟨b, off, ha, fun i v hv => cell_far (hc i v hv) (hk b off ha (lt_of_cell (hc i v hv)))⟩
theorem CVarIn.far {u u' : World} {lo B : Nat} {a : Option Addr} {c : Nat} {b : Option Addr} {d : Nat} {ps : List ByteArray} {ws : List Int} (h : CVarIn u lo B a c b d ps ws) (hk : ∀ k, lo ≤ k → k < u.heap.size → u'.heap[k]? = u.heap[k]?) : CVarIn u' lo B a c b d ps ws := by
  obtain ⟨⟨h0, h1⟩, ⟨r0, r1⟩, hB, hb⟩ := h
  have e := hk B hB (lt_of_cell h0)
  exact ⟨⟨cell_far h0 e, cell_far h1 e⟩, ⟨rd_far r0 (fun b0 off h hl => hk b0 (hb b0 off (.inl h)) hl), rd_far r1 (fun b0 off h hl => hk b0 (hb b0 off (.inr h)) hl)⟩, hB, hb⟩
theorem cvar_late {A u : World} {lo : Nat} {a : Option Addr} {c : Nat} {b : Option Addr} {d : Nat} {ps : List ByteArray} {ws : List Int} {t : TypeId} (hr : Rd u a (vsString ps) ∧ Rd u b (vsInt ws) ∧ ∀ b0 off, (a = some ⟨b0, off, none⟩ ∨ b = some ⟨b0, off, none⟩) → lo ≤ b0) (hlo : A.heap.size ≤ lo) (hb : Below A.heap.size A u) :
    CVar A (u.alloc (Obj.cells #[.slice a ps.length c, .slice b ws.length d] t)) u.heap.size a c b d ps ws :=
  ⟨⟨⟨by simp, by simp⟩, ⟨hr.1.below ((Below.refl _ _).alloc (Nat.le_refl _) _), hr.2.1.below ((Below.refl _ _).alloc (Nat.le_refl _) _)⟩, hb.size, fun b0 off h => Nat.le_trans hlo (hr.2.2 b0 off h)⟩, hb.alloc hb.size _⟩
theorem rd_setFar {w : World} {a : Option Addr} {vs : List Value} {B i : Nat} {v : Value} (h : Rd w a vs) (hn : ∀ b off, a = some ⟨b, off, none⟩ → B ≠ b) : Rd (w.setCell ⟨B, i, none⟩ v) a vs := by
  rcases h with h | ⟨b, off, ha, hc⟩
  · exact .inl h
  · refine .inr ⟨b, off, ha, fun j x hx => ?_⟩
    exact cell_other (hc j x hx) (hn b off ha)
theorem cvar_aux {A w1 : World} (hb : Below (A.alloc (Obj.cells #[.slice none 0 0, .slice none 0 0] 30)).drew.heap.size (A.alloc (Obj.cells #[.slice none 0 0, .slice none 0 0] 30)).drew w1) :
    Hid (Below A.heap.size A.drew w1) ∧ (w1.cell? ⟨A.heap.size, 0, none⟩ = some (.slice none 0 0) ∧ w1.cell? ⟨A.heap.size, 1, none⟩ = some (.slice none 0 0)) ∧ ∀ j, w1.frozen? ⟨A.heap.size, j, none⟩ = false := by
  have hsz : (A.alloc (Obj.cells #[.slice none 0 0, .slice none 0 0] 30)).drew.heap.size = A.heap.size + 1 := by simp
  refine ⟨(show Below A.heap.size A.drew (A.alloc (Obj.cells #[.slice none 0 0, .slice none 0 0] 30)).drew from ?_).trans (hb.mono (by omega)), ⟨?_, ?_⟩, fun j => ?_⟩
  · have : Below A.heap.size A (A.alloc (Obj.cells #[.slice none 0 0, .slice none 0 0] 30)) := (Below.refl _ A).alloc (Nat.le_refl _) _
    exact ⟨this.os, this.tape, this.output, this.size, this.block⟩
  · exact (hb.cell (p := ⟨A.heap.size, 0, none⟩) (by show A.heap.size < _; omega)).trans (by simp)
  · exact (hb.cell (p := ⟨A.heap.size, 1, none⟩) (by show A.heap.size < _; omega)).trans (by simp)
  · exact (hb.frozen (p := ⟨A.heap.size, j, none⟩) (by show A.heap.size < _; omega)).trans (by simp)
theorem cvar_early {A u : World} {a : Option Addr} {c : Nat} {b : Option Addr} {d : Nat} {ps : List ByteArray} {ws : List Int} {x y : Value} (hr : Rd u a (vsString ps) ∧ Rd u b (vsInt ws) ∧ ∀ b0 off, (a = some ⟨b0, off, none⟩ ∨ b = some ⟨b0, off, none⟩) → A.heap.size + 1 ≤ b0) (hb : Below A.heap.size A u) (h0 : u.cell? ⟨A.heap.size, 0, none⟩ = some x) (h1 : u.cell? ⟨A.heap.size, 1, none⟩ = some y) :
    CVar A ((u.setCell ⟨A.heap.size, 0, none⟩ (.slice a ps.length c)).setCell ⟨A.heap.size, 1, none⟩ (.slice b ws.length d)) A.heap.size a c b d ps ws := by
  have ha : ∀ b0 off, a = some ⟨b0, off, none⟩ → A.heap.size ≠ b0 := fun b0 off h => by have := hr.2.2 b0 off (.inl h); omega
  have hb' : ∀ b0 off, b = some ⟨b0, off, none⟩ → A.heap.size ≠ b0 := fun b0 off h => by have := hr.2.2 b0 off (.inr h); omega
  refine ⟨⟨⟨?_, ?_⟩, ⟨rd_setFar (rd_setFar hr.1 ha) ha, rd_setFar (rd_setFar hr.2.1 hb') hb'⟩, Nat.le_refl _, fun b0 off h => by have := hr.2.2 b0 off h; omega⟩, (hb.setCell (Nat.le_refl _) _).setCell (Nat.le_refl _) _⟩
  · simp [go_sem, World.cell?_setCell_same _ _ _ h0]
  · have : (u.setCell ⟨A.heap.size, 0, none⟩ (.slice a ps.length c)).cell? ⟨A.heap.size, 1, none⟩ = some y := by simpa [go_sem] using h1
    exact World.cell?_setCell_same _ _ _ this

set_option maxRecDepth 100000 in
set_option maxHeartbeats 12800000 in
theorem add_any (P base : Nat) (ps : List ByteArray) (ws ms : List Int) (q : Int) (cs : List (Int × Int × ByteArray)) (kind at_ : Int) (text : ByteArray) (w : World) (hW : PW w P base ps ws ms q cs) (hok : chipOkP ps ws) (ht : text.size ≤ 1048576) (hcs : cs.length ≤ 60000) :
    Calls Tryz.prog 79 #[.pointer (some ⟨P, 0, none⟩), .agg #[.int .i64 kind, .int .i64 at_, .string text]] w fun e w' => e = .returned (.bool (applyF ps ws kind at_ text)) ∧ Below base w w' ∧ Fr P P P w w' ∧
      (applyF ps ws kind at_ text = true → PW w' P base (applyP ps ws kind at_ text) (applyW ps ws kind at_) (mMap (applyP ps ws kind at_ text)) (mSeq (applyP ps ws kind at_ text)) (cs ++ [(kind, at_, text)])) ∧
      (applyF ps ws kind at_ text = false → PW w' P base ps ws ms q cs) := by
  obtain ⟨i2, hi2, hz0, hz1, hz2⟩ := info_parts infoAct
  obtain ⟨v4, k4, a, c, b, d, e0, f, hW⟩ := hW
  obtain ⟨A, hA⟩ : ∃ A, A = w.alloc (Obj.cells #[.int .i64 kind, .int .i64 at_, .string text] 62) := ⟨_, rfl⟩
  have hbA : Below w.heap.size w A := by rw [hA]; exact (Below.refl _ _).alloc (Nat.le_refl _) _
  have n0 : A.cell? ⟨w.heap.size, 0, none⟩ = some (.int .i64 kind) := by rw [hA]; simp [go_sem]
  have n1 : A.cell? ⟨w.heap.size, 1, none⟩ = some (.int .i64 at_) := by rw [hA]; simp [go_sem]
  have n2 : A.cell? ⟨w.heap.size, 2, none⟩ = some (.string text) := by rw [hA]; simp [go_sem]
  have hWA := hW.below hbA
  have hltB := lt_of_cell n0
  obtain ⟨⟨c0, c1, c2, c3, c4⟩, -⟩ := hWA.cells
  have hltP := lt_of_cell c0
  obtain ⟨F, hF⟩ : ∃ F, F = applyF ps ws kind at_ text := ⟨_, rfl⟩
  obtain ⟨PS, hPS⟩ : ∃ PS, PS = applyP ps ws kind at_ text := ⟨_, rfl⟩
  obtain ⟨WS, hWS⟩ : ∃ WS, WS = applyW ps ws kind at_ := ⟨_, rfl⟩
  have HRT : Hid (chipOkP PS WS) := by show chipOkP _ _; rw [hPS, hWS]; exact apply_right hok
  have HCL : Hid (∀ u, Below A.heap.size A.drew u → Calls Tryz.prog 97 #[.agg #[.slice a ps.length c, .slice b ws.length d], .agg #[.int .i64 kind, .int .i64 at_, .string text]] u fun e w' => ∃ a' c' b' d', e = .returned (.tuple #[.agg #[.slice a' PS.length c', .slice b' WS.length d'], .bool F]) ∧ (Rd w' a' (vsString PS) ∧ Rd w' b' (vsInt WS) ∧ ∀ b0 off, (a' = some ⟨b0, off, none⟩ ∨ b' = some ⟨b0, off, none⟩) → u.heap.size ≤ b0) ∧ Below u.heap.size u w') := by
    intro u hu
    have hu' : Below A.heap.size A u := (after_drew (Below.refl _ _) 1).trans hu
    have hWu := hWA.below hu'
    refine (implApply_fn a b ps ws c d kind at_ text u hWu.rd.1 hWu.rd.2.1 (by rw [hok.1]; decide) (by rw [hok.2.1]; decide) (fun s h => by have := hok.2.2.1 s h; omega) ht).mono ?_
    rintro e w' ⟨v, rfl, hown, hb⟩
    rw [← hF]
    rw [← hPS, ← hWS] at hown
    obtain ⟨a', c', b', d', rfl, o1, o2, -⟩ := own_open hown
    refine ⟨a', c', b', d', rfl, ⟨rd_of_own o1, rd_of_own o2, ?_⟩, hb⟩
    rintro b0 off (rfl | rfl)
    · exact (o1.lt b0 rfl).1
    · exact (o2.lt b0 rfl).1
  have HK : Hid (∀ u, Below A.heap.size A.drew u → (u.cell? ⟨P, 1, none⟩ = some (.slice a ps.length c) ∧ u.cell? ⟨P, 2, none⟩ = some (.slice b ws.length d) ∧ u.cell? ⟨w.heap.size, 0, none⟩ = some (.int .i64 kind) ∧ u.cell? ⟨w.heap.size, 1, none⟩ = some (.int .i64 at_) ∧ u.cell? ⟨w.heap.size, 2, none⟩ = some (.string text))) := fun u hu =>
    ⟨(hu.cell (p := ⟨P, 1, none⟩) hltP).trans (by simpa using c1), (hu.cell (p := ⟨P, 2, none⟩) hltP).trans (by simpa using c2), (hu.cell (p := ⟨w.heap.size, 0, none⟩) hltB).trans (by simpa using n0), (hu.cell (p := ⟨w.heap.size, 1, none⟩) hltB).trans (by simpa using n1), (hu.cell (p := ⟨w.heap.size, 2, none⟩) hltB).trans (by simpa using n2)⟩
  have HWA := hide hWA
  have HBA := hide hbA
  have HW := hide hW
  have HN : Hid (A.cell? ⟨w.heap.size, 0, none⟩ = some (.int .i64 kind) ∧ A.cell? ⟨w.heap.size, 1, none⟩ = some (.int .i64 at_) ∧ A.cell? ⟨w.heap.size, 2, none⟩ = some (.string text)) := ⟨n0, n1, n2⟩
  have HAL : Hid (Below A.heap.size A.drew (A.alloc (Obj.cells #[.slice none 0 0, .slice none 0 0] 30)).drew) := by
    have : Below A.heap.size A (A.alloc (Obj.cells #[.slice none 0 0, .slice none 0 0] 30)) := (Below.refl _ A).alloc (Nat.le_refl _) _
    exact ⟨this.os, this.tape, this.output, this.size, this.block⟩
  have m1 : A.heap.size ≠ P := by omega
  have m2 : A.heap.size ≠ w.heap.size := by omega
  rw [← hF, ← hPS, ← hWS]
  clear hW hWA hbA hok ht hF hPS hWS
  go_enter Tryz.func79, Tryz.ntmps79
  go_wp2_with fail
  rw [← hA]
  clear hA
  go_cut [5, 6] (fun x y wx => ∃ B a' c' b' d', x = .pointer (some ⟨B, 0, none⟩) ∧ y = .bool F ∧ Hid (CVar A wx B a' c' b' d' PS WS))
  case first =>
    go_region_held (fun w' => w'.cell? ⟨P, 1, none⟩ = some (.slice a ps.length c) ∧ w'.cell? ⟨P, 2, none⟩ = some (.slice b ws.length d) ∧ w'.cell? ⟨w.heap.size, 0, none⟩ = some (.int .i64 kind) ∧ w'.cell? ⟨w.heap.size, 1, none⟩ = some (.int .i64 at_) ∧ w'.cell? ⟨w.heap.size, 2, none⟩ = some (.string text))
      (first | assumption | go_keep | exact ⟨cell_other (cell_other hK1.1 m1) m1, cell_other (cell_other hK1.2.1 m1) m1, cell_other (cell_other hK1.2.2.1 m2) m2, cell_other (cell_other hK1.2.2.2.1 m2) m2, cell_other (cell_other hK1.2.2.2.2 m2) m2⟩)
      ((first
        | (go_at_call 97; refine (HCL.out (A.alloc (Obj.cells #[.slice none 0 0, .slice none 0 0] 30)).drew HAL.out).mono ?_; rintro e w2 ⟨a', c', b', d', rfl, hr, hb2⟩; obtain ⟨HBX, ⟨z0, z1⟩, zf⟩ := cvar_aux hb2; have hK1 := HK.out w2 HBX.out; have zf0 := zf 0; have zf1 := zf 1; have HRD := hide hr; clear hr hb2 zf)
        | (go_at_call 97; refine (HCL.out A.drew (Below.refl _ _)).mono ?_; rintro e w2 ⟨a', c', b', d', rfl, hr, hb2⟩; have hK1 := HK.out w2 hb2; have HBX : Hid (Below A.heap.size A.drew w2) := hb2; have HRD := hide hr; clear hr hb2)))
    · have HBX2 := hide (cvar_late (c := c') (d := d') (t := 30) HRD.out (show A.heap.size ≤ A.drew.heap.size from Nat.le_refl _) (show Below A.heap.size A w2 from (after_drew (Below.refl _ _) 1).trans HBX.out))
      clear HBX hK1 HK HCL
      go_wp2_with fail
      go_meet
      exact ⟨_, _, _, _, _, rfl, rfl, HBX2⟩
    · have HBX2 := hide (cvar_early (c := c') (d := d') ⟨HRD.out.1, HRD.out.2.1, fun b0 off h => by have := HRD.out.2.2 b0 off h; simpa using this⟩ (show Below A.heap.size A w2 from (after_drew (Below.refl _ _) 1).trans HBX.out) z0 z1)
      clear HBX hK1 HK HCL z0 z1
      go_wp2_with fail
      go_meet
      exact ⟨_, _, _, _, _, rfl, rfl, HBX2⟩
  case rest =>
  obtain ⟨B, a', c', b', d', rfl, rfl, HCB⟩ := hcut
  have HWC := hide (HWA.out.below HCB.out.2)
  have HBC := hide (after HBA.out HCB.out.2)
  have k0 := (HCB.out.2.cell (p := ⟨w.heap.size, 0, none⟩) hltB).trans n0
  have k1 := (HCB.out.2.cell (p := ⟨w.heap.size, 1, none⟩) hltB).trans n1
  have k2 := (HCB.out.2.cell (p := ⟨w.heap.size, 2, none⟩) hltB).trans n2
  clear HCL HK n0 n1 n2 c0 c1 c2 c3 c4
  cases F with
  | false =>
    go_wp2
    go_ret
    exact ⟨rfl, HBC.out.mono HW.out.lt.2.2, Fr.of_below HBC.out, HWC.out.pw⟩
  | true =>
    obtain ⟨⟨c0, c1, c2, c3, c4⟩, fz⟩ := HWC.out.cells
    have fz0 := fz 0
    have HOA := hide HWC.out.2.2.1
    have hbase : base ≤ wc.heap.size := HWC.out.lt.2.2
    have HE : Hid ((Value.slice v4 cs.length k4).ownBlock ≠ some P ∧ (Value.slice v4 cs.length k4).ownBlock ≠ some w.heap.size ∧ ∀ k, (Value.slice v4 cs.length k4).ownBlock = some k → k < A.heap.size) :=
      ⟨kind_ne HWC.out.2.2.1 HWC.out.1 (by decide), fun e => by have := (HW.out.2.2.1.lt _ e).2; omega, fun k hk => by have := (HW.out.2.2.1.lt _ hk).2; omega⟩
    have m4 : ¬ wc.heap.size = P := by have := HWC.out.lt.1; omega
    have m5 : P < wc.heap.size := HWC.out.lt.1
    have m6 : ¬ wc.heap.size = w.heap.size := by have := lt_of_cell k0; omega
    clear c1 c2 c3 c4 fz
    go_wp2_with fail
    go_cut [28] (fun x wx => ∃ a9 q9, Hid (PActs wx P base a9 q9 (cs ++ [(kind, at_, text)]) ∧ Below base wc wx ∧ Fr P P P wc wx ∧ CVarIn wx A.heap.size B a' c' b' d' PS WS))
    case first =>
      go_region_law ((refine step_append_act (w0 := wc.drew) rfl (.tmp 23) (.tmp 25) 29 rfl base 62 i2 (.agg #[.int .i64 0, .int .i64 0, .string ⟨#[]⟩]) 32 Tryz.underlying29 hi2 hz0 hz1 hz2 rfl _ _ _ (.int .i64 kind) (.int .i64 at_) (.string text) (by rfl) HOA.out ⟨rfl, rfl, rfl⟩ (by rfl) (by omega) (by omega) hbase rfl ?_; intro v' u hown hg; have c0' := hg.cell c0 (fun e => HE.out.1 e.symm); have bf0 := (frozen_far hg ⟨P, 0, none⟩ HWC.out.lt.1 (fun e => HE.out.1 e.symm)).trans fz0; have hgr : wc.grownBy u (Value.slice v4 cs.length k4).ownBlock := ⟨hg.os, hg.tape, hg.output, hg.size, hg.block⟩; obtain ⟨a9, q9, rfl, hpa, hbb, hfr⟩ := HWC.out.acts.act (kind, at_, text) hgr hown; have HF := hide (And.intro hpa (And.intro hbb (And.intro hfr (HCB.out.1.far (u' := u.setCell ⟨P, 0, none⟩ (.slice a9 (cs ++ [(kind, at_, text)]).length q9)) (fun k hk hl => (Below.heap_setCell u ⟨P, 0, none⟩ _ k (show k ≠ P by omega)).trans (hgr.block k hl (fun e => by have := HE.out.2.2 k e.symm; omega))))))); clear hpa hbb hfr hgr hown hg))
      all_goals
        rw [List.length_append, List.length_singleton] at HF
        clear bf0 c0' k0 k1 k2 HOA
        go_wp2_with fail
        go_meet
        exact ⟨_, _, HF⟩
    case rest =>
    obtain ⟨a9, q9, HF⟩ := hcut
    obtain ⟨⟨y0, y1⟩, ⟨r0, r1⟩, -, -⟩ := HF.out.2.2.2
    have hMO := implMount_ok a' b' PS WS c' d' _ r0 r1 HRT.out
    have HMO := hide hMO
    clear hMO r0 r1 k0 k1 k2 HOA c0 fz0
    go_wp2_with fail
    refine HMO.out.mono ?_
    rintro e w6 ⟨v6, rfl, hf6, hb6⟩
    obtain ⟨a6, c6, b6, d6, e6, f6, rfl⟩ := hf6.shape
    have HPA := hide (HF.out.1.below hb6)
    obtain ⟨x0, ⟨z1, z2, z3, z4, x1, x2, x3, x4⟩, yf, hPl, -⟩ := HPA.out.cells
    have yf1 := yf 1
    have yf2 := yf 2
    have yf3 := yf 3
    have yf4 := yf 4
    have hb1 := Nat.le_trans hbase HF.out.2.1.size
    have HFI := hide (HPA.out.mount hf6 hb1)
    have HFR := hide ((((Fr.of_below (P := P) (g1 := P) (g3 := P) HBC.out).trans HF.out.2.2.1).trans (Fr.of_below hb6)).trans HFI.out.2.2)
    have HBB := hide ((((HBC.out.mono HW.out.lt.2.2).trans HF.out.2.1).trans (hb6.mono hb1)).trans HFI.out.2.1)
    clear hf6 hb6 HMO yf y0 y1 HF x0
    go_wp2
    go_ret
    exact ⟨rfl, HBB.out, HFR.out, HFI.out.1.pw⟩
end Go.Proofs.YtghadfbpcbcpiaaGreat

namespace Go.Proofs.YtghadfbpcbcpiaaGreat
open Go.RowKit

/-- Whether there is room for one more, as a flag. -/
noncomputable def crowdB (ps : List ByteArray) (ws : List Int) : Bool := open Classical in decide (¬ pEnough ps ws)
theorem crowdB_true {ps : List ByteArray} {ws : List Int} : crowdB ps ws = true ↔ ¬ pEnough ps ws := by simp [crowdB]

set_option maxHeartbeats 3200000 in
theorem crowded_any (a b : Option Addr) (ps : List ByteArray) (ws : List Int) (c d : Nat) (w : World) (hp : Rd w a (vsString ps)) (hw : Rd w b (vsInt ws)) (hok : chipOkP ps ws) (hcap : 60 ≤ c) :
    Calls Tryz.prog 51 #[.agg #[.slice a ps.length c, .slice b ws.length d]] w fun e w' => e = .returned (.bool (crowdB ps ws)) ∧ Below w.heap.size w w' := by
  obtain ⟨R, hR⟩ : ∃ R, R = crowdB ps ws := ⟨_, rfl⟩
  have HR := hide hR
  rw [← hR]
  obtain ⟨W, hW⟩ : ∃ W, W = w.alloc (Obj.cells #[.slice a ps.length c, .slice b ws.length d] 30) := ⟨_, rfl⟩
  have hbW : Below w.heap.size w W := by rw [hW]; exact (Below.refl _ _).alloc (Nat.le_refl _) _
  have x0 : W.cell? ⟨w.heap.size, 0, none⟩ = some (.slice a ps.length c) := by rw [hW]; simp [go_sem]
  have x1 : W.cell? ⟨w.heap.size, 1, none⟩ = some (.slice b ws.length d) := by rw [hW]; simp [go_sem]
  have hlt := lt_of_cell x0
  have HN : Hid (∀ u, Below W.heap.size W u → Calls Tryz.prog 74 #[.agg #[.slice a ps.length c, .slice b ws.length d]] u fun e w' => e = .returned (.int .i64 (nextP ps ws)) ∧ Below u.heap.size u w') := fun u hu =>
    implNext_ok a b ps ws c d u (hp.below (after hbW hu)) (hw.below (after hbW hu)) hok hcap
  obtain ⟨n, hn⟩ : ∃ n, n = (freeB ps 10).length := ⟨_, rfl⟩
  have hn10 : n ≤ 10 := by rw [hn]; exact freeB_len ps 10
  have HEN : Hid (¬ pEnough ps ws ↔ (n < 2 ∨ (n = 2 ∧ nextP ps ws % 6 = 0))) := by show _ ↔ _; rw [hn]; exact enough_iff
  obtain ⟨N, hN⟩ : ∃ N, N = nextP ps ws := ⟨_, rfl⟩
  have hNb := nextP_bd ps ws
  have HN0 : Hid (n = 2 → 0 ≤ N) := fun h => by rw [hN]; exact next_of_free (by intro he; rw [he] at hn; simp at hn; omega)
  rw [← hN] at HN HEN hNb
  have HF : Hid (Calls Tryz.prog 73 #[.agg #[.slice a ps.length c, .slice b ws.length d]] W fun e w' => ∃ a1 c1, e = .returned (.slice a1 n c1) ∧ Below W.heap.size W w') := by
    refine (implFree_ok a b ps ws c d W (hp.below hbW) (hw.below hbW) hok hcap).mono ?_
    rintro e w' ⟨v, rfl, hown, hb⟩
    obtain ⟨a1, c1, rfl⟩ := owns_shape hown
    exact ⟨a1, c1, by rw [hn], hb⟩
  have HB := hide hbW
  clear hp hw hok hR hn hN hbW
  go_enter Tryz.func51, Tryz.ntmps51
  go_wp2_with fail
  rw [← hW]
  clear hW
  refine HF.out.mono ?_
  rintro e w1 ⟨a1, c1, rfl, hb1⟩
  have y0 := (hb1.cell (p := ⟨w.heap.size, 0, none⟩) hlt).trans x0
  have y1 := (hb1.cell (p := ⟨w.heap.size, 1, none⟩) hlt).trans x1
  have HB1 := hide hb1
  clear hb1 HF x0 x1
  by_cases h2 : n < 2
  · have t1 : decide ((n : Int) < 2) = true := by simp; omega
    have HRT : Hid (R = true) := by show _ = _; rw [HR.out]; exact crowdB_true.2 (HEN.out.2 (.inl h2))
    go_wp2
    go_ret
    exact ⟨ret_bool HRT.out.symm, after HB.out HB1.out⟩
  · have t1 : decide ((n : Int) < 2) = false := by simp; omega
    by_cases h3 : n = 2
    · subst h3
      go_wp2_with fail
      refine (HN.out w1 HB1.out).mono ?_
      rintro e w2 ⟨rfl, hb2⟩
      have HB2 := hide (after HB.out (after HB1.out hb2))
      have h0 := HN0.out (by trivial)
      obtain ⟨p, rfl⟩ : ∃ p : Nat, N = p := ⟨N.toNat, by omega⟩
      have hm : Int.tmod (p : Int) 6 = (p : Int) % 6 := Int.tmod_eq_emod_of_nonneg (by omega)
      clear hb2 HN HB1 y0 y1
      by_cases h6 : (p : Int) % 6 = 0
      · have t2 : (Int.tmod (p : Int) 6 == 0) = true := by rw [hm]; simpa using h6
        have t3 : ((p : Int) % 6 == 0) = true := by simpa using h6
        have HRT : Hid (R = true) := by show _ = _; rw [HR.out]; exact crowdB_true.2 (HEN.out.2 (.inr ⟨by trivial, h6⟩))
        go_wp2
        go_ret
        exact ⟨ret_bool HRT.out.symm, HB2.out⟩
      · have t2 : (Int.tmod (p : Int) 6 == 0) = false := by rw [hm]; simpa using h6
        have t3 : ((p : Int) % 6 == 0) = false := by simpa using h6
        have HRF : Hid (R = false) := by
          show _ = _
          rw [HR.out]
          cases hc : crowdB ps ws with
          | false => rfl
          | true => rcases HEN.out.1 (crowdB_true.1 hc) with h | ⟨-, h⟩; omega; exact absurd h h6
        go_wp2
        go_ret
        exact ⟨ret_bool HRF.out.symm, HB2.out⟩
    · have t2 : ((n : Int) == 2) = false := by simp; omega
      have HRF : Hid (R = false) := by
        show _ = _
        rw [HR.out]
        cases hc : crowdB ps ws with
        | false => rfl
        | true => rcases HEN.out.1 (crowdB_true.1 hc) with h | ⟨h, -⟩ <;> omega
      go_wp2
      go_ret
      exact ⟨ret_bool HRF.out.symm, after HB.out HB1.out⟩
end Go.Proofs.YtghadfbpcbcpiaaGreat
