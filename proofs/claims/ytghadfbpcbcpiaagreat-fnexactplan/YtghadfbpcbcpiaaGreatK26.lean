/-
  What the laws' walks carry along of rows of acts: read, owned, marked; the laws' helpers over them.
  What Plan answers, of both: in the form that its law's walk takes.
-/
import Derived.Test.YtghadfbpcbcpiaaGreatK25
import Derived.Test.YtghadfbpcbcpiaaGreatK24
namespace Go.Proofs.YtghadfbpcbcpiaaGreat
open Go.RowKit

def ActsRd (w : World) (v : Value) (cs : List (Int × Int × ByteArray)) : Prop := ∃ a c, v = .slice a cs.length c ∧ Rd w a (vsAct cs)
def ActsMk (w : World) (base : Nat) (v : Value) (n q : Nat) : Prop := w.ownsRow base 62 3 v n (marksA q n)
theorem rd_of_own3 {w : World} {base : Nat} {e : TypeId} {a : Option Addr} {n c : Nat} {xs : List Value} (h : w.ownsRow base e 3 (.slice a n c) n xs) : Rd w a xs := by
  rcases id h with ⟨hl, ⟨_, rfl⟩ | ⟨g, cap, cur, he, -⟩⟩
  · left; simpa using hl
  · simp at he
    obtain ⟨rfl, rfl⟩ := he
    refine .inr ⟨g, 0, rfl, fun i v hv => ?_⟩
    have hi : i < n * 3 := by
      rcases Nat.lt_or_ge i xs.length with h' | h'
      · omega
      · simp [h'] at hv
    rw [Nat.zero_add, h.cellAt i (by omega)]
    exact hv
theorem ActsOwn.shape {u : World} {base : Nat} {v : Value} {cs : List (Int × Int × ByteArray)} (h : ActsOwn u base v cs) : ∃ a c, v = .slice a cs.length c := owns3_shape h
theorem ActsOwn.rd {u : World} {base : Nat} {v : Value} {cs : List (Int × Int × ByteArray)} (h : ActsOwn u base v cs) : ActsRd u v cs := by
  obtain ⟨a, c, rfl⟩ := h.shape
  exact ⟨a, c, rfl, rd_of_own3 h⟩
theorem ActsRd.below {u u' : World} {v : Value} {cs : List (Int × Int × ByteArray)} (h : ActsRd u v cs) (hb : Below u.heap.size u u') : ActsRd u' v cs := by
  obtain ⟨a, c, rfl, h1⟩ := h
  exact ⟨a, c, rfl, h1.below hb⟩
theorem ActsOwn.below {u u' : World} {base : Nat} {v : Value} {cs : List (Int × Int × ByteArray)} (h : ActsOwn u base v cs) (hb : Below u.heap.size u u') : ActsOwn u' base v cs := owns_below h hb
theorem ActsMk.below {u u' : World} {base : Nat} {v : Value} {n q : Nat} (h : ActsMk u base v n q) (hb : Below u.heap.size u u') : ActsMk u' base v n q := owns_below h hb
theorem ActsOwn.only {u u' : World} {base : Nat} {v : Value} {cs : List (Int × Int × ByteArray)} {L : List (Option Nat)} (h : ActsOwn u base v cs) (hO : OnlyIn u u' L) (hn : ∀ k, some k ∈ bk v → some k ∉ L) : ActsOwn u' base v cs := by
  obtain ⟨a, c, rfl⟩ := h.shape
  exact hO.owns h (fun k hk => hn k (by rw [bk_slice, hk]; simp))
theorem ActsMk.only {u u' : World} {base : Nat} {v : Value} {n q : Nat} {L : List (Option Nat)} (h : ActsMk u base v n q) (hO : OnlyIn u u' L) (hn : ∀ k, some k ∈ bk v → some k ∉ L) : ActsMk u' base v n q := by
  obtain ⟨a, c, rfl⟩ := owns3_shape h
  exact hO.owns h (fun k hk => hn k (by rw [bk_slice, hk]; simp))
theorem ActsOwn.blk {u : World} {base : Nat} {v : Value} {cs : List (Int × Int × ByteArray)} (h : ActsOwn u base v cs) {k : Nat} (hk : some k ∈ bk v) : base ≤ k ∧ k < u.heap.size := by
  obtain ⟨a, c, rfl⟩ := h.shape
  rw [bk_slice] at hk
  simp only [List.mem_cons, List.not_mem_nil, or_false] at hk
  exact World.ownsRow.lt h k hk.symm
theorem acts_eq {u : World} {v v' : Value} {cs : List (Int × Int × ByteArray)} (h : ActsRd u v cs) (h' : ActsRd u v' cs) (hl : cs.length ≤ 1048576) :
    Calls Tryz.prog 8 #[v, v'] u fun e w' => e = .returned (.bool true) ∧ Below u.heap.size u w' := by
  obtain ⟨a, c, rfl, h1⟩ := h
  obtain ⟨a', c', rfl, h1'⟩ := h'
  exact eqActS_same a a' cs c c' u h1 h1' hl
theorem acts_mark {u : World} {base : Nat} {v : Value} {cs : List (Int × Int × ByteArray)} {q : Nat} (h : ActsOwn u base v cs) (hl : cs.length ≤ 1048576) (_hq0 : 0 < q) (hq : q ≤ 1000000) :
    Calls Tryz.prog 11 #[v, .int .i64 q] u fun e w' => e = .returned (.int .i64 ((q + cs.length * 3 : Nat) : Int)) ∧ ActsMk w' base v cs.length q ∧ OnlyIn u w' (bk v) := by
  obtain ⟨a, c, rfl⟩ := h.shape
  refine (markActS_any (.slice a cs.length c) cs.length _ base q u h hl (by omega)).mono ?_
  rintro e w' ⟨rfl, k1, hg⟩
  exact ⟨rfl, k1, OnlyIn.of_grown hg⟩
theorem acts_held {u : World} {base : Nat} {v : Value} {n q : Nat} (h : ActsMk u base v n q) (hl : n ≤ 1048576) (_hq0 : 0 < q) (hq : q ≤ 1000000) :
    Calls Tryz.prog 12 #[v, .int .i64 q] u fun e w' => e = .returned (.int .i64 ((q + n * 3 : Nat) : Int)) ∧ Below u.heap.size u w' :=
  heldActS_any v n base q u h hl (by omega)
/-- Acts and what is mounted lie apart: their rows are of other kinds. -/
theorem acts_ftl_apart {u : World} {base base' : Nat} {v v' : Value} {cs : List (Int × Int × ByteArray)} {ps : List ByteArray} {ws ms : List Int} {q : Int} (h : ActsOwn u base v cs) (h' : FtlOwn u base' v' ps ws ms q) : (∀ k, some k ∈ bk v → some k ∉ bk v') ∧ ∀ k, some k ∈ bk v' → some k ∉ bk v := by
  obtain ⟨a, c, rfl⟩ := h.shape
  obtain ⟨v1, v2, v3, rfl, o1, o2, o3, -⟩ := h'
  have key : ∀ k, some k ∈ bk (.slice a cs.length c) → some k ∉ bk (.agg #[v1, v2, v3, .int .i64 q]) := by
    intro k hk hk'
    rw [bk_slice] at hk
    simp only [List.mem_cons, List.not_mem_nil, or_false] at hk
    simp only [bk, List.map_cons, List.map_nil, List.mem_cons, List.not_mem_nil, or_false, Value.ownBlock] at hk'
    have hk := hk.symm
    rcases hk' with e | e | e | e
    · exact kind_ne2 h o1 (by decide) k hk e.symm
    · exact kind_ne2 h o2 (by decide) k hk e.symm
    · exact kind_ne2 h o3 (by decide) k hk e.symm
    · cases e
  exact ⟨key, fun k hk hk' => key k hk' hk⟩
end Go.Proofs.YtghadfbpcbcpiaaGreat

namespace Go.Proofs.YtghadfbpcbcpiaaGreat
open Go.RowKit

theorem specPlan_fn (a b e0 : Option Addr) (ps : List ByteArray) (ws ms : List Int) (c d f : Nat) (q s : Int) (t : ByteArray) (w : World) (hp : Rd w a (vsString ps)) (hw : Rd w b (vsInt ws)) (hms : Rd w e0 (vsInt ms)) (hl : ps.length ≤ 1048576) (hm : ws.length ≤ 1048576) (hn : ms.length ≤ 1048576) (hs : ∀ s ∈ ps, s.size ≤ 1048576) (ht : t.size ≤ 1048576) (hs0 : -9223372036854775808 ≤ s) (hs1 : s ≤ 9223372036854775807) :
    Calls Tryz.prog 5 #[.agg #[.slice a ps.length c, .slice b ws.length d, .slice e0 ms.length f, .int .i64 q], .int .i64 s, .string t] w fun e w' => PlanIs w w' e (planR ps ws ms q s t) := by
  cases hok : ftlOkB ps ws ms q with
  | true =>
    refine (specPlan_ok a b e0 ps ws ms c d f q s t w hp hw hms hok ht hs0 hs1).mono ?_
    intro e w' h
    exact planIs_of hok h
  | false =>
    refine (specPlan_bad a b e0 ps ws ms c d f q s t w hp hw hms hl hm hn hs hok).mono ?_
    rintro e w' ⟨va, vf, rfl, ha, hf, hb⟩
    unfold planR
    rw [if_neg (by rw [hok]; decide)]
    exact ⟨va, vf, rfl, ha, hf, hb⟩
theorem planR_len (ps : List ByteArray) (ws ms : List Int) (q s : Int) (t : ByteArray) : (planR ps ws ms q s t).1.length ≤ 2000 ∧ (planR ps ws ms q s t).2.1.1.length ≤ 2000 ∧ (planR ps ws ms q s t).2.1.2.1.length ≤ 2000 ∧ (planR ps ws ms q s t).2.1.2.2.1.length ≤ 2000 := by
  unfold planR
  split
  · next hok =>
    obtain ⟨hch, hmm, -⟩ := ftlOk_parts hok
    split
    · exact ⟨Nat.zero_le _, by show ps.length ≤ _; rw [hch.1]; decide, by show ws.length ≤ _; rw [hch.2.1]; decide, by show ms.length ≤ _; rw [← hmm, mMap_len]; decide⟩
    · next r hr =>
      obtain ⟨h1, h2⟩ := pPlan_right hch hr
      exact ⟨by show r.2.2.length ≤ _; omega, by show r.1.length ≤ _; rw [h1.1]; decide, by show r.2.1.length ≤ _; rw [h1.2.1]; decide, by show (mMap r.1).length ≤ _; rw [mMap_len]; decide⟩
  · exact ⟨by decide, by decide, by decide, by decide⟩

theorem fnExactPlan_both (ps : List ByteArray) (ws ms : List Int) (q : Int) (s : Int) (t : ByteArray) (hk0 : ps.length ≤ 1048576) (hk1 : ws.length ≤ 1048576) (hk2 : ms.length ≤ 1048576) (hs : ∀ s ∈ ps, s.size ≤ 1048576) (_hq : (Lit.int .i64 q).wf = true) (hx : (Lit.int .i64 s).wf = true) (ht : t.size ≤ 1048576) :
    ∃ (G0cs : List (Int × Int × ByteArray)) (G1ps : List ByteArray) (G1ws G1ms : List Int) (G1q : Int) (S2 : Bool), (G0cs.length ≤ 2000 ∧ G1ps.length ≤ 2000 ∧ G1ws.length ≤ 2000 ∧ G1ms.length ≤ 2000) ∧
      Hid (∀ (u : World) (v : Value), FtlRd u v ps ws ms q → Calls Tryz.prog 5 #[v, .int .i64 s, .string t] u fun e w' => ∃ v0 v1, e = .returned (.tuple #[v0, v1, .bool S2]) ∧ (ActsOwn w' u.heap.size v0 G0cs ∧ FtlOwn w' u.heap.size v1 G1ps G1ws G1ms G1q) ∧ Below u.heap.size u w') ∧
      Hid (∀ (u : World) (v : Value), FtlRd u v ps ws ms q → Calls Tryz.prog 7 #[v, .int .i64 s, .string t] u fun e w' => ∃ v0 v1, e = .returned (.tuple #[v0, v1, .bool S2]) ∧ (ActsOwn w' u.heap.size v0 G0cs ∧ FtlOwn w' u.heap.size v1 G1ps G1ws G1ms G1q) ∧ Below u.heap.size u w') := by
  obtain ⟨x0, x1⟩ := bounds_i64 hx
  refine ⟨(planR ps ws ms q s t).1, (planR ps ws ms q s t).2.1.1, (planR ps ws ms q s t).2.1.2.1, (planR ps ws ms q s t).2.1.2.2.1, (planR ps ws ms q s t).2.1.2.2.2, (planR ps ws ms q s t).2.2, planR_len _ _ _ _ _ _, ?_, ?_⟩
  · rintro u v ⟨a, c, b, d, e, f, rfl, h1, h2, h3⟩
    refine (specPlan_fn a b e ps ws ms c d f q s t u h1 h2 h3 hk0 hk1 hk2 hs ht x0 x1).mono ?_
    rintro e w' ⟨va, vf, rfl, ha, hf, hb⟩
    exact ⟨va, vf, rfl, ⟨ha, hf⟩, hb⟩
  · rintro u v ⟨a, c, b, d, e, f, rfl, h1, h2, h3⟩
    refine (implPlan_fn a b e ps ws ms c d f q s t u h1 h2 h3 hk0 hk1 hk2 hs ht x0 x1).mono ?_
    rintro e w' ⟨va, vf, rfl, ha, hf, hb⟩
    exact ⟨va, vf, rfl, ⟨ha, hf⟩, hb⟩
end Go.Proofs.YtghadfbpcbcpiaaGreat
