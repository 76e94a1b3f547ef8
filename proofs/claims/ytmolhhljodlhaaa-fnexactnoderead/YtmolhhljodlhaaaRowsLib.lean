/-
  My own small laws for rows of structs, over no program's function: a variable's cells ('CV'), rows that are made, rows that came in as arguments.
-/
import Derived.Test.YtmolhhljodlhaaaLawKit
import Derived.Test.YtmolhhljodlhaaaArgFtl
import Derived.Deep.Slices
import Derived.Laws.OwnMore
namespace Go.Proofs.Ytmolhhljodlhaaa
open Go.RowKit Go.Deep

/-- The variable at block p holds the cells xs, and may be written. -/
def CV (u : World) (p : Nat) (xs : List Value) : Prop := p < u.heap.size ∧ (∀ i v, xs[i]? = some v → u.cell? ⟨p, i, none⟩ = some v) ∧ ∀ j, u.frozen? ⟨p, j, none⟩ = false
theorem cv_new (u : World) (xs : List Value) (t : TypeId) : CV (u.alloc (.cells xs.toArray t)) u.heap.size xs :=
  ⟨by simp, fun i v h => by rw [World.cell?_alloc_new]; simpa using h, fun j => by simp⟩
theorem CV.below {u u' : World} {p : Nat} {xs : List Value} (h : CV u p xs) (hb : Below u.heap.size u u') : CV u' p xs :=
  ⟨Nat.lt_of_lt_of_le h.1 hb.size, fun i v hv => (hb.cell (p := ⟨p, i, none⟩) h.1).trans (h.2.1 i v hv), fun j => (hb.frozen (p := ⟨p, j, none⟩) h.1).trans (h.2.2 j)⟩

theorem madeRows (z : Array Value) (m : Nat) : (madeCells z (m * z.size)).toList = (List.replicate m z.toList).flatten := by
  induction m with
  | zero => simp [madeCells]
  | succ m ih =>
    have e : (m + 1) * z.size = m * z.size + z.size := by rw [Nat.succ_mul]
    rw [List.replicate_succ', List.flatten_append, ← ih]
    simp only [madeCells, Array.toList_map, Array.toList_range, e, List.range_add, List.map_append, List.map_map]
    congr 1
    apply List.ext_getElem?
    intro j
    by_cases hj : j < z.size
    · have hm : (m * z.size + j) % z.size = j := by rw [Nat.add_comm, Nat.add_mul_mod_self_right]; exact Nat.mod_eq_of_lt hj
      simp [hj, hm]
    · simp [hj]

/-- What is stored in a row, one element of it. -/
theorem half_set {X : Type} {xs : List X} {z x : X} {k : Nat} (h : xs[k]? = some x) : (xs.take k ++ List.replicate (xs.length - k) z).set k x = xs.take (k + 1) ++ List.replicate (xs.length - (k + 1)) z := by
  have hk : k < xs.length := by
    rcases Nat.lt_or_ge k xs.length with h' | h'
    · exact h'
    · simp [h'] at h
  have hr : xs.length - k = (xs.length - (k + 1)) + 1 := by omega
  have hl : (xs.take k).length = k := by rw [List.length_take]; omega
  rw [hr, List.replicate_succ, List.set_append_right _ _ (by omega), hl, Nat.sub_self, List.set_cons_zero, List.take_add_one, h]
  simp

/-- A row of structs that came in: of each element what its cells are. -/
theorem rdRows_of {H : Type} {enc : TypeId × Value → H} {P : Program} {W : World} {fuel : Nat} {t e : TypeId} {v : Value} {y : DataW H × List MemPlace} {X : Type} (n : Nat) (cf : X → List Value) (good : X → Prop) (hn : ∀ x, (cf x).length = n) (h0 : 0 < n)
    (ht : P.underlying t = some (.slice e)) (hc : P.cellsOf e = n) (h : DataW.trod enc P W 0 (fun _ => true) true fuel t [v] = some y)
    (hel : ∀ (m : Nat) (cs : List Value) (z : DataW H × List MemPlace), cs.length = n → DataW.trod enc P W 0 (fun _ => true) true m e cs = some z → ∃ x, cs = cf x ∧ good x) :
    ∃ (a : Option Addr) (xs : List X) (c : Nat), v = .slice a xs.length c ∧ Rd W a (xs.flatMap cf) ∧ xs.length ≤ maxLen ∧ ∀ x ∈ xs, good x := by
  rcases open_slice ht h with ⟨hcs, _⟩ | ⟨a, len, cap, m, fu, D, Pl, hcs, hb, hl, hm, hmm, _, hx⟩
  · simp at hcs; subst hcs
    exact ⟨none, [], 0, rfl, .inl rfl, by simp, by simp⟩
  · simp at hcs; subst hcs
    have hlm : len ≤ m := by rw [hmm]; split <;> omega
    have each : ∀ i, i < len → ∃ q : X, W.cells? 0 (a.add (i * n)) n = some (cf q) ∧ good q := by
      intro i hi
      obtain ⟨cs', h1, h2⟩ := hx i (by omega)
      rw [hc] at h1
      obtain ⟨_, hlen, _⟩ := World.cells?_some h1
      obtain ⟨x, rfl, hg⟩ := hel _ cs' _ hlen h2
      exact ⟨x, h1, hg⟩
    by_cases hlen0 : len = 0
    · subst hlen0
      exact ⟨some a, [], cap, rfl, .inl rfl, by simp, by simp⟩
    · obtain ⟨x0, -⟩ := each 0 (by omega)
      haveI : Inhabited X := ⟨x0⟩
      obtain ⟨q, hq⟩ := choose_lt each
      have hlen : ((List.range len).map q).length = len := by simp
      refine ⟨some a, (List.range len).map q, cap, by rw [hlen], ?_, by omega, fun x hx => ?_⟩
      · obtain ⟨b, off, spot⟩ := a
        have hcell : ∀ i, i < len → ∀ j v, (cf (q i))[j]? = some v → W.cell? ((⟨b, off, spot⟩ : Addr).add (i * n + j)) = some v := by
          intro i hi j v hv
          obtain ⟨_, hl1, hcl⟩ := World.cells?_some (hq i hi).1
          have hj : j < n := by
            rcases Nat.lt_or_ge j (cf (q i)).length with h' | h'
            · rw [hn] at h'; exact h'
            · simp [h'] at hv
          have := hcl j hj
          rw [add_add] at this
          rw [this]; exact hv
        have hspot : spot = none := by
          have hp : 0 < (cf (q 0)).length := by rw [hn]; exact h0
          have := hcell 0 (by omega) 0 _ (List.getElem?_eq_getElem hp)
          simp only [Nat.zero_mul, Nat.add_zero] at this
          simpa [Addr.add] using World.cell?_spot this
        subst hspot
        refine .inr ⟨b, off, rfl, fun i v hv => ?_⟩
        have hfl : ∀ (L : List Nat), (L.flatMap fun r => cf (q r)).length = L.length * n := by
          intro L
          induction L with
          | nil => simp
          | cons r L ih => rw [List.flatMap_cons, List.length_append, ih, hn, List.length_cons, Nat.succ_mul]; omega
        have hat : ∀ (k : Nat), ∀ i v, (((List.range k).map q).flatMap cf)[i]? = some v → i / n < k ∧ (cf (q (i / n)))[i % n]? = some v := by
          intro k
          induction k with
          | zero => intro i v hv; simp at hv
          | succ k ih =>
            intro i v hv
            rw [List.range_succ, List.map_append, List.flatMap_append, List.map_cons, List.map_nil, List.flatMap_cons, List.flatMap_nil, List.append_nil] at hv
            have hlk : (((List.range k).map q).flatMap cf).length = k * n := by
              have := hfl (List.range k)
              rw [List.length_range] at this
              rw [← this, List.flatMap_map]
            by_cases hi : i < k * n
            · rw [List.getElem?_append_left (by omega)] at hv
              obtain ⟨h1, h2⟩ := ih i v hv
              exact ⟨by omega, h2⟩
            · rw [List.getElem?_append_right (by omega), hlk] at hv
              have hlt : i - k * n < n := by
                rcases Nat.lt_or_ge (i - k * n) (cf (q k)).length with h' | h'
                · rw [hn] at h'; exact h'
                · simp [h'] at hv
              have hd : i / n = k := by
                have : i = (i - k * n) + k * n := by omega
                rw [this, Nat.add_mul_div_right _ _ h0, Nat.div_eq_of_lt hlt]; omega
              have hm' : i % n = i - k * n := by
                have : i = (i - k * n) + k * n := by omega
                rw [this, Nat.add_mul_mod_self_right, Nat.mod_eq_of_lt hlt]; omega
              rw [hd, hm']
              exact ⟨by omega, hv⟩
        obtain ⟨h1, h2⟩ := hat len i v hv
        have h3 := hcell (i / n) h1 (i % n) v h2
        have h4 : i / n * n + i % n = i := Nat.div_add_mod' i n
        rw [h4] at h3
        have ea : (⟨b, off, none⟩ : Addr).add i = ⟨b, off + i, none⟩ := by
          by_cases h0 : i = 0
          · subst h0; simp [Addr.add]
          · simp [Addr.add, h0]
        rw [ea] at h3
        exact h3
      · obtain ⟨i, hi, rfl⟩ := List.mem_map.1 hx
        exact (hq i (List.mem_range.1 hi)).2

theorem ownsN_shape {w : World} {base n size : Nat} {e : TypeId} {v : Value} {xs : List Value} (h : w.ownsRow base e size v n xs) : ∃ a c, v = .slice a n c := by
  rcases h with ⟨_, ⟨rfl, rfl⟩ | ⟨g, cap, cur, rfl, -⟩⟩
  · exact ⟨_, _, rfl⟩
  · exact ⟨_, _, rfl⟩
theorem ownsN_cap {w : World} {base size : Nat} {e : TypeId} {a : Option Addr} {n c m : Nat} {xs : List Value} (h : w.ownsRow base e size (.slice a n c) m xs) : n ≤ c := by
  rcases h with ⟨_, ⟨h, rfl⟩ | ⟨g, cap, cur, h, _, _, h', _⟩⟩
  · simp at h; omega
  · simp at h; omega
theorem rd_of_ownN {w : World} {base size : Nat} {e : TypeId} {a : Option Addr} {n c : Nat} {xs : List Value} (h : w.ownsRow base e size (.slice a n c) n xs) : Rd w a xs := by
  rcases id h with ⟨hl, ⟨_, rfl⟩ | ⟨g, cap, cur, he, -⟩⟩
  · left; simpa using hl
  · simp at he
    obtain ⟨rfl, rfl⟩ := he
    refine .inr ⟨g, 0, rfl, fun i v hv => ?_⟩
    have hi : i < n * size := by
      rcases Nat.lt_or_ge i xs.length with h' | h'
      · omega
      · simp [h'] at hv
    rw [Nat.zero_add, h.cellAt i (by omega)]
    exact hv
theorem grown_of_below {w w' : World} {row : Option Nat} (hb : Below w.heap.size w w') : w.grownBy w' row := ⟨hb.os, hb.tape, hb.output, hb.size, fun i hi _ => hb.block i hi⟩

end Go.Proofs.Ytmolhhljodlhaaa
