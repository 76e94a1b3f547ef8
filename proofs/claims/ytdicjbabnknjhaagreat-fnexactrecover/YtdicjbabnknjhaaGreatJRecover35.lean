/-
  'copy' of structs (of any width) into a row of the call's own.
  Contract of the program's gather.
  The log against its text: a batch, its text, what a text tells.
-/
import Derived.Test.YtdicjbabnknjhaaGreatJRecover34
import Derived.Laws.IdiomCopy
import Derived.Laws.CopyOwn
import Derived.Test.YtdicjbabnknjhaaGreatJRecover6
import Derived.Test.YtdicjbabnknjhaaGreatJRecover23
namespace Go.Proofs.YtdicjbabnknjhaaGreat
open Go.RowKit

theorem list_seg' {α : Type} (l : List α) (k : Nat) (v : α) (rest : List α) (hk : k + (rest.length + 1) ≤ l.length) :
    (l.set k v).take (k + 1) ++ (rest ++ (l.set k v).drop (k + 1 + rest.length)) = l.take k ++ (v :: (rest ++ l.drop (k + (rest.length + 1)))) := by
  have h1 : (l.set k v).take (k + 1) = l.take k ++ [v] := by
    apply List.ext_getElem?
    intro j
    simp only [List.getElem?_take, List.getElem?_set, List.getElem?_append, List.length_take]
    by_cases hj : j < k
    · have : min k l.length = k := by omega
      simp [hj, this, Nat.ne_of_gt hj]
      omega
    · by_cases hj2 : j = k
      · subst hj2
        have : min j l.length = j := by omega
        have hjl : j < l.length := by omega
        simp [this, hjl]
      · have : min k l.length = k := by omega
        have h3 : ¬ j < k + 1 := by omega
        simp [hj, this, h3]
        omega
  have h2 : (l.set k v).drop (k + 1 + rest.length) = l.drop (k + (rest.length + 1)) := by
    apply List.ext_getElem?
    intro j
    simp only [List.getElem?_drop, List.getElem?_set]
    have : ¬ k = k + 1 + rest.length + j := by omega
    simp [this]
    congr 1
    omega
  rw [h1, h2]
  simp
theorem splice_nil {α : Type} (L : List α) (o : Nat) : splice L o [] = L := by simp [splice]
theorem splice_cons {α : Type} (L : List α) (o : Nat) (v : α) (r : List α) (h : o + (r.length + 1) ≤ L.length) : splice (L.set o v) (o + 1) r = splice L o (v :: r) := by
  have := list_seg' L o v r h
  simpa [splice, Nat.add_assoc, Nat.add_comm, Nat.add_left_comm] using this

theorem setCells_own {base : Nat} {e : TypeId} {size g n cap : Nat} : ∀ (cs : List Value) (o : Nat) (w : World) (xs : List Value), w.ownsRow base e size (.slice (some ⟨g, 0, none⟩) n cap) n xs → o + cs.length ≤ xs.length →
    (w.setCells g o cs).ownsRow base e size (.slice (some ⟨g, 0, none⟩) n cap) n (splice xs o cs) ∧ w.grownBy (w.setCells g o cs) (some g) := by
  intro cs
  induction cs with
  | nil => intro o w xs h _; rw [splice_nil]; exact ⟨h, World.grownBy.refl _ _⟩
  | cons v r ih =>
    intro o w xs h hl
    rw [List.length_cons] at hl
    have hst := h.stored o v
    obtain ⟨k1, k2⟩ := ih (o + 1) _ _ hst.1 (by rw [List.length_set]; omega)
    rw [splice_cons xs o v r (by omega)] at k1
    exact ⟨k1, grown_trans hst.2 k2⟩

theorem run_copy_wide {P : Program} (w : World) (dT sT ty elem : TypeId) (b o dLen dCap : Nat) (a : Addr) (sLen sCap size m : Nat) (cs : List Value)
    (hu : P.underlying dT = some (.slice elem)) (hs : (P.info? elem).map (·.size) = some size) (hm : m = Nat.min sLen dLen) (hn : cs.length = m * size)
    (hsrc : ∀ j v, cs[j]? = some v → w.cell? (a.add j) = some v) (hc : ∀ j, j < cs.length → (w.cell? ⟨b, o + j, none⟩).isSome = true) (hf : ∀ j, j < cs.length → w.frozen? ⟨b, o + j, none⟩ = false) (h1 : ∀ v ∈ cs, v.oneCell' = true) :
    (Builtin.copy_ #[dT, sT] ty #[.slice (some ⟨b, o, none⟩) dLen dCap, .slice (some a) sLen sCap]).run P w = .ok (goInt m) (w.setCells b o cs) := by
  have hl := run_loadCells_list (P := P) w a cs hsrc
  have hst := run_storeCells_cells (P := P) b o cs 0 w (by simpa using hc) (by simpa using hf) h1
  rw [hn] at hl
  cases hq : P.info? elem with
  | none => simp [hq] at hs
  | some i =>
    have hi : i.size = size := by simpa [hq] using hs
    simp [Builtin.copy_, run_underlying hu, Builtin.lenOf, Builtin.firstCells, sizeOf, typeInfo, hq, hi, ← hm, hl, hst]
theorem run_copy_wide_none {P : Program} (w : World) (dT sT ty elem : TypeId) (d a : Option Addr) (dLen dCap sLen sCap size : Nat) (hu : P.underlying dT = some (.slice elem)) (hs : (P.info? elem).map (·.size) = some size) (hn : Nat.min sLen dLen = 0) :
    (Builtin.copy_ #[dT, sT] ty #[.slice d dLen dCap, .slice a sLen sCap]).run P w = .ok (goInt 0) w := by
  cases hq : P.info? elem with
  | none => simp [hq] at hs
  | some i =>
    have hl : ∀ (x : Addr), (loadCells x 0).run P w = .ok #[] w := fun x => by simpa using run_loadCells_list (P := P) w x [] (by simp)
    cases d <;> cases a <;> simp [Builtin.copy_, run_underlying hu, Builtin.lenOf, Builtin.firstCells, sizeOf, typeInfo, hq, hn, storeCells, hl]

/-- 'copy(row[k:], part)', the row being the call's own. -/
theorem wpList_copy_wide {P : Program} {w : World} {ops : Array Oper} {rest : List Oper} {o : Oper} {a : Act} {Q : Exit → Act → World → Prop} (hgd : o.guard = none) (d s : Operand) (dT sT : TypeId)
    (ho : o.op = .call { callee := .builtin .copy, args := #[d, s], argTypes := #[dT, sT] }) (elem : TypeId) (hu : P.underlying dT = some (.slice elem)) (size : Nat) (hsz : (P.info? elem).map (·.size) = some size)
    (dp sp : Option Addr) (dLen dCap sLen sCap : Nat) (hd : a.eval d = .slice dp dLen dCap) (hs : a.eval s = .slice sp sLen sCap)
    (base g n cap off m : Nat) (xs cs : List Value) (hown : w.ownsRow base elem size (.slice (some ⟨g, 0, none⟩) n cap) n xs) (hm : m = Nat.min sLen dLen) (hn : cs.length = m * size)
    (hpos : 0 < m → dp = some ⟨g, off, none⟩ ∧ ∃ ad, sp = some ad ∧ ∀ j v, cs[j]? = some v → w.cell? (ad.add j) = some v)
    (hfit : off + cs.length ≤ xs.length) (h1 : ∀ v ∈ cs, v.oneCell' = true)
    (h : ∀ w', w'.ownsRow base elem size (.slice (some ⟨g, 0, none⟩) n cap) n (splice xs off cs) → w.grownBy w' (some g) → wpList P ops Q rest (a.put o.dst (goInt m)) w') :
    wpList P ops Q (o :: rest) a w := by
  by_cases h0 : m = 0
  · obtain rfl : cs = [] := List.eq_nil_of_length_eq_zero (by rw [hn, h0, Nat.zero_mul])
    refine wpList_plain hgd fun K hK => ?_
    have hrun := run_copy_wide_none (P := P) w dT sT o.type elem dp sp dLen dCap sLen sCap size hu hsz (by rw [← hm, h0])
    unfold Oper.wp
    simp [execOp, ho, resolve, invoke, builtin, hd, hs, hrun, Result.andThen]
    refine hK _ _ ?_
    have := h w (by rw [splice_nil]; exact hown) (World.grownBy.refl _ _)
    rw [h0] at this; exact this
  · obtain ⟨rfl, ad, rfl, hsrc⟩ := hpos (by omega)
    have hl : xs.length = n * size := hown.1
    refine wpList_plain hgd fun K hK => ?_
    have hc : ∀ j, j < cs.length → (w.cell? ⟨g, off + j, none⟩).isSome = true := fun j hj => by
      have := hown.cellAt (off + j) (by omega)
      rw [this, List.getElem?_eq_getElem (by omega)]; rfl
    have hf : ∀ j, j < cs.length → w.frozen? ⟨g, off + j, none⟩ = false := fun j hj => hown.frozenAt (off + j)
    have hrun := run_copy_wide (P := P) w dT sT o.type elem g off dLen dCap ad sLen sCap size m cs hu hsz hm hn hsrc hc hf h1
    obtain ⟨k1, k2⟩ := setCells_own cs off w xs hown hfit
    unfold Oper.wp
    simp [execOp, ho, resolve, invoke, builtin, hd, hs, hrun, Result.andThen]
    exact hK _ _ (h _ k1 k2)
end Go.Proofs.YtdicjbabnknjhaaGreat

namespace Go.Proofs.YtdicjbabnknjhaaGreat
open Go.RowKit

/-- A row of slices: where each part lies. -/
def vsParts (G : List (Option Addr × Nat × List (Int × ByteArray))) : List Value := G.map fun x => .slice x.1 x.2.2.length x.2.1
def partsOf (G : List (Option Addr × Nat × List (Int × ByteArray))) : List (Int × ByteArray) := G.flatMap fun x => x.2.2
theorem partsOf_take {G : List (Option Addr × Nat × List (Int × ByteArray))} {k : Nat} {x : Option Addr × Nat × List (Int × ByteArray)} (h : G[k]? = some x) : partsOf (G.take (k + 1)) = partsOf (G.take k) ++ x.2.2 := by
  rw [List.take_add_one, h]; simp [partsOf]
theorem partsOf_le (G : List (Option Addr × Nat × List (Int × ByteArray))) (k : Nat) : (partsOf (G.take k)).length ≤ (partsOf G).length := by
  have : partsOf G = partsOf (G.take k) ++ partsOf (G.drop k) := by
    unfold partsOf; rw [← List.flatMap_append, List.take_append_drop]
  rw [this, List.length_append]; omega
theorem rdParts_at {w : World} {a : Option Addr} {G : List (Option Addr × Nat × List (Int × ByteArray))} {k : Nat} (h : Rd w a (vsParts G)) (hk : k < G.length) :
    ∃ b off x, a = some ⟨b, off, none⟩ ∧ w.cell? ⟨b, off + k, none⟩ = some (.slice x.1 x.2.2.length x.2.1) ∧ Hid (G[k]? = some x) := by
  obtain ⟨b, off, ha, hc⟩ := rd_at h (k := k) (by simpa [vsParts] using hk)
  refine ⟨b, off, G[k], ha, ?_, List.getElem?_eq_getElem hk⟩
  rw [hc]; simp [vsParts]
theorem vsPut_one (L : List (Int × ByteArray)) : ∀ v ∈ vsPut L, v.oneCell' = true := by
  intro v hv
  simp only [vsPut, List.mem_flatMap] at hv
  obtain ⟨x, -, hx⟩ := hv
  simp at hx
  rcases hx with rfl | rfl <;> rfl
/-- How far the gathering has come. -/
def halfG (A : List (Int × ByteArray)) (m : Nat) : List Value := vsPut A ++ vsPut (List.replicate m (0, (⟨#[]⟩ : ByteArray)))
theorem halfG_none (m : Nat) : halfG [] m = (madeCells (#[.int .i64 0, .string ⟨#[]⟩] : Array Value) (m * 2)).toList := by
  have := madeRows #[.int .i64 0, .string ⟨#[]⟩] m
  rw [show (#[.int .i64 0, .string ⟨#[]⟩] : Array Value).size = 2 from rfl] at this
  rw [this]
  simp [halfG, vsPut, List.flatMap, List.map_replicate]
theorem halfG_step (A B : List (Int × ByteArray)) (m : Nat) : splice (halfG A (B.length + m)) (A.length * 2) (vsPut B) = halfG (A ++ B) m := by
  have hA := vsPut_len A
  have hB := vsPut_len B
  unfold splice halfG
  rw [← hA, List.take_left, hB]
  have e : (vsPut A ++ vsPut (List.replicate (B.length + m) (0, (⟨#[]⟩ : ByteArray)))).drop ((vsPut A).length + B.length * 2) = vsPut (List.replicate m (0, (⟨#[]⟩ : ByteArray))) := by
    rw [show List.replicate (B.length + m) ((0 : Int), (⟨#[]⟩ : ByteArray)) = List.replicate B.length (0, ⟨#[]⟩) ++ List.replicate m (0, ⟨#[]⟩) from (List.replicate_append_replicate).symm, vsPut_app]
    have hz := vsPut_len (List.replicate B.length ((0 : Int), (⟨#[]⟩ : ByteArray)))
    rw [List.length_replicate] at hz
    rw [← hz, ← List.append_assoc, ← List.length_append, List.drop_left]
  rw [e, vsPut_app, List.append_assoc]
theorem halfG_len (A : List (Int × ByteArray)) (m : Nat) : (halfG A m).length = (A.length + m) * 2 := by
  unfold halfG
  rw [List.length_append, vsPut_len, vsPut_len, List.length_replicate]; omega

set_option maxRecDepth 100000 in
set_option maxHeartbeats 3200000 in
theorem gather_any (pa : Option Addr) (pc : Nat) (G : List (Option Addr × Nat × List (Int × ByteArray))) (w : World) (hr : Rd w pa (vsParts G)) (hg : ∀ x ∈ G, Rd w x.1 (vsPut x.2.2)) (hl : G.length ≤ 1000) (ht : (partsOf G).length ≤ 1048576) :
    Calls Tryz.prog 37 #[.slice pa G.length pc] w fun e w' => ∃ v, e = .returned v ∧ PutsOwn w' w.heap.size v (partsOf G) ∧ Below w.heap.size w w' := by
  obtain ⟨i0, hi, hz0, hz1, hz2⟩ := info_parts infoPut
  have hinfo : (Tryz.prog.info? 58).map (·.size) = some 2 := by rw [hi]; simp [hz1]
  have HR := hide hr
  have HG := hide hg
  obtain ⟨N, hN⟩ : ∃ N, N = (partsOf G).length := ⟨_, rfl⟩
  have hN1 : N ≤ 1048576 := by omega
  have HN := hide hN
  clear hr hg ht hN
  go_enter Tryz.func37, Tryz.ntmps37
  go_wp2_with fail
  go_loop [3, 12] (fun m i => ∃ k : Nat, k ≤ G.length ∧ i = .int .i64 k ∧ m = .int .i64 ((partsOf (G.take k)).length : Nat)) (fun _ i => G.length - (intOf i).toNat)
  case atStart => exact ⟨0, Nat.zero_le _, rfl, rfl⟩
  case round =>
    obtain ⟨k, hk, rfl, rfl⟩ := hrel
    by_cases hlt : k < G.length
    · have hki : (k : Int) < (G.length : Int) := by omega
      obtain ⟨b1, o1, x, rfl, h0, HX⟩ := rdParts_at HR.out hlt
      obtain ⟨xa, xc, xL⟩ := x
      have h0 : w.cell? ⟨b1, o1 + k, none⟩ = some (.slice xa xL.length xc) := h0
      have HP : Hid (((partsOf (G.take k)).length : Int) + (xL.length : Int) = ((partsOf (G.take (k + 1))).length : Nat)) := by
        have e : (partsOf (G.take (k + 1))).length = (partsOf (G.take k)).length + xL.length := by rw [partsOf_take HX.out, List.length_append]
        show _ = _
        omega
      have hle : ((partsOf (G.take k)).length : Int) + (xL.length : Int) ≤ 1048576 := by rw [HP.out]; have := partsOf_le G (k + 1); have := HN.out; omega
      have hP0 : 0 ≤ ((partsOf (G.take k)).length : Int) := by omega
      generalize hq : ((partsOf (G.take k)).length : Int) = q at HP hle hP0 ⊢
      clear hq
      go_wp2
      go_round
      case rel => exact ⟨k + 1, by omega, by go_num, by rw [HP.out]⟩
      case measure => simp [intOf]; omega
    · obtain rfl : k = G.length := by omega
      have hki : ¬ ((G.length : Nat) : Int) < (G.length : Int) := by omega
      have hq : ((partsOf (G.take G.length)).length : Int) = (N : Int) := by rw [List.take_length, HN.out]
      rw [hq]
      clear hq
      go_wp2_with (at_make; refine wpList_make_full _ rfl _ _ 38 rfl w.heap.size 58 i0 (Value.agg #[.int .i64 0, .string ⟨#[]⟩]) 2 Tryz.underlying38 hi hz0 hz1 .i64 .i64 N N N rfl rfl rfl rfl (by rw [hz2]; omega) (by unfold maxLen; omega) (Nat.le_refl _) ?_; intro w1 hown hgrow)
      have hb1 : Below w.heap.size w w1 := (Below.refl _ _).grown hgrow (Nat.le_refl _) (by simp)
      have HO1 : Hid (w1.ownsRow w.heap.size 58 2 (.slice (some ⟨w.heap.size, 0, none⟩) N N) N (halfG (partsOf (G.take 0)) (N - (partsOf (G.take 0)).length))) := by
        show World.ownsRow _ _ _ _ _ _ _
        have e : halfG (partsOf (G.take 0)) (N - (partsOf (G.take 0)).length) = (madeCells (#[.int .i64 0, .string ⟨#[]⟩] : Array Value) (N * 2)).toList := by
          rw [← halfG_none]; simp [partsOf]
        rw [e]; exact hown
      have HB1 := hide hb1
      clear hown hgrow hb1
      go_loopw [7, 25] (fun m i wr => ∃ k : Nat, k ≤ G.length ∧ i = .int .i64 k ∧ m = .int .i64 ((partsOf (G.take k)).length : Nat) ∧ Hid (wr.ownsRow w.heap.size 58 2 (.slice (some ⟨w.heap.size, 0, none⟩) N N) N (halfG (partsOf (G.take k)) (N - (partsOf (G.take k)).length))) ∧ Hid (Below w.heap.size w wr)) (fun _ i _ => G.length - (intOf i).toNat)
      case atStart => exact ⟨0, Nat.zero_le _, rfl, rfl, HO1, HB1⟩
      case round =>
        obtain ⟨k, hk, rfl, rfl, hown, hbel⟩ := hrel
        clear HO1 HB1
        by_cases hlt : k < G.length
        · have hki : (k : Int) < (G.length : Int) := by omega
          obtain ⟨b1, o1, x, he1, h0, HX⟩ := rdParts_at (HR.out.below hbel.out) hlt
          subst he1
          have HRX := hide ((HG.out x (List.mem_of_getElem? HX.out)).below hbel.out)
          obtain ⟨xa, xc, xL⟩ := x
          have h0 : wr.cell? ⟨b1, o1 + k, none⟩ = some (.slice xa xL.length xc) := h0
          have H0 := hide h0
          obtain ⟨A, hA⟩ : ∃ A, A = partsOf (G.take k) := ⟨_, rfl⟩
          have HA2 : Hid (partsOf (G.take (k + 1)) = A ++ xL) := by show _ = _; rw [partsOf_take HX.out, hA]
          have hle : A.length + xL.length ≤ N := by have := partsOf_le G (k + 1); have h2 := HN.out; rw [HA2.out, List.length_append] at this; omega
          rw [← hA] at hown ⊢
          have HVL : Hid ((vsPut xL).length = xL.length * 2) := vsPut_len xL
          have HFIT : Hid (A.length * 2 + (vsPut xL).length ≤ (halfG A (N - A.length)).length) := by show _ ≤ _; rw [vsPut_len, halfG_len]; omega
          have HSP : Hid (splice (halfG A (N - A.length)) (A.length * 2) (vsPut xL) = halfG (partsOf (G.take (k + 1))) (N - (partsOf (G.take (k + 1))).length)) := by
            show _ = _
            rw [HA2.out, List.length_append, ← halfG_step, show xL.length + (N - (A.length + xL.length)) = N - A.length by omega]
          have HLN : Hid (((partsOf (G.take (k + 1))).length : Int) = (A.length : Int) + (xL.length : Int)) := by show _ = _; rw [HA2.out, List.length_append]; omega
          clear hA h0
          have h0 : wr.cell? ⟨b1, o1 + k, none⟩ = some (.slice xa xL.length xc) := H0.out
          by_cases hAN : A.length < N
          · have hANi : (A.length : Int) < (N : Int) := by omega
            have HM : Hid (xL.length = Nat.min xL.length (N - A.length)) := by show _ = _; exact (Nat.min_eq_left (by omega)).symm
            have HPOS : Hid (0 < xL.length → (some ⟨w.heap.size, A.length * 2, none⟩ : Option Addr) = some ⟨w.heap.size, A.length * 2, none⟩ ∧ ∃ ad, xa = some ad ∧ ∀ j v, (vsPut xL)[j]? = some v → wr.cell? (ad.add j) = some v) := by
              intro hp
              refine ⟨rfl, ?_⟩
              rcases HRX.out with h | ⟨bx, ox, ha, hc⟩
              · have := vsPut_len xL
                have h' : vsPut xL = [] := h
                rw [h'] at this; simp at this; omega
              · refine ⟨_, ha, fun j v hj => ?_⟩
                rw [add_at]; exact hc j v hj
            go_wp2_with (refine wpList_copy_wide rfl (.tmp 32) (.tmp 33) 38 38 rfl 58 Tryz.underlying38 2 hinfo _ _ _ _ _ _ rfl rfl w.heap.size w.heap.size N N (A.length * 2) xL.length _ (vsPut xL) hown.out HM.out HVL.out HPOS.out HFIT.out (vsPut_one _) ?_; intro w4 ho4 hg4; have HO4 : Hid (w4.ownsRow w.heap.size 58 2 (.slice (some ⟨w.heap.size, 0, none⟩) N N) N (halfG (partsOf (G.take (k + 1))) (N - (partsOf (G.take (k + 1))).length))) := (by show World.ownsRow _ _ _ _ _ _ _; rw [HSP.out] at ho4; exact ho4); have HB4 : Hid (Below w.heap.size w w4) := hbel.out.trans (grown_below hown.out hg4 hbel.out.size); clear ho4 hg4)
            go_roundw
            case rel => exact ⟨k + 1, by omega, by go_num, by rw [HLN.out], HO4, HB4⟩
            case measure => simp [intOf]; omega
          · obtain rfl : xL = [] := List.eq_nil_of_length_eq_zero (by omega)
            have hANi : (A.length : Int) = (N : Int) := by simp at hle; omega
            have HFIT0 : Hid (A.length * 2 + ([] : List Value).length ≤ (halfG A (N - A.length)).length) := by show _ ≤ _; rw [halfG_len]; simp; omega
            have HPOS : Hid (0 < 0 → (some ⟨w.heap.size, 0, none⟩ : Option Addr) = some ⟨w.heap.size, A.length * 2, none⟩ ∧ ∃ ad, xa = some ad ∧ ∀ j v, ([] : List Value)[j]? = some v → wr.cell? (ad.add j) = some v) := fun h => absurd h (by decide)
            have HLN0 : Hid (((partsOf (G.take (k + 1))).length : Int) = (N : Int)) := by show _ = _; rw [HLN.out]; simp; omega
            have HSP0 : Hid (halfG A (N - A.length) = halfG (partsOf (G.take (k + 1))) (N - (partsOf (G.take (k + 1))).length)) := by show _ = _; rw [HA2.out, List.append_nil]
            clear HVL HFIT HSP HLN hle hAN
            go_wp2_with (refine wpList_copy_wide rfl (.tmp 32) (.tmp 33) 38 38 rfl 58 Tryz.underlying38 2 hinfo _ _ _ _ _ _ rfl rfl w.heap.size w.heap.size N N (A.length * 2) 0 _ [] hown.out rfl rfl HPOS.out HFIT0.out (fun v hv => by cases hv) ?_; intro w4 ho4 hg4; have HO4 : Hid (w4.ownsRow w.heap.size 58 2 (.slice (some ⟨w.heap.size, 0, none⟩) N N) N (halfG (partsOf (G.take (k + 1))) (N - (partsOf (G.take (k + 1))).length))) := (by show World.ownsRow _ _ _ _ _ _ _; rw [splice_nil, HSP0.out] at ho4; exact ho4); have HB4 : Hid (Below w.heap.size w w4) := hbel.out.trans (grown_below hown.out hg4 hbel.out.size); clear ho4 hg4)
            go_roundw
            case rel => exact ⟨k + 1, by omega, by go_num, by rw [HLN0.out], HO4, HB4⟩
            case measure => simp [intOf]; omega
        · obtain rfl : k = G.length := by omega
          have hki : ¬ ((G.length : Nat) : Int) < (G.length : Int) := by omega
          have HF : Hid (PutsOwn wr w.heap.size (.slice (some ⟨w.heap.size, 0, none⟩) N N) (partsOf G)) := by
            have h := hown.out
            rw [List.take_length, ← HN.out, Nat.sub_self] at h
            have e : halfG (partsOf G) 0 = vsPut (partsOf G) := by simp [halfG, vsPut]
            rw [e] at h
            show World.ownsRow _ _ _ _ _ _ _
            rw [← HN.out]; exact h
          clear hown
          go_wp2
          go_ret
          exact ⟨_, rfl, HF.out, hbel.out⟩
end Go.Proofs.YtdicjbabnknjhaaGreat

namespace Go.Proofs.YtdicjbabnknjhaaGreat
open Go.RowKit

/-- The put at a place is of a sector ahead of the log, and of none that stands ahead of it. -/
def putInP (L : List (Int × ByteArray)) (k : Nat) : Prop := ∃ x, L[k]? = some x ∧ (0 ≤ x.1 ∧ x.1 ≤ 23) ∧ ∀ j, j < k → ∀ y, L[j]? = some y → y.1 ≠ x.1
def inP (L : List (Int × ByteArray)) : Prop := L.length ≤ 3 ∧ ∀ k, k < L.length → putInP L k
def shortP (L : List (Int × ByteArray)) : Prop := ∀ x ∈ L, x.2.size ≤ 400
def putBt (x : Int × ByteArray) : List Int := putB x.1 ++ textB x.2
def putsB (L : List (Int × ByteArray)) : List Int := L.flatMap putBt
def logRest (L : List (Int × ByteArray)) : List Int := putB L.length ++ putsB L
def logFull (L : List (Int × ByteArray)) : List Int := putB (sumOf (logRest L)) ++ logRest L
open Classical in
noncomputable def logB (L : List (Int × ByteArray)) : List Int := if inP L ∧ shortP L ∧ L ≠ [] ∧ (logFull L).length ≤ 400 then logFull L else []
noncomputable def logT (L : List (Int × ByteArray)) : ByteArray := strOf (logB L)

theorem putBt_bytes (x : Int × ByteArray) : IsBytes (putBt x) := (putB_bytes _).app (textB_bytes _)
theorem putsB_bytes : ∀ (L : List (Int × ByteArray)), IsBytes (putsB L) := by
  intro L z hz
  obtain ⟨x, -, h⟩ := List.mem_flatMap.1 hz
  exact putBt_bytes x z h
theorem putsB_snoc (L : List (Int × ByteArray)) (x : Int × ByteArray) : putsB (L ++ [x]) = putsB L ++ putBt x := by simp [putsB]
theorem putsB_cons (L : List (Int × ByteArray)) (x : Int × ByteArray) : putsB (x :: L) = putBt x ++ putsB L := by simp [putsB]
theorem putBt_len (x : Int × ByteArray) : (putBt x).length ≤ 410 := by
  have h1 := putB_len x.1
  have h2 := textB_len x.2
  simp [putBt]; omega
theorem putsB_len (L : List (Int × ByteArray)) : (putsB L).length ≤ 410 * L.length := by
  induction L with
  | nil => simp [putsB]
  | cons x L ih => rw [putsB_cons, List.length_append, List.length_cons]; have := putBt_len x; omega
theorem logRest_bytes (L : List (Int × ByteArray)) : IsBytes (logRest L) := (putB_bytes _).app (putsB_bytes L)
theorem logFull_bytes (L : List (Int × ByteArray)) : IsBytes (logFull L) := (putB_bytes _).app (logRest_bytes L)
theorem logB_bytes (L : List (Int × ByteArray)) : IsBytes (logB L) := by
  unfold logB
  split
  · exact logFull_bytes L
  · intro z hz; simp at hz
theorem logB_len (L : List (Int × ByteArray)) : (logB L).length ≤ 400 := by
  unfold logB
  split
  · next h => exact h.2.2.2
  · simp
theorem logT_size (L : List (Int × ByteArray)) : (logT L).size ≤ 400 := by unfold logT; rw [strOf_size]; exact logB_len L
theorem strOf_nil : strOf [] = ByteArray.empty := rfl
theorem logT_no {L : List (Int × ByteArray)} (h : ¬ (inP L ∧ shortP L ∧ L ≠ [] ∧ (logFull L).length ≤ 400)) : logT L = ByteArray.empty := by unfold logT logB; rw [if_neg h]; rfl
theorem logT_yes {L : List (Int × ByteArray)} (h : inP L ∧ shortP L ∧ L ≠ [] ∧ (logFull L).length ≤ 400) : logT L = strOf (logFull L) := by unfold logT logB; rw [if_pos h]
theorem logFull_pos (L : List (Int × ByteArray)) : 0 < (logFull L).length := by
  have hs := sumOf_bd (logRest L)
  have : 0 < (putB (sumOf (logRest L))).length := by
    unfold putB
    rw [if_pos (by omega)]
    exact (numF_len 4 _).1
  simp [logFull]; omega
theorem logT_some {L : List (Int × ByteArray)} (h : logT L ≠ ByteArray.empty) : inP L ∧ shortP L ∧ L ≠ [] ∧ (logFull L).length ≤ 400 := Classical.byContradiction fun hn => h (logT_no hn)

/-- A put that begins at a place. -/
def getP (zs : List Int) (i : Nat) : Option (Int × List Int × Nat) :=
  match getN zs (i : Int) with
  | none => none
  | some (s, j) => match getT zs (j : Int) with
    | none => none
    | some (ys, l) => some (s, ys, l)
/-- So many puts, one behind the other, behind those that were read. -/
def getL (zs : List Int) : Nat → Nat → List (Int × ByteArray) → Option (List (Int × ByteArray))
  | 0, _, acc => some acc
  | n + 1, i, acc => match getP zs i with
    | none => none
    | some (s, ys, l) => getL zs n l (acc ++ [(s, strOf ys)])
theorem getP_no1 {zs : List Int} {i : Nat} (h : getN zs (i : Int) = none) : getP zs i = none := by unfold getP; rw [h]
theorem getP_no2 {zs : List Int} {i j : Nat} {s : Int} (h : getN zs (i : Int) = some (s, j)) (h2 : getT zs (j : Int) = none) : getP zs i = none := by unfold getP; rw [h]; simp only []; rw [h2]
theorem getP_yes {zs : List Int} {i j l : Nat} {s : Int} {ys : List Int} (h : getN zs (i : Int) = some (s, j)) (h2 : getT zs (j : Int) = some (ys, l)) : getP zs i = some (s, ys, l) := by unfold getP; rw [h]; simp only []; rw [h2]
theorem getL_no {zs : List Int} {n i : Nat} {acc : List (Int × ByteArray)} (h : getP zs i = none) : getL zs (n + 1) i acc = none := by unfold getL; rw [h]
theorem getL_yes {zs : List Int} {n i l : Nat} {s : Int} {ys : List Int} {acc : List (Int × ByteArray)} (h : getP zs i = some (s, ys, l)) : getL zs (n + 1) i acc = getL zs n l (acc ++ [(s, strOf ys)]) := by rw [getL, h]
theorem getL_len {zs : List Int} : ∀ (n i : Nat) (acc L : List (Int × ByteArray)), getL zs n i acc = some L → L.length = acc.length + n := by
  intro n
  induction n with
  | zero => intro i acc L h; simp [getL] at h; subst h; simp
  | succ n ih =>
    intro i acc L h
    cases hp : getP zs i with
    | none => rw [getL_no hp] at h; cases h
    | some r =>
      obtain ⟨s, ys, l⟩ := r
      rw [getL_yes hp] at h
      have := ih _ _ _ h
      rw [List.length_append, List.length_singleton] at this
      omega

open Classical in
/-- What a text tells: the batch whose text it is. -/
noncomputable def logR (t : ByteArray) : Option (List (Int × ByteArray)) :=
  match getN (strB t) 0 with
  | none => none
  | some (_, i) => match getN (strB t) (i : Int) with
    | none => none
    | some (n, j) => if 3 < n then none else match getL (strB t) n.toNat j [] with
      | none => none
      | some L => if t ≠ ByteArray.empty ∧ logT L = t then some L else none
/-- The puts that a text would tell, were it one. -/
def logI (t : ByteArray) : List (Int × ByteArray) :=
  match getN (strB t) 0 with
  | none => []
  | some (_, i) => match getN (strB t) (i : Int) with
    | none => []
    | some (n, j) => (getL (strB t) (min n.toNat 3) j []).getD []

theorem getT_mid2 {d : ByteArray} (p r : List Int) (h : ¬ 400 < d.size) : getT (p ++ (textB d ++ r)) (p.length : Int) = some (strB d, p.length + (textB d).length) := by
  unfold getT textB
  rw [if_neg h, List.append_assoc, getN_mid p (strB d ++ r) (by omega) (by omega)]
  simp only []
  have hl := strB_len d
  rw [if_neg (by rw [List.length_append, List.length_append, List.length_append]; omega)]
  have e : (p ++ (putB ↑d.size ++ (strB d ++ r))).drop (p.length + (putB ↑d.size).length) = strB d ++ r := by
    rw [← List.append_assoc, ← List.length_append, List.drop_left]
  rw [e]
  have e2 : ((d.size : Nat) : Int).toNat = (strB d).length := by omega
  rw [e2, List.take_left, List.length_append, Nat.add_assoc]
theorem getL_mid : ∀ (M : List (Int × ByteArray)) (p : List Int) (acc : List (Int × ByteArray)), (∀ x ∈ M, (0 ≤ x.1 ∧ x.1 ≤ 1000000000) ∧ x.2.size ≤ 400) → getL (p ++ putsB M) M.length p.length acc = some (acc ++ M) := by
  intro M
  induction M with
  | nil => intro p acc _; simp [getL]
  | cons x M ih =>
    intro p acc h
    obtain ⟨⟨h0, h1⟩, h2⟩ := h x (by simp)
    have e1 : p ++ putsB (x :: M) = p ++ (putB x.1 ++ (textB x.2 ++ putsB M)) := by rw [putsB_cons, putBt]; simp
    have g1 : getN (p ++ putsB (x :: M)) (p.length : Int) = some (x.1, p.length + (putB x.1).length) := by rw [e1]; exact getN_mid p _ h0 h1
    have e2 : p ++ putsB (x :: M) = (p ++ putB x.1) ++ (textB x.2 ++ putsB M) := by rw [e1]; simp
    have g2 : getT (p ++ putsB (x :: M)) ((p.length + (putB x.1).length : Nat) : Int) = some (strB x.2, p.length + (putB x.1).length + (textB x.2).length) := by
      have := getT_mid2 (d := x.2) (p ++ putB x.1) (putsB M) (by omega)
      rw [List.length_append] at this
      rw [e2]; exact this
    have e3 : p ++ putsB (x :: M) = (p ++ putBt x) ++ putsB M := by rw [e1, putBt]; simp
    rw [List.length_cons, getL_yes (getP_yes g1 g2), strOf_strB]
    have := ih (p ++ putBt x) (acc ++ [x]) (fun y hy => h y (by simp [hy]))
    rw [e3]
    have e4 : (p ++ putBt x).length = p.length + (putB x.1).length + (textB x.2).length := by simp [putBt]; omega
    rw [e4] at this
    rw [this]
    simp

theorem in_bd {L : List (Int × ByteArray)} (h : inP L) (hs : shortP L) : ∀ x ∈ L, (0 ≤ x.1 ∧ x.1 ≤ 1000000000) ∧ x.2.size ≤ 400 := by
  intro x hx
  obtain ⟨k, hk, he⟩ := List.mem_iff_getElem.1 hx
  obtain ⟨y, hy, hb, -⟩ := h.2 k hk
  rw [List.getElem?_eq_getElem hk, he] at hy
  cases hy
  exact ⟨by omega, hs x hx⟩
/-- What the bytes of a batch's text tell. -/
theorem full_reads {L : List (Int × ByteArray)} (h : inP L) (hs : shortP L) :
    ∃ i j : Nat, getN (logFull L) 0 = some (sumOf (logRest L), i) ∧ getN (logFull L) (i : Int) = some ((L.length : Int), j) ∧ getL (logFull L) L.length j [] = some L := by
  have hsum := sumOf_bd (logRest L)
  refine ⟨(putB (sumOf (logRest L))).length, (putB (sumOf (logRest L))).length + (putB (L.length : Int)).length, getN_putB _ (by omega) (by omega), ?_, ?_⟩
  · have := getN_mid (x := (L.length : Int)) (putB (sumOf (logRest L))) (putsB L) (by omega) (by have := h.1; omega)
    exact this
  · have := getL_mid L (putB (sumOf (logRest L)) ++ putB (L.length : Int)) [] (in_bd h hs)
    rw [List.length_append] at this
    have e : logFull L = putB (sumOf (logRest L)) ++ putB (L.length : Int) ++ putsB L := by simp [logFull, logRest]
    rw [e]
    simpa using this
theorem text_ne {t : ByteArray} (h : 0 < t.size) : t ≠ ByteArray.empty := by rintro rfl; simp at h
theorem logT_ne {L : List (Int × ByteArray)} (h : inP L ∧ shortP L ∧ L ≠ [] ∧ (logFull L).length ≤ 400) : logT L ≠ ByteArray.empty := by
  apply text_ne
  rw [logT_yes h, strOf_size]; exact logFull_pos L
theorem logR_of {L : List (Int × ByteArray)} (h : logT L ≠ ByteArray.empty) : logR (logT L) = some L := by
  have hb := logT_some h
  obtain ⟨i, j, h1, h2, h3⟩ := full_reads hb.1 hb.2.1
  have e : strB (logT L) = logFull L := by rw [logT_yes hb, strB_strOf (logFull_bytes L)]
  unfold logR
  rw [e, h1]
  simp only []
  rw [h2]
  simp only []
  rw [if_neg (by have := hb.1.1; omega), Int.toNat_natCast, h3]
  simp [h]
theorem logR_some {t : ByteArray} {L : List (Int × ByteArray)} (h : logR t = some L) : logT L = t ∧ t ≠ ByteArray.empty := by
  unfold logR at h
  split at h
  · cases h
  · split at h
    · cases h
    · split at h
      · cases h
      · split at h
        · cases h
        · split at h
          · next hc => cases h; exact ⟨hc.2, hc.1⟩
          · cases h
theorem logR_iff {t : ByteArray} {L : List (Int × ByteArray)} : logR t = some L ↔ logT L = t ∧ t ≠ ByteArray.empty :=
  ⟨logR_some, fun ⟨h1, h2⟩ => by rw [← h1]; exact logR_of (by rw [h1]; exact h2)⟩
/-- Read back: a text's puts, were it one, are its batch. -/
theorem logI_of {L : List (Int × ByteArray)} (h : logT L ≠ ByteArray.empty) : logI (logT L) = L := by
  have hb := logT_some h
  obtain ⟨i, j, h1, h2, h3⟩ := full_reads hb.1 hb.2.1
  have e : strB (logT L) = logFull L := by rw [logT_yes hb, strB_strOf (logFull_bytes L)]
  unfold logI
  rw [e, h1]
  simp only []
  rw [h2]
  simp only []
  rw [Int.toNat_natCast, Nat.min_eq_left hb.1.1, h3]
  rfl
/-- The text is that of the puts that it would tell: then it is a batch's. -/
theorem logI_text {t : ByteArray} (h0 : logI t ≠ []) (h : logT (logI t) = t) : logR t = some (logI t) := by
  refine logR_iff.2 ⟨h, fun h1 => h0 ?_⟩
  subst h1
  unfold logI
  simp [strB, getN, getF]
theorem logI_none {t : ByteArray} (h : ¬ (logI t ≠ [] ∧ logT (logI t) = t)) : logR t = none := by
  cases hr : logR t with
  | none => rfl
  | some L =>
    obtain ⟨h1, h2⟩ := logR_some hr
    have h3 : logT L ≠ ByteArray.empty := by rw [h1]; exact h2
    have h4 := logI_of h3
    rw [h1] at h4
    have hb := logT_some h3
    exact absurd ⟨by rw [h4]; exact hb.2.2.1, by rw [h4]; exact h1⟩ h

end Go.Proofs.YtdicjbabnknjhaaGreat
