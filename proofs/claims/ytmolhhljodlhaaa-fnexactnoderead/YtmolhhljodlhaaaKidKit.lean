/-
  Rows of kids (a name and a number), and the program's kidsOf.
-/
import Derived.Test.YtmolhhljodlhaaaNodeKit
import Derived.Test.YtmolhhljodlhaaaStrLib
import Derived.Deep.RegionHeld
import Derived.Deep.RegionHeldLaw
namespace Go.Proofs.Ytmolhhljodlhaaa
open Go.RowKit Go.ChangeShapes Go.WideShapes Go.ChangeAt Go.Joins Go.Deep
set_option maxRecDepth 100000
set_option linter.unusedVariables false

def vsKid (xs : List (ByteArray × Int)) : List Value := xs.flatMap fun x => [.string x.1, .int .i64 x.2]
theorem vsKid_at : ∀ (xs : List (ByteArray × Int)) (k : Nat) (x : ByteArray × Int), xs[k]? = some x → (vsKid xs)[k * 2]? = some (.string x.1) ∧ (vsKid xs)[k * 2 + 1]? = some (.int .i64 x.2) := by
  intro xs
  induction xs with
  | nil => intro k x h; simp at h
  | cons y ys ih =>
    intro k x h
    cases k with
    | zero => simp at h; subst h; simp [vsKid]
    | succ k =>
      have := ih k x (by simpa using h)
      have e : vsKid (y :: ys) = [.string y.1, .int .i64 y.2] ++ vsKid ys := rfl
      rw [e, List.getElem?_append_right (by simp; omega), List.getElem?_append_right (by simp; omega)]
      have a0 : (k + 1) * 2 - 2 = k * 2 := by omega
      have a1 : (k + 1) * 2 + 1 - 2 = k * 2 + 1 := by omega
      simp only [List.length_cons, List.length_nil, Nat.zero_add, Nat.reduceAdd, a0, a1]
      exact this
theorem vsKid_len (xs : List (ByteArray × Int)) : (vsKid xs).length = xs.length * 2 := by
  induction xs with
  | nil => rfl
  | cons y ys ih =>
    have e : vsKid (y :: ys) = [.string y.1, .int .i64 y.2] ++ vsKid ys := rfl
    rw [e, List.length_append, ih]; simp; omega
theorem vsKid_snoc (xs : List (ByteArray × Int)) (x : ByteArray × Int) : vsKid xs ++ [.string x.1, .int .i64 x.2] = vsKid (xs ++ [x]) := by simp [vsKid]
theorem vsKid_app (xs ys : List (ByteArray × Int)) : vsKid (xs ++ ys) = vsKid xs ++ vsKid ys := by simp [vsKid]
theorem rdKid_at {w : World} {a : Option Addr} {xs : List (ByteArray × Int)} {k : Nat} (h : Rd w a (vsKid xs)) (hk : k < xs.length) :
    ∃ b off x, a = some ⟨b, off, none⟩ ∧ w.cell? ⟨b, off + k * 2, none⟩ = some (.string x.1) ∧ w.cell? ⟨b, off + k * 2 + 1, none⟩ = some (.int .i64 x.2) ∧ Hid (xs[k]? = some x) := by
  obtain ⟨h0, h1⟩ := vsKid_at xs k xs[k] (List.getElem?_eq_getElem hk)
  rcases h with h | ⟨b, off, ha, hc⟩
  · rw [h] at h0; simp at h0
  · exact ⟨b, off, xs[k], ha, hc _ _ h0, hc _ _ h1, List.getElem?_eq_getElem hk⟩

/-- Kids as far as they are written. -/
def halfKid (xs : List (ByteArray × Int)) (k : Nat) : List Value := vsKid (xs.take k ++ List.replicate (xs.length - k) (⟨#[]⟩, 0))
theorem halfKid_none (xs : List (ByteArray × Int)) : halfKid xs 0 = (madeCells (#[.string ⟨#[]⟩, .int .i64 0] : Array Value) (xs.length * 2)).toList := by
  have := madeRows #[.string ⟨#[]⟩, .int .i64 0] xs.length
  rw [show (#[.string ⟨#[]⟩, .int .i64 0] : Array Value).size = 2 from rfl] at this
  rw [this]
  simp [halfKid, vsKid, List.flatMap, List.map_replicate]
theorem halfKid_full (xs : List (ByteArray × Int)) : halfKid xs xs.length = vsKid xs := by simp [halfKid]
theorem vsKid_set (xs : List (ByteArray × Int)) (k : Nat) (x : ByteArray × Int) (hk : k < xs.length) : ((vsKid xs).set (k * 2) (.string x.1)).set (k * 2 + 1) (.int .i64 x.2) = vsKid (xs.set k x) := by
  induction xs generalizing k with
  | nil => simp at hk
  | cons y ys ih =>
    have e : vsKid (y :: ys) = .string y.1 :: .int .i64 y.2 :: vsKid ys := rfl
    cases k with
    | zero => rw [e]; rfl
    | succ k =>
      have h1 : (k + 1) * 2 = (k * 2) + 1 + 1 := by omega
      have e2 : vsKid (y :: ys.set k x) = .string y.1 :: .int .i64 y.2 :: vsKid (ys.set k x) := rfl
      rw [e, h1, List.set_cons_succ, List.set_cons_succ, List.set_cons_succ, List.set_cons_succ, List.set_cons_succ, e2, ← ih k (by simpa using hk)]
theorem halfKid_step {xs : List (ByteArray × Int)} {k : Nat} {x : ByteArray × Int} (h : xs[k]? = some x) : ((halfKid xs k).set (k * 2) (.string x.1)).set (k * 2 + 1) (.int .i64 x.2) = halfKid xs (k + 1) := by
  have hk : k < xs.length := by
    rcases Nat.lt_or_ge k xs.length with h' | h'
    · exact h'
    · simp [h'] at h
  unfold halfKid
  rw [vsKid_set _ _ _ (by simp; omega), half_set h]

def KidsOwn (w : World) (base : Nat) (v : Value) (K : List (ByteArray × Int)) : Prop := w.ownsRow base 62 2 v K.length (vsKid K)
def KidsRd (w : World) (v : Value) (K : List (ByteArray × Int)) : Prop := ∃ a c, v = .slice a K.length c ∧ Rd w a (vsKid K)
theorem owns_shape2 {w : World} {base : Nat} {e : TypeId} {v : Value} {n m : Nat} {xs : List Value} (h : w.ownsRow base e m v n xs) : ∃ a c, v = .slice a n c := by
  rcases h with ⟨_, ⟨rfl, rfl⟩ | ⟨g, cap, cur, rfl, -⟩⟩
  · exact ⟨_, _, rfl⟩
  · exact ⟨_, _, rfl⟩
theorem KidsOwn.shape {u : World} {base : Nat} {v : Value} {K : List (ByteArray × Int)} (h : KidsOwn u base v K) : ∃ a c, v = .slice a K.length c := owns_shape2 h
theorem rd_of_own2 {w : World} {base : Nat} {e : TypeId} {v : Value} {n m : Nat} {xs : List Value} (h : w.ownsRow base e m v n xs) : ∃ a c, v = .slice a n c ∧ Rd w a xs := by
  rcases id h with ⟨hl, ⟨rfl, rfl⟩ | ⟨g, cap, cur, rfl, hb, hg, hn, hm, hs, ht⟩⟩
  · refine ⟨none, 0, rfl, .inl ?_⟩
    simpa using hl
  · refine ⟨_, _, rfl, .inr ⟨g, 0, rfl, fun i v hv => ?_⟩⟩
    have hi : i < xs.length := by
      rcases Nat.lt_or_ge i xs.length with h' | h'
      · exact h'
      · simp [h'] at hv
    have := h.cellAt i (by omega)
    rw [Nat.zero_add, this]; exact hv
theorem KidsOwn.rd {u : World} {base : Nat} {v : Value} {K : List (ByteArray × Int)} (h : KidsOwn u base v K) : KidsRd u v K := rd_of_own2 h
theorem KidsRd.below {u u' : World} {v : Value} {K : List (ByteArray × Int)} (h : KidsRd u v K) (hb : Below u.heap.size u u') : KidsRd u' v K := by
  obtain ⟨a, c, rfl, h1⟩ := h
  exact ⟨a, c, rfl, h1.below hb⟩
theorem KidsOwn.below {u u' : World} {base : Nat} {v : Value} {K : List (ByteArray × Int)} (h : KidsOwn u base v K) (hb : Below u.heap.size u u') : KidsOwn u' base v K := owns_below h hb
theorem KidsOwn.blk {u : World} {base : Nat} {v : Value} {K : List (ByteArray × Int)} (h : KidsOwn u base v K) {k : Nat} (hk : v.ownBlock = some k) : base ≤ k ∧ k < u.heap.size := World.ownsRow.lt h k hk

theorem infoKid : (Try.prog.info? 62).map (fun i => (i.zero, i.size, i.bytes)) = some (some (Value.agg #[.string ⟨#[]⟩, .int .i64 0]), 2, 24) := by kernel_rfl

set_option maxHeartbeats 3200000 in
theorem kidsOf_any (dir : Bool) (a b : Option Addr) (ns : List ByteArray) (ks : List Int) (dat : ByteArray) (c d : Nat) (w : World) (hp : Rd w a (vsString ns)) (hw : Rd w b (vsInt ks)) (hl : ns.length ≤ 1048576) (hm : ks.length ≤ 1048576) :
    Calls Try.prog 41 #[.agg #[.bool dir, .slice a ns.length c, .slice b ks.length d, .string dat]] w fun e w' => ∃ v, e = .returned v ∧ KidsOwn w' w.heap.size v (ns.zip ks) ∧ Below w.heap.size w w' := by
  obtain ⟨i0, hi, hz0, hz1, hz2⟩ := info_parts infoKid
  obtain ⟨W, hW⟩ : ∃ W, W = w.alloc (Obj.cells #[.bool dir, .slice a ns.length c, .slice b ks.length d, .string dat] 29) := ⟨_, rfl⟩
  have hbW : Below w.heap.size w W := by rw [hW]; exact (Below.refl _ _).alloc (Nat.le_refl _) _
  have k0 : At W w.heap.size [.bool dir, .slice a ns.length c, .slice b ks.length d, .string dat] := by rw [hW]; exact at_new w [_, _, _, _] _
  have hnk : (ns.zip ks).length = min ns.length ks.length := by simp
  obtain ⟨n, hn⟩ : ∃ n, n = (ns.zip ks).length := ⟨_, rfl⟩
  have c1 : W.cell? ⟨w.heap.size, 1, none⟩ = some (.slice a ns.length c) := k0.2 1 (by simp)
  have c2 : W.cell? ⟨w.heap.size, 2, none⟩ = some (.slice b ks.length d) := k0.2 2 (by simp)
  have HN := hide hn
  have HMIN : Hid ((if ks.length < ns.length then (ks.length : Int) else (ns.length : Int)) = (n : Int)) := by show _ = _; split <;> omega
  have hn1 : n ≤ ns.length ∧ n ≤ ks.length := by omega
  clear hn hnk
  have HP := hide (hp.below hbW)
  have HQ := hide (hw.below hbW)
  clear hp hw
  go_enter Try.func41, Try.ntmps41
  go_wp2_with (at_make; rw [HMIN.out]; rw [← hW]; refine wpList_make_full _ rfl _ _ 58 rfl W.heap.size 62 i0 (Value.agg #[.string ⟨#[]⟩, .int .i64 0]) 2 Try.underlying58 hi hz0 hz1 .i64 .i64 n n n rfl rfl rfl rfl (by rw [hz2]; omega) (by unfold maxLen; omega) (Nat.le_refl _) ?_; intro w1 hown hgrow)
  have hb1 : Below W.heap.size W w1 := (Below.refl _ _).grown hgrow (Nat.le_refl _) (by simp)
  have hown1 : w1.ownsRow W.heap.size 62 2 (.slice (some ⟨W.heap.size, 0, none⟩) n n) n (halfKid (ns.zip ks) 0) := by
    rw [halfKid_none, ← HN.out]
    exact hown
  have hs1 : w.heap.size < W.heap.size := k0.1
  have k1 := k0.below hb1
  have hsW : W.heap.size = w.heap.size + 1 := by rw [hW]; simp
  rw [hsW] at hown1 hs1 hb1
  clear hown hgrow
  generalize hgg : w.heap.size + 1 = g at hown1 hs1 hb1 hsW ⊢
  have hg : g = W.heap.size := hsW.symm
  have HP1 := hide (fun u (hu : Below g W u) => HP.out.below (hg ▸ hu))
  have HQ1 := hide (fun u (hu : Below g W u) => HQ.out.below (hg ▸ hu))
  have HK := hide (fun u (hu : Below g W u) => k0.below (hg ▸ hu))
  have HB := hide hbW
  have HG := hide hg
  clear k1 k0 hbW c1 c2 HP HQ hg hW hsW hgg
  go_loopw [15] (fun i wr => ∃ k : Nat, k ≤ n ∧ i = .int .i64 k ∧ Hid (wr.ownsRow g 62 2 (.slice (some ⟨g, 0, none⟩) n n) n (halfKid (ns.zip ks) k)) ∧ Hid (Below g W wr)) (fun i _ => n - (intOf i).toNat)
  case atStart => exact ⟨0, Nat.zero_le _, rfl, hown1, hb1⟩
  case round =>
    obtain ⟨k, hk, rfl, hown, hbel⟩ := hrel
    clear hown1 hb1
    by_cases hlt : k < n
    · have hkn : k < ns.length := by omega
      have hkk : k < ks.length := by omega
      obtain ⟨b1, o1, x, rfl, h0, HX⟩ := rdString_at (HP1.out wr hbel.out) hkn
      obtain ⟨b2, o2, y, rfl, h1, HY⟩ := rdInt_at (HQ1.out wr hbel.out) hkk
      have hz : (ns.zip ks)[k]? = some (x, y) := by rw [List.getElem?_zip_eq_some]; exact ⟨HX.out, HY.out⟩
      have kk := HK.out wr hbel.out
      have c1 : wr.cell? ⟨w.heap.size, 1, none⟩ = some (.slice (some ⟨b1, o1, none⟩) ns.length c) := kk.2 1 (by simp)
      have c2 : wr.cell? ⟨w.heap.size, 2, none⟩ = some (.slice (some ⟨b2, o2, none⟩) ks.length d) := kk.2 2 (by simp)
      have hlen : (halfKid (ns.zip ks) k).length = n * 2 := by have := hown.out.1; omega
      have cA : ∀ j, j < n * 2 → ∃ u, wr.cell? ⟨g, j, none⟩ = some u := fun j hj => ⟨(halfKid (ns.zip ks) k)[j], by rw [hown.out.cellAt j (by omega)]; simp [hlen, hj]⟩
      obtain ⟨v0, hc0⟩ := cA (k * 2) (by omega)
      have hf0 := hown.out.frozenAt (k * 2)
      obtain ⟨v1, hc1⟩ := cA (k * 2 + 1) (by omega)
      have hf1 := hown.out.frozenAt (k * 2 + 1)
      have hki : (k : Int) < (n : Int) := by omega
      have hki1 : (k : Int) < (ns.length : Int) := by omega
      have hki2 : (k : Int) < (ks.length : Int) := by omega
      clear kk cA hlen
      have hb1g : b1 < g := by
        obtain ⟨b', o', x', e', h', -⟩ := rdString_at (HP1.out W (Below.refl _ _)) hkn
        injection e' with e'; injection e' with e1 e2
        have := lt_of_cell h'; have := HG.out; omega
      have hb2g : b2 < g := by
        obtain ⟨b', o', x', e', h', -⟩ := rdInt_at (HQ1.out W (Below.refl _ _)) hkk
        injection e' with e'; injection e' with e1 e2
        have := lt_of_cell h'; have := HG.out; omega
      have hso0 := hown.out.stored (k * 2) (.string x)
      have hso1 := hso0.1.stored (k * 2 + 1) (.int .i64 y)
      have HO2 := hide hso1.1
      clear hso0 hso1
      have HKEEP : Hid (∀ va vb (u : World), u = ((wr.setCell ⟨g, k * 2, none⟩ va).setCell ⟨g, k * 2 + 1, none⟩ vb).drew → u.cell? ⟨w.heap.size, 1, none⟩ = some (.slice (some ⟨b1, o1, none⟩) ns.length c) ∧ u.cell? ⟨w.heap.size, 2, none⟩ = some (.slice (some ⟨b2, o2, none⟩) ks.length d) ∧ u.cell? ⟨b1, o1 + k, none⟩ = some (.string x) ∧ u.cell? ⟨b2, o2 + k, none⟩ = some (.int .i64 y)) := by
        intro va vb u hu
        subst hu
        refine ⟨?_, ?_, ?_, ?_⟩
        · exact cell_other (cell_other c1 (Nat.ne_of_gt hs1)) (Nat.ne_of_gt hs1)
        · exact cell_other (cell_other c2 (Nat.ne_of_gt hs1)) (Nat.ne_of_gt hs1)
        · exact cell_other (cell_other h0 (Nat.ne_of_gt hb1g)) (Nat.ne_of_gt hb1g)
        · exact cell_other (cell_other h1 (Nat.ne_of_gt hb2g)) (Nat.ne_of_gt hb2g)
      have hkp := HKEEP.out (.string x) (.int .i64 y) _ rfl
      go_wp2
      go_region_held (fun u => u.cell? ⟨w.heap.size, 1, none⟩ = some (.slice (some ⟨b1, o1, none⟩) ns.length c) ∧ u.cell? ⟨w.heap.size, 2, none⟩ = some (.slice (some ⟨b2, o2, none⟩) ks.length d) ∧ u.cell? ⟨b1, o1 + k, none⟩ = some (.string x) ∧ u.cell? ⟨b2, o2 + k, none⟩ = some (.int .i64 y)) (first | assumption | go_keep) (fail)
      have HO3 : Hid (((wr.setCell ⟨g, k * 2, none⟩ (.string x)).setCell ⟨g, k * 2 + 1, none⟩ (.int .i64 y)).drew.ownsRow g 62 2 (.slice (some ⟨g, 0, none⟩) n n) n (halfKid (ns.zip ks) (k + 1))) := by
        have := HO2.out
        rw [halfKid_step hz] at this
        exact owns_below this (after_drew (Below.refl _ _) 1)
      have HB3 : Hid (Below g W ((wr.setCell ⟨g, k * 2, none⟩ (.string x)).setCell ⟨g, k * 2 + 1, none⟩ (.int .i64 y)).drew) := ((hbel.out.setCell (by show _ ≤ _; simp) _).setCell (by show _ ≤ _; simp) _).trans ⟨rfl, rfl, rfl, Nat.le_refl _, fun _ _ => rfl⟩
      clear hkp HKEEP HO2 hown hbel c1 c2 h0 h1 hc0 hc1 hf0 hf1
      go_wp2
      go_roundw
      case rel => exact ⟨k + 1, by omega, by go_num, HO3, HB3⟩
      case measure => simp [intOf]; omega
    · have hkl : k = n := by omega
      have HF : Hid (KidsOwn wr w.heap.size (.slice (some ⟨g, 0, none⟩) n n) (ns.zip ks)) := by
        have := hown.out
        rw [hkl, HN.out, halfKid_full] at this
        rw [HN.out]
        exact owns_mono this (by have := HG.out; have := HB.out.size; omega)
      have HBF : Hid (Below w.heap.size w wr) := HB.out.trans (hbel.out.mono (by have := HG.out; have := HB.out.size; omega))
      clear hown hbel
      go_wp2
      go_ret
      exact ⟨_, rfl, HF.out, HBF.out⟩
end Go.Proofs.Ytmolhhljodlhaaa
