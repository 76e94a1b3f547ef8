/-
  Rows of Put: their data, the laws' helpers over them, what the laws' walks carry along, and such a row as it came in as an argument.
  Contract of the program's Writes: the work's writeAll, the closure that is handed on, planned.
  Contracts of the laws' helpers over rows of acts: eqActS of equal rows, markActS, heldActS.
-/
import Derived.Test.YtghlnagainodaaaGreatJWrites33
import Derived.Test.YtghlnagainodaaaGreatJWrites31
import Derived.Test.YtghlnagainodaaaGreatJWrites32
import Derived.Test.YtghlnagainodaaaGreatJWrites22
import Derived.Test.YtghlnagainodaaaGreatJWrites1
namespace Go.Proofs.YtghlnagainodaaaGreat
open Go.RowKit Go.ChangeShapes Go.WideShapes Go.ChangeAt Go.Joins Go.Deep

/-- The cells of a row. -/
def vsPut (xs : List (Int × ByteArray)) : List Value := xs.flatMap fun x => [.int .i64 x.1, .string x.2]
theorem vsPut_at : ∀ (xs : List (Int × ByteArray)) (k : Nat) (x : Int × ByteArray), xs[k]? = some x → (vsPut xs)[k * 2]? = some (.int .i64 x.1) ∧ (vsPut xs)[k * 2 + 1]? = some (.string x.2) := by
  intro xs
  induction xs with
  | nil => intro k x h; simp at h
  | cons y ys ih =>
    intro k x h
    cases k with
    | zero => simp at h; subst h; simp [vsPut]
    | succ k =>
      have := ih k x (by simpa using h)
      have e : vsPut (y :: ys) = [.int .i64 y.1, .string y.2] ++ vsPut ys := rfl
      rw [e, List.getElem?_append_right (by simp; omega), List.getElem?_append_right (by simp; omega)]
      have a0 : (k + 1) * 2 - 2 = k * 2 := by omega
      have a1 : (k + 1) * 2 + 1 - 2 = k * 2 + 1 := by omega
      simp only [List.length_cons, List.length_nil, Nat.zero_add, Nat.reduceAdd, a0, a1]
      exact this
theorem vsPut_len (xs : List (Int × ByteArray)) : (vsPut xs).length = xs.length * 2 := by
  induction xs with
  | nil => rfl
  | cons y ys ih =>
    have e : vsPut (y :: ys) = [.int .i64 y.1, .string y.2] ++ vsPut ys := rfl
    rw [e, List.length_append, ih]; simp; omega
theorem vsPut_snoc (xs : List (Int × ByteArray)) (x : Int × ByteArray) : vsPut xs ++ [.int .i64 x.1, .string x.2] = vsPut (xs ++ [x]) := by simp [vsPut]
theorem vsPut_app (xs ys : List (Int × ByteArray)) : vsPut (xs ++ ys) = vsPut xs ++ vsPut ys := by simp [vsPut]
theorem rdPut_at {w : World} {a : Option Addr} {xs : List (Int × ByteArray)} {k : Nat} (h : Rd w a (vsPut xs)) (hk : k < xs.length) :
    ∃ b off x, a = some ⟨b, off, none⟩ ∧ w.cell? ⟨b, off + k * 2, none⟩ = some (.int .i64 x.1) ∧ w.cell? ⟨b, off + k * 2 + 1, none⟩ = some (.string x.2) ∧ Hid (xs[k]? = some x) := by
  obtain ⟨h0, h1⟩ := vsPut_at xs k xs[k] (List.getElem?_eq_getElem hk)
  rcases h with h | ⟨b, off, ha, hc⟩
  · rw [h] at h0; simp at h0
  · exact ⟨b, off, xs[k], ha, hc _ _ h0, hc _ _ h1, List.getElem?_eq_getElem hk⟩

set_option maxRecDepth 100000 in
set_option maxHeartbeats 1600000 in
theorem toPut_any (zA : Int) (zB : ByteArray) (w : World) :
    Calls Tryz.prog 26 #[.agg #[.int .i64 zA, .string zB]] w fun e w' => e = .returned (.agg #[.int .i64 zA, .string zB]) ∧ Below w.heap.size w w' := by
  obtain ⟨A, hA⟩ : ∃ A, A = w.alloc (Obj.cells #[.int .i64 zA, .string zB] 51) := ⟨_, rfl⟩
  obtain ⟨A2, hA2⟩ : ∃ A2, A2 = A.alloc (Obj.cells #[.int .i64 0, .string ⟨#[]⟩] 55) := ⟨_, rfl⟩
  obtain ⟨W, hW⟩ : ∃ W, W = A2.alloc (Obj.cells #[.int .i64 0, .string ⟨#[]⟩] 55) := ⟨_, rfl⟩
  have hsA : A.heap.size = w.heap.size + 1 := by rw [hA]; simp
  have hsA2 : A2.heap.size = w.heap.size + 1 + 1 := by rw [hA2]; simp [hsA]
  have hb0 : Below w.heap.size w A := by rw [hA]; exact (Below.refl _ _).alloc (Nat.le_refl _) _
  have hb1 : Below A.heap.size A A2 := by rw [hA2]; exact (Below.refl _ _).alloc (Nat.le_refl _) _
  have hb2 : Below A2.heap.size A2 W := by rw [hW]; exact (Below.refl _ _).alloc (Nat.le_refl _) _
  have k0 : CV W w.heap.size [.int .i64 zA, .string zB] := by
    have : CV A w.heap.size [.int .i64 zA, .string zB] := by rw [hA]; exact cv_new _ _ _
    exact (this.below hb1).below hb2
  have k1 : CV W (w.heap.size + 1) [.int .i64 0, .string ⟨#[]⟩] := by
    have : CV A2 A.heap.size [.int .i64 0, .string ⟨#[]⟩] := by rw [hA2]; exact cv_new _ _ _
    rw [hsA] at this
    exact this.below hb2
  have k2 : CV W (w.heap.size + 1 + 1) [.int .i64 0, .string ⟨#[]⟩] := by
    have : CV W A2.heap.size [.int .i64 0, .string ⟨#[]⟩] := by rw [hW]; exact cv_new _ _ _
    rw [hsA2] at this
    exact this
  have hbW : Below w.heap.size w W := after (after hb0 hb1) hb2
  have a0 := k0.2.1 0 _ rfl
  have b0 := k1.2.1 0 _ rfl
  have c0 := k2.2.1 0 _ rfl
  have f0 := k1.2.2 0
  have g0 := k2.2.2 0
  have a1 := k0.2.1 1 _ rfl
  have b1 := k1.2.1 1 _ rfl
  have c1 := k2.2.1 1 _ rfl
  have f1 := k1.2.2 1
  have g1 := k2.2.2 1
  clear k0 k1 k2 hsA hsA2 hb0 hb1 hb2
  go_enter Tryz.func26, Tryz.ntmps26
  go_wp2_with (first | (rw [← hA]) | (rw [← hA2]) | (rw [← hW]; clear hA hA2 hW))
  exact bodyPost_ret (v := .agg #[.int .i64 zA, .string zB]) (by simp [results, Tryz.results26, go_sem, b0, b1]) rfl ⟨rfl, ((((hbW.setCell (by show _ ≤ _; simp; omega) _).setCell (by show _ ≤ _; simp; omega) _).setCell (by show _ ≤ _; simp) _).setCell (by show _ ≤ _; simp) _)⟩

set_option maxHeartbeats 1600000 in
theorem szPut_any (zA : Int) (zB : ByteArray) (l : Int) (w : World) (hzB : zB.size ≤ maxLen) (hl0 : 0 ≤ l) (hl1 : l ≤ 1048576) :
    Calls Tryz.prog 20 #[.agg #[.int .i64 zA, .string zB], .int .i64 l] w fun e w' => (∃ r : Int, e = .returned (.int .i64 r) ∧ r ≤ l ∧ -1 ≤ r ∧ (0 ≤ r → zB.size ≤ 1048576)) ∧ Below w.heap.size w w' := by
  unfold maxLen at hzB
  have hbW : Below w.heap.size w (w.alloc (Obj.cells #[.int .i64 zA, .string zB] 51)) := (Below.refl _ _).alloc (Nat.le_refl _) _
  go_enter Tryz.func20, Tryz.ntmps20
  by_cases h0 : l - (zB.size : Int) < 0
  · go_wp2
    go_ret
    exact ⟨⟨_, rfl, by omega, by omega, fun h => by omega⟩, hbW⟩
  ·
    go_wp2
    go_ret
    exact ⟨⟨_, rfl, by omega, by omega, fun _ => by omega⟩, hbW⟩

set_option maxHeartbeats 800000 in
theorem eqPut_same (zA : Int) (zB : ByteArray) (w : World) :
    Calls Tryz.prog 33 #[.agg #[.int .i64 zA, .string zB], .agg #[.int .i64 zA, .string zB]] w fun e w' => e = .returned (.bool true) ∧ Below w.heap.size w w' := by
  have hb : Below w.heap.size w ((w.alloc (Obj.cells #[.int .i64 zA, .string zB] 55)).alloc (Obj.cells #[.int .i64 zA, .string zB] 55)) := ((Below.refl _ _).alloc (Nat.le_refl _) _).alloc (by simp) _
  go_enter Tryz.func33, Tryz.ntmps33
  go_wp2
  go_ret
  exact ⟨rfl, hb⟩

set_option maxRecDepth 100000 in
set_option maxHeartbeats 1600000 in
theorem eqPutS_same (a b : Option Addr) (xs : List (Int × ByteArray)) (c d : Nat) (w : World) (hr : Rd w a (vsPut xs)) (hs : Rd w b (vsPut xs)) (hm : xs.length ≤ 1048576) :
    Calls Tryz.prog 12 #[.slice a xs.length c, .slice b xs.length d] w fun e w' => e = .returned (.bool true) ∧ Below w.heap.size w w' := by
  have HR := hide hr
  have HS := hide hs
  clear hr hs
  go_enter Tryz.func12, Tryz.ntmps12
  go_wp2
  go_loopw [5] (fun i wr => ∃ k : Nat, k ≤ xs.length ∧ i = .int .i64 k ∧ Below w.heap.size w wr) (fun i _ => xs.length - (intOf i).toNat)
  case atStart => exact ⟨0, Nat.zero_le _, rfl, Below.refl _ _⟩
  case round =>
    obtain ⟨k, hk, rfl, hbel⟩ := hrel
    by_cases hlt : k < xs.length
    · obtain ⟨b1, o1, x, rfl, h0, h1, HX⟩ := rdPut_at (HR.out.below hbel) hlt
      obtain ⟨b2, o2, y, rfl, j0, j1, HY⟩ := rdPut_at (HS.out.below hbel) hlt
      have hxy : x = y := by have h := HX.out; rw [HY.out] at h; exact (Option.some.inj h).symm
      subst hxy
      obtain ⟨zA, zB⟩ := x
      have hk0 : (k : Int) < (xs.length : Int) := by omega
      have HC : Hid (∀ u, Below wr.heap.size wr.drew u → u.cell? ⟨b1, o1 + k * 2, none⟩ = some (.int .i64 zA) ∧ u.cell? ⟨b1, o1 + k * 2 + 1, none⟩ = some (.string zB) ∧ u.cell? ⟨b2, o2 + k * 2, none⟩ = some (.int .i64 zA) ∧ u.cell? ⟨b2, o2 + k * 2 + 1, none⟩ = some (.string zB)) := by
        intro u hu
        have l1 := lt_of_cell h0
        have l2 := lt_of_cell j0
        exact ⟨(hu.cell (p := ⟨b1, o1 + k * 2, none⟩) l1).trans (by simpa using h0), (hu.cell (p := ⟨b1, o1 + k * 2 + 1, none⟩) l1).trans (by simpa using h1), (hu.cell (p := ⟨b2, o2 + k * 2, none⟩) l2).trans (by simpa using j0), (hu.cell (p := ⟨b2, o2 + k * 2 + 1, none⟩) l2).trans (by simpa using j1)⟩
      have HB := hide hbel
      clear HX HY hbel
      go_wp2
      go_region_held (fun u => u.cell? ⟨b1, o1 + k * 2, none⟩ = some (.int .i64 zA) ∧ u.cell? ⟨b1, o1 + k * 2 + 1, none⟩ = some (.string zB) ∧ u.cell? ⟨b2, o2 + k * 2, none⟩ = some (.int .i64 zA) ∧ u.cell? ⟨b2, o2 + k * 2 + 1, none⟩ = some (.string zB)) (first | assumption | go_keep)
        ((go_at_call 33; refine (eqPut_same zA zB _).mono ?_; rintro e w1 ⟨rfl, hb1⟩; have HB1 : Hid (Below wr.heap.size wr w1) := after (after_drew (Below.refl _ _) 1) hb1; have hc1 := HC.out w1 (after (Below.refl _ _) hb1); clear hb1))
      have HBW := hide (after HB.out HB1.out)
      clear hc1 HC h0 h1 j0 j1
      go_wp2
      go_roundw
      case rel => exact ⟨k + 1, by omega, by go_num, HBW.out⟩
      case measure => simp [intOf]; omega
    · have hkl : k = xs.length := by omega
      subst hkl
      go_wp2
      go_ret
      exact ⟨rfl, hbel⟩

theorem vsPut_set {xs : List (Int × ByteArray)} {k : Nat} {x : Int × ByteArray} (hk : k < xs.length) : ((vsPut xs).set (k * 2) (.int .i64 x.1)).set (k * 2 + 1) (.string x.2) = vsPut (xs.set k x) := by
  induction xs generalizing k with
  | nil => simp at hk
  | cons y ys ih =>
    have ec : ∀ (z : Int × ByteArray) (zs : List (Int × ByteArray)), vsPut (z :: zs) = [.int .i64 z.1, .string z.2] ++ vsPut zs := fun _ _ => rfl
    cases k with
    | zero => simp [vsPut]
    | succ k =>
      rw [List.set_cons_succ, ec, ec, ← ih (by simpa using hk)]
      rw [List.set_append_right _ _ (by simp; omega), List.set_append_right _ _ (by simp; omega)]
      have hl : ([.int .i64 y.1, .string y.2] : List Value).length = 2 := rfl
      have z0 : (k + 1) * 2 - 2 = k * 2 := by omega
      have z1 : (k + 1) * 2 + 1 - 2 = k * 2 + 1 := by omega
      simp only [hl, z0, z1]

/-- A row that is being copied: the first k are there. -/
def halfPut (xs : List (Int × ByteArray)) (k : Nat) : List Value := vsPut (xs.take k ++ List.replicate (xs.length - k) (0, (⟨#[]⟩ : ByteArray)))
theorem halfPut_all (xs : List (Int × ByteArray)) : halfPut xs xs.length = vsPut xs := by simp [halfPut]
theorem halfPut_none (xs : List (Int × ByteArray)) : halfPut xs 0 = (madeCells (#[.int .i64 0, .string ⟨#[]⟩] : Array Value) (xs.length * 2)).toList := by
  have := madeRows #[.int .i64 0, .string ⟨#[]⟩] xs.length
  rw [show (#[.int .i64 0, .string ⟨#[]⟩] : Array Value).size = 2 from rfl] at this
  rw [this]
  simp [halfPut, vsPut, List.flatMap_replicate]
theorem halfPut_step {xs : List (Int × ByteArray)} {k : Nat} {x : Int × ByteArray} (h : xs[k]? = some x) : ((halfPut xs k).set (k * 2) (.int .i64 x.1)).set (k * 2 + 1) (.string x.2) = halfPut xs (k + 1) := by
  have hk : k < xs.length := by
    rcases Nat.lt_or_ge k xs.length with h' | h'
    · exact h'
    · simp [h'] at h
  unfold halfPut
  rw [vsPut_set (by simp; omega), half_set h]

theorem infoPut : (Tryz.prog.info? 55).map (fun i => (i.zero, i.size, i.bytes)) = some (some (Value.agg #[.int .i64 0, .string ⟨#[]⟩]), 2, 24) := by kernel_rfl

set_option maxRecDepth 100000 in
set_option maxHeartbeats 1600000 in
theorem toPutS_any (a : Option Addr) (xs : List (Int × ByteArray)) (cap : Nat) (w : World) (hr : Rd w a (vsPut xs)) (hm : xs.length ≤ 1048576) :
    Calls Tryz.prog 8 #[.slice a xs.length cap] w fun e w' => e = .returned (.slice (some ⟨w.heap.size, 0, none⟩) xs.length xs.length) ∧
      w'.ownsRow w.heap.size 55 2 (.slice (some ⟨w.heap.size, 0, none⟩) xs.length xs.length) xs.length (vsPut xs) ∧ Below w.heap.size w w' := by
  obtain ⟨i0, hi, hz0, hz1, hz2⟩ := info_parts infoPut
  have HR := hide hr
  clear hr
  go_enter Tryz.func8, Tryz.ntmps8
  go_wp2_with (at_make; refine wpList_make_full _ rfl _ _ 38 rfl w.heap.size 55 i0 (Value.agg #[.int .i64 0, .string ⟨#[]⟩]) 2 Tryz.underlying38 hi hz0 hz1 .i64 .i64 xs.length xs.length xs.length rfl rfl rfl rfl (by rw [hz2]; omega) (by unfold maxLen; omega) (Nat.le_refl _) ?_; intro w1 hown hgrow)
  have hb1 : Below w.heap.size w w1 := (Below.refl _ _).grown hgrow (Nat.le_refl _) (by simp)
  have hown1 : w1.ownsRow w.heap.size 55 2 (.slice (some ⟨w.heap.size, 0, none⟩) xs.length xs.length) xs.length (halfPut xs 0) := by
    rw [halfPut_none]
    exact hown
  clear hown hgrow
  go_loopw [4] (fun i wr => ∃ k : Nat, k ≤ xs.length ∧ i = .int .i64 k ∧ Hid (wr.ownsRow w.heap.size 55 2 (.slice (some ⟨w.heap.size, 0, none⟩) xs.length xs.length) xs.length (halfPut xs k)) ∧ Hid (Below w.heap.size w wr)) (fun i _ => xs.length - (intOf i).toNat)
  case atStart => exact ⟨0, Nat.zero_le _, rfl, hown1, hb1⟩
  case round =>
    obtain ⟨k, hk, rfl, hown, hbel⟩ := hrel
    clear hown1 hb1
    by_cases hlt : k < xs.length
    · obtain ⟨b, off, x, rfl, h0, h1, HX⟩ := rdPut_at (HR.out.below hbel.out) hlt
      obtain ⟨zA, zB⟩ := x
      have HT : Hid (∀ u, Calls Tryz.prog 26 #[.agg #[.int .i64 zA, .string zB]] u fun e w' => e = .returned (.agg #[.int .i64 zA, .string zB]) ∧ Below u.heap.size u w') := fun u => toPut_any zA zB u
      have hkI : (k : Int) < (xs.length : Int) := by omega
      go_wp2_with fail
      refine (HT.out _).mono ?_
      rintro e u1 ⟨rfl, hb2⟩
      have hown1 := owns_below hown.out hb2
      have hbu := after hbel.out hb2
      have hlen : (halfPut xs k).length = xs.length * 2 := by have := hown1.1; omega
      have cA : ∀ j, j < xs.length * 2 → ∃ u, u1.cell? ⟨w.heap.size, j, none⟩ = some u := fun j hj => ⟨(halfPut xs k)[j], by rw [hown1.cellAt j (by omega)]; simp [hlen, hj]⟩
      obtain ⟨v0, hc0⟩ := cA (k * 2) (by omega)
      have hf0 := hown1.frozenAt (k * 2)
      obtain ⟨v1, hc1⟩ := cA (k * 2 + 1) (by omega)
      have hf1 := hown1.frozenAt (k * 2 + 1)
      have hs0 := hown1.stored (k * 2) (.int .i64 zA)
      have hs1 := hs0.1.stored (k * 2 + 1) (.string zB)
      have HO : Hid (((u1.setCell ⟨w.heap.size, k * 2, none⟩ (.int .i64 zA)).setCell ⟨w.heap.size, k * 2 + 1, none⟩ (.string zB)).ownsRow w.heap.size 55 2 (.slice (some ⟨w.heap.size, 0, none⟩) xs.length xs.length) xs.length (halfPut xs (k + 1))) := by
        show World.ownsRow _ _ _ _ _ _ _
        rw [← halfPut_step HX.out]
        exact hs1.1
      have HB : Hid (Below w.heap.size w ((u1.setCell ⟨w.heap.size, k * 2, none⟩ (.int .i64 zA)).setCell ⟨w.heap.size, k * 2 + 1, none⟩ (.string zB))) := ((hbu.setCell (p := ⟨w.heap.size, k * 2, none⟩) (Nat.le_refl _) _).setCell (p := ⟨w.heap.size, k * 2 + 1, none⟩) (Nat.le_refl _) _)
      clear hs0 hs1 cA hown hown1 hbel hbu hb2 HX HT h0 h1
      go_wp2
      go_roundw
      case rel => exact ⟨k + 1, by omega, by go_num, HO, HB⟩
      case measure => simp [intOf]; omega
    · have hkl : k = xs.length := by omega
      have HO : Hid (wr.ownsRow w.heap.size 55 2 (.slice (some ⟨w.heap.size, 0, none⟩) xs.length xs.length) xs.length (vsPut xs)) := by
        have h := hown.out
        rw [hkl, halfPut_all] at h
        exact h
      subst hkl
      clear hown
      go_wp2
      go_ret
      exact ⟨rfl, HO.out, hbel.out⟩

set_option maxRecDepth 100000 in
set_option maxHeartbeats 1600000 in
theorem szPutS_any (a : Option Addr) (xs : List (Int × ByteArray)) (c : Nat) (l : Int) (w : World) (hr : Rd w a (vsPut xs)) (hm : xs.length ≤ maxLen) (hs : ∀ x ∈ xs, x.2.size ≤ maxLen) (hl0 : 0 ≤ l) (hl : l ≤ 1048576) :
    Calls Tryz.prog 5 #[.slice a xs.length c, .int .i64 l] w fun e w' => (∃ r : Int, e = .returned (.int .i64 r) ∧ -1 ≤ r ∧ r ≤ l ∧ (0 ≤ r → xs.length ≤ l ∧ ∀ x ∈ xs, x.2.size ≤ 1048576)) ∧ Below w.heap.size w w' := by
  have HS := hide hs
  have HR := hide hr
  unfold maxLen at hm
  clear hs hr
  by_cases hbig : l - (xs.length : Int) < 0
  · go_enter Tryz.func5, Tryz.ntmps5
    go_wp2
    go_ret
    exact ⟨⟨-1, rfl, by omega, by omega, by omega⟩, Below.refl _ _⟩
  · go_enter Tryz.func5, Tryz.ntmps5
    go_wp2
    go_loopw [1, 5] (fun q i wr => ∃ (k : Nat) (r : Int), k ≤ xs.length ∧ i = .int .i64 k ∧ q = .int .i64 r ∧ 0 ≤ r ∧ r ≤ l - xs.length ∧ Hid (∀ x ∈ xs.take k, x.2.size ≤ 1048576) ∧ Hid (Below w.heap.size w wr)) (fun _ i _ => xs.length - (intOf i).toNat)
    case atStart => exact ⟨0, _, Nat.zero_le _, rfl, rfl, by omega, by omega, (by show ∀ _, _; simp), Below.refl _ _⟩
    case round =>
      obtain ⟨k, r, hk, rfl, rfl, hr0, hr1, hall, hbel⟩ := hrel
      by_cases hlt : k < xs.length
      · obtain ⟨b, off, x, rfl, h0, h1, HX⟩ := rdPut_at (HR.out.below hbel.out) hlt
        obtain ⟨zA, zB⟩ := x
        have hmx := HS.out _ (List.mem_of_getElem? HX.out)
        have HT : Hid (∀ u, Calls Tryz.prog 20 #[.agg #[.int .i64 zA, .string zB], .int .i64 r] u fun e w' => (∃ r' : Int, e = .returned (.int .i64 r') ∧ r' ≤ r ∧ -1 ≤ r' ∧ (0 ≤ r' → zB.size ≤ 1048576)) ∧ Below u.heap.size u w') := fun u => szPut_any zA zB r u hmx hr0 (by omega)
        have hkI : (k : Int) < (xs.length : Int) := by omega
        clear hmx
        go_wp2_with fail
        refine (HT.out _).mono ?_
        rintro e u1 ⟨⟨r', rfl, hr2, hr3, hr4⟩, hb2⟩
        have HB := hide (after hbel.out hb2)
        clear hb2 HT hbel h0 h1
        by_cases hneg : r' < 0
        · clear hr4
          go_wp2
          go_ret
          exact ⟨⟨-1, rfl, by omega, by omega, by omega⟩, HB.out⟩
        · have hall' : Hid (∀ x ∈ xs.take (k + 1), x.2.size ≤ 1048576) := by
            show ∀ _, _
            intro x hx
            rw [List.take_add_one, HX.out] at hx
            simp only [Option.toList_some, List.mem_append, List.mem_singleton] at hx
            rcases hx with h | rfl
            · exact hall.out x h
            · exact hr4 (by omega)
          clear hr4 hall HX
          go_wp2
          go_roundw
          case rel => exact ⟨k + 1, _, by omega, by go_num, rfl, by omega, by omega, hall', HB⟩
          case measure => simp [intOf]; omega
      · have hall' : Hid (∀ x ∈ xs, x.2.size ≤ 1048576) := by
          have := hall.out
          rw [List.take_of_length_le (by omega)] at this
          exact this
        go_wp2
        go_ret
        exact ⟨⟨r, rfl, by omega, by omega, fun _ => ⟨by omega, hall'.out⟩⟩, hbel.out⟩

/-- The marks of such a row. -/
def marksPut (q n : Nat) : List Value := (List.range n).flatMap fun (i : Nat) => [.int .i64 ((q : Int) + (i : Int) * 2), .string (mtext (q + i * 2 + 1))]
theorem marksPut_step (q n : Nat) : marksPut q (n + 1) = marksPut q n ++ [.int .i64 ((q : Int) + (n : Int) * 2), .string (mtext (q + n * 2 + 1))] := by simp [marksPut, List.range_succ]
theorem marksPut_len (q n : Nat) : (marksPut q n).length = n * 2 := by
  induction n with
  | zero => rfl
  | succ n ih => rw [marksPut_step, List.length_append, ih]; simp; omega
theorem marksPut_at (q : Nat) : ∀ (n k : Nat), k < n → (marksPut q n)[k * 2]? = some (.int .i64 ((q : Int) + (k : Int) * 2)) ∧ (marksPut q n)[k * 2 + 1]? = some (.string (mtext (q + k * 2 + 1))) := by
  intro n
  induction n with
  | zero => intro k hk; omega
  | succ n ih =>
    intro k hk
    have hl := marksPut_len q n
    rw [marksPut_step]
    by_cases h : k < n
    · obtain ⟨h0, h1⟩ := ih k h
      rw [List.getElem?_append_left (by omega), List.getElem?_append_left (by omega)]
      exact ⟨h0, h1⟩
    · obtain rfl : k = n := by omega
      rw [List.getElem?_append_right (by omega), List.getElem?_append_right (by omega), hl]
      simp
def markedPut (q : Nat) (xs : List Value) (k : Nat) : List Value := marksPut q k ++ xs.drop (k * 2)
theorem markedPut_step {q : Nat} {xs : List Value} {k : Nat} (h : k * 2 + 1 < xs.length) : ((markedPut q xs k).set (k * 2) (.int .i64 ((q : Int) + (k : Int) * 2))).set (k * 2 + 1) (.string (mtext (q + k * 2 + 1))) = markedPut q xs (k + 1) := by
  have hl := marksPut_len q k
  have hd : ∃ y0 y1, xs.drop (k * 2) = y0 :: y1 :: xs.drop ((k + 1) * 2) := by
    refine ⟨xs[k * 2], xs[k * 2 + 1], ?_⟩
    rw [List.drop_eq_getElem_cons (i := k * 2) (by omega), List.drop_eq_getElem_cons (i := k * 2 + 1) (by omega), show (k + 1) * 2 = k * 2 + 1 + 1 by omega]
  obtain ⟨y0, y1, hd⟩ := hd
  unfold markedPut
  rw [marksPut_step, hd, List.set_append_right _ _ (by omega), List.set_append_right _ _ (by omega), hl]
  rw [show k * 2 - k * 2 = 0 by omega, show k * 2 + 1 - k * 2 = 1 by omega]
  simp

set_option maxHeartbeats 1600000 in
theorem markPutS_any (v : Value) (n : Nat) (xs : List Value) (base q : Nat) (w : World) (ho : w.ownsRow base 55 2 v n xs) (hm : n ≤ 1048576) (hq : q ≤ 10000000) :
    Calls Tryz.prog 14 #[v, .int .i64 q] w fun e w' => e = .returned (.int .i64 ((q + n * 2 : Nat) : Int)) ∧ w'.ownsRow base 55 2 v n (marksPut q n) ∧ w.grownBy w' v.ownBlock := by
  rcases id ho with ⟨hl, ⟨rfl, rfl⟩ | ⟨g, cap, cur, rfl, hg, -⟩⟩
  · go_enter Tryz.func14, Tryz.ntmps14
    go_wp2
    go_loop [1, 5] (fun k i => k = .int .i64 q ∧ i = .int .i64 0) (fun _ _ => 0)
    case atStart => exact ⟨rfl, rfl⟩
    case round =>
      obtain ⟨rfl, rfl⟩ := hrel
      go_wp2
      go_ret
      exact ⟨rfl, World.ownsRow_nil _ _ _ _, World.grownBy.refl _ _⟩
  · have HLN : Hid (xs.length = n * 2) := by show _ = _; simpa using hl
    clear hl
    have hgw : g < w.heap.size := (owns_lt ho).2
    go_enter Tryz.func14, Tryz.ntmps14
    go_wp2
    go_loopw [1, 5] (fun kk i wr => ∃ k : Nat, k ≤ n ∧ i = .int .i64 k ∧ kk = .int .i64 ((q : Int) + (k : Int) * 2) ∧ Hid (wr.ownsRow base 55 2 (.slice (some ⟨g, 0, none⟩) n cap) n (markedPut q xs k)) ∧ Hid (w.grownBy wr (some g))) (fun _ i _ => n - (intOf i).toNat)
    case atStart => exact ⟨0, Nat.zero_le _, rfl, rfl, by show World.ownsRow _ _ _ _ _ _ _; simpa [markedPut, marksPut] using ho, World.grownBy.refl _ _⟩
    case round =>
      obtain ⟨k, hk, rfl, rfl, hown, hgrow⟩ := hrel
      by_cases hlt : k < n
      · clear ho
        have hk2 : k * 2 + 1 < n * 2 := by omega
        have hkI : (k : Int) < (n : Int) := by omega
        have HX0 : Hid (wr.ownsRow base 55 2 (.slice (some ⟨g, 0, none⟩) n cap) n (markedPut q xs k) ∧ w.grownBy wr (some g)) := ⟨hown.out, hgrow.out⟩
        clear hown hgrow
        have hcl0 : ∃ u, wr.cell? ⟨g, k * 2, none⟩ = some u := by
          have h1 := HX0.out.1.cellAt (k * 2) (by omega)
          have h2 := HX0.out.1.1
          exact ⟨_, h1.trans (List.getElem?_eq_getElem (by omega))⟩
        obtain ⟨u0, hc0⟩ := hcl0
        have hf0 := HX0.out.1.frozenAt (k * 2)
        have hs := HX0.out.1.stored (k * 2) (.int .i64 ((q : Int) + (k : Int) * 2))
        obtain ⟨W1, hW1⟩ : ∃ W, W = wr.setCell ⟨g, k * 2, none⟩ (.int .i64 ((q : Int) + (k : Int) * 2)) := ⟨_, rfl⟩
        have HX1 : Hid (W1.ownsRow base 55 2 (.slice (some ⟨g, 0, none⟩) n cap) n ((markedPut q xs k).set (k * 2) (.int .i64 ((q : Int) + (k : Int) * 2))) ∧ w.grownBy W1 (some g)) := by rw [hW1]; exact ⟨hs.1, grown_trans HX0.out.2 hs.2⟩
        clear hs
        have HMT1 : Hid (∀ u, Calls Tryz.prog 36 #[.int .i64 ((q : Int) + (k : Int) * 2 + 1)] u fun e w' => e = .returned (.string (mtext (q + k * 2 + 1))) ∧ Below u.heap.size u w') := by
          intro u
          rw [show (q : Int) + (k : Int) * 2 + 1 = ((q + k * 2 + 1 : Nat) : Int) by omega]
          exact markText_any (q + k * 2 + 1) u (by omega) (by omega)
        go_wp2_with fail
        rw [← hW1]
        refine (HMT1.out _).mono ?_
        rintro e x1 ⟨rfl, hb⟩
        have HY1 : Hid (x1.ownsRow base 55 2 (.slice (some ⟨g, 0, none⟩) n cap) n ((markedPut q xs k).set (k * 2) (.int .i64 ((q : Int) + (k : Int) * 2))) ∧ w.grownBy x1 (some g)) := ⟨owns_below HX1.out.1 hb, grown_trans HX1.out.2 (grown_of_below hb)⟩
        clear hb HMT1 HX1 hW1 hc0 hf0
        have hcl1 : ∃ u, x1.cell? ⟨g, k * 2 + 1, none⟩ = some u := by
          have h1 := HY1.out.1.cellAt (k * 2 + 1) (by omega)
          have h2 := HY1.out.1.1
          exact ⟨_, h1.trans (List.getElem?_eq_getElem (by omega))⟩
        obtain ⟨u1, hc1⟩ := hcl1
        have hf1 := HY1.out.1.frozenAt (k * 2 + 1)
        have hs := HY1.out.1.stored (k * 2 + 1) (.string (mtext (q + k * 2 + 1)))
        obtain ⟨W2, hW2⟩ : ∃ W, W = x1.setCell ⟨g, k * 2 + 1, none⟩ (.string (mtext (q + k * 2 + 1))) := ⟨_, rfl⟩
        have HX2 : Hid (W2.ownsRow base 55 2 (.slice (some ⟨g, 0, none⟩) n cap) n (((markedPut q xs k).set (k * 2) (.int .i64 ((q : Int) + (k : Int) * 2))).set (k * 2 + 1) (.string (mtext (q + k * 2 + 1)))) ∧ w.grownBy W2 (some g)) := by rw [hW2]; exact ⟨hs.1, grown_trans HY1.out.2 hs.2⟩
        clear hs
        have HF : Hid (W2.ownsRow base 55 2 (.slice (some ⟨g, 0, none⟩) n cap) n (markedPut q xs (k + 1))) := by
          show World.ownsRow _ _ _ _ _ _ _
          rw [← markedPut_step (by rw [HLN.out]; exact hk2)]
          exact HX2.out.1
        have HGF := hide HX2.out.2
        go_wp2
        rw [← hW2]
        go_roundw
        case rel => exact ⟨k + 1, by omega, by go_num, by go_num, HF, HGF⟩
        case measure => simp [intOf]; omega
      · have hkn : k = n := by omega
        subst hkn
        have HOE : Hid (wr.ownsRow base 55 2 (.slice (some ⟨g, 0, none⟩) k cap) k (marksPut q k)) := by
          have e : markedPut q xs k = marksPut q k := by simp [markedPut, HLN.out]
          show World.ownsRow _ _ _ _ _ _ _
          rw [← e]; exact hown.out
        clear ho hown
        go_wp2
        go_ret
        exact ⟨rfl, HOE.out, hgrow.out⟩

def PutsRd (w : World) (v : Value) (cs : List (Int × ByteArray)) : Prop := ∃ a c, v = .slice a cs.length c ∧ Rd w a (vsPut cs)
def PutsOwn (w : World) (base : Nat) (v : Value) (cs : List (Int × ByteArray)) : Prop := w.ownsRow base 55 2 v cs.length (vsPut cs)
def PutsMk (w : World) (base : Nat) (v : Value) (n q : Nat) : Prop := w.ownsRow base 55 2 v n (marksPut q n)
theorem PutsOwn.shape {u : World} {base : Nat} {v : Value} {cs : List (Int × ByteArray)} (h : PutsOwn u base v cs) : ∃ a c, v = .slice a cs.length c := ownsN_shape h
theorem PutsOwn.rd {u : World} {base : Nat} {v : Value} {cs : List (Int × ByteArray)} (h : PutsOwn u base v cs) : PutsRd u v cs := by
  obtain ⟨a, c, rfl⟩ := h.shape
  exact ⟨a, c, rfl, rd_of_ownN h⟩
theorem PutsRd.below {u u' : World} {v : Value} {cs : List (Int × ByteArray)} (h : PutsRd u v cs) (hb : Below u.heap.size u u') : PutsRd u' v cs := by
  obtain ⟨a, c, rfl, h1⟩ := h
  exact ⟨a, c, rfl, h1.below hb⟩
theorem PutsOwn.below {u u' : World} {base : Nat} {v : Value} {cs : List (Int × ByteArray)} (h : PutsOwn u base v cs) (hb : Below u.heap.size u u') : PutsOwn u' base v cs := owns_below h hb
theorem PutsMk.below {u u' : World} {base : Nat} {v : Value} {n q : Nat} (h : PutsMk u base v n q) (hb : Below u.heap.size u u') : PutsMk u' base v n q := owns_below h hb
theorem PutsOwn.only {u u' : World} {base : Nat} {v : Value} {cs : List (Int × ByteArray)} {L : List (Option Nat)} (h : PutsOwn u base v cs) (hO : OnlyIn u u' L) (hn : ∀ k, some k ∈ bk v → some k ∉ L) : PutsOwn u' base v cs := by
  obtain ⟨a, c, rfl⟩ := h.shape
  exact hO.owns h (fun k hk => hn k (by rw [bk_slice, hk]; simp))
theorem PutsMk.only {u u' : World} {base : Nat} {v : Value} {n q : Nat} {L : List (Option Nat)} (h : PutsMk u base v n q) (hO : OnlyIn u u' L) (hn : ∀ k, some k ∈ bk v → some k ∉ L) : PutsMk u' base v n q := by
  obtain ⟨a, c, rfl⟩ := ownsN_shape h
  exact hO.owns h (fun k hk => hn k (by rw [bk_slice, hk]; simp))
theorem PutsOwn.blk {u : World} {base : Nat} {v : Value} {cs : List (Int × ByteArray)} (h : PutsOwn u base v cs) {k : Nat} (hk : some k ∈ bk v) : base ≤ k ∧ k < u.heap.size := by
  obtain ⟨a, c, rfl⟩ := h.shape
  rw [bk_slice] at hk
  simp only [List.mem_cons, List.not_mem_nil, or_false] at hk
  exact World.ownsRow.lt h k hk.symm
theorem PutsOwn.cap {u : World} {base : Nat} {v : Value} {cs : List (Int × ByteArray)} (h : PutsOwn u base v cs) : CapOk v := by
  obtain ⟨a0, c0, rfl⟩ := h.shape
  intro x a n c hx hs
  subst hs
  simp only [Value.cells, List.mem_cons, List.not_mem_nil, or_false] at hx
  injection hx with h1 h2 h3
  subst h1 h2 h3
  exact ownsN_cap h
theorem put_to {u : World} {v : Value} {cs : List (Int × ByteArray)} (h : PutsRd u v cs) (hl : cs.length ≤ 1048576) :
    Calls Tryz.prog 8 #[v] u fun e w' => ∃ v, e = .returned v ∧ PutsOwn w' u.heap.size v cs ∧ Below u.heap.size u w' := by
  obtain ⟨a, c, rfl, h1⟩ := h
  exact (toPutS_any a cs c u h1 hl).mono fun e w' h => ⟨_, h.1, h.2.1, h.2.2⟩
theorem put_eq {u : World} {v v' : Value} {cs : List (Int × ByteArray)} (h : PutsRd u v cs) (h' : PutsRd u v' cs) (hl : cs.length ≤ 1048576) :
    Calls Tryz.prog 12 #[v, v'] u fun e w' => e = .returned (.bool true) ∧ Below u.heap.size u w' := by
  obtain ⟨a, c, rfl, h1⟩ := h
  obtain ⟨a', c', rfl, h1'⟩ := h'
  exact eqPutS_same a a' cs c c' u h1 h1' hl
theorem put_mark {u : World} {base : Nat} {v : Value} {cs : List (Int × ByteArray)} {q : Nat} (h : PutsOwn u base v cs) (hl : cs.length ≤ 1048576) (_hq0 : 0 < q) (hq : q ≤ 1000000) :
    Calls Tryz.prog 14 #[v, .int .i64 q] u fun e w' => e = .returned (.int .i64 ((q + cs.length * 2 : Nat) : Int)) ∧ PutsMk w' base v cs.length q ∧ OnlyIn u w' (bk v) := by
  obtain ⟨a, c, rfl⟩ := h.shape
  refine (markPutS_any (.slice a cs.length c) cs.length _ base q u h hl (by omega)).mono ?_
  rintro e w' ⟨rfl, k1, hg⟩
  exact ⟨rfl, k1, OnlyIn.of_grown hg⟩
theorem put_mark_far {u : World} {base : Nat} {v : Value} {cs : List (Int × ByteArray)} {q : Nat} (h : PutsOwn u base v cs) (hl : cs.length ≤ 1048576) (hq : q ≤ 10000000) :
    Calls Tryz.prog 14 #[v, .int .i64 q] u fun e w' => e = .returned (.int .i64 ((q + cs.length * 2 : Nat) : Int)) ∧ PutsMk w' base v cs.length q ∧ OnlyIn u w' (bk v) := by
  obtain ⟨a, c, rfl⟩ := h.shape
  refine (markPutS_any (.slice a cs.length c) cs.length _ base q u h hl hq).mono ?_
  rintro e w' ⟨rfl, k1, hg⟩
  exact ⟨rfl, k1, OnlyIn.of_grown hg⟩
theorem put_sz {u : World} {v : Value} {cs : List (Int × ByteArray)} (l : Int) (h : PutsRd u v cs) (hn : cs.length ≤ maxLen) (hs : ∀ x ∈ cs, x.2.size ≤ maxLen) (hl0 : 0 ≤ l) (hl : l ≤ 1048576) :
    Calls Tryz.prog 5 #[v, .int .i64 l] u fun e w' => (∃ r : Int, e = .returned (.int .i64 r) ∧ -1 ≤ r ∧ r ≤ l ∧ (0 ≤ r → cs.length ≤ l ∧ ∀ x ∈ cs, x.2.size ≤ 1048576)) ∧ Below u.heap.size u w' := by
  obtain ⟨a, c, rfl, h1⟩ := h
  exact szPutS_any a cs c l u h1 hn hs hl0 hl
theorem put_rd_of {w : World} {a : Option Addr} {c : Nat} {cs : List (Int × ByteArray)} (h : Rd w a (vsPut cs)) : PutsRd w (.slice a cs.length c) cs := ⟨a, c, rfl, h⟩
set_option maxRecDepth 100000 in
/-- Such a row that came in. -/
theorem rdPuts_of {H : Type} {enc : TypeId × Value → H} {W : World} {fuel : Nat} {v : Value} {y : DataW H × List MemPlace} (h : DataW.trod enc Tryz.prog W 0 (fun _ => true) true fuel 28 [v] = some y) :
    ∃ (a : Option Addr) (xs : List (Int × ByteArray)) (c : Nat), v = .slice a xs.length c ∧ Rd W a (vsPut xs) ∧ xs.length ≤ maxLen ∧ ∀ x ∈ xs, (Lit.int .i64 x.1).wf = true ∧ x.2.size ≤ maxLen := by
  refine rdRows_of 2 (fun x : Int × ByteArray => [.int .i64 x.1, .string x.2]) _ (fun x => rfl) (by decide) Tryz.underlying28 (by kernel_rfl) h ?_
  intro m cs z hl hz
  match cs, hl with
  | [c0, c1], _ =>
      obtain ⟨y0, y1, m', -, -, g0, g1⟩ := trod_struct2 Tryz.underlying51 hz
      have hy0 : DataW.trod enc Tryz.prog W 0 (fun _ => true) true m' 3 [c0] = some y0 := g0
      have hy1 : DataW.trod enc Tryz.prog W 0 (fun _ => true) true m' 9 [c1] = some y1 := g1
      obtain ⟨zA, e0, -, w0⟩ := DataW.trod_int Tryz.underlying3 hy0
      cases e0
      obtain ⟨zB, e1, -, w1⟩ := DataW.trod_string Tryz.underlying9 hy1
      cases e1
      exact ⟨(zA, zB), rfl, ⟨w0, w1⟩⟩

end Go.Proofs.YtghlnagainodaaaGreat

namespace Go.Proofs.YtghlnagainodaaaGreat
open Go.RowKit

/-- What holds between the rounds: the rest of the writes makes of what is planned what all make. -/
def PAll (wr : World) (P base : Nat) (L : List (Int × ByteArray)) (R : Option (List ByteArray × List Int × List (Int × Int × ByteArray))) (k : Nat) : Prop :=
  ∃ ps ws ms q cs, PW wr P base ps ws ms q cs ∧ ms = mMap ps ∧ q = mSeq ps ∧ chipOkP ps ws ∧ pWrites (L.drop k) ps ws cs = R ∧ cs.length ≤ 1571 * k

set_option maxRecDepth 100000 in
set_option maxHeartbeats 6400000 in
theorem writeAll_any (P base lc : Nat) (la : Option Addr) (L : List (Int × ByteArray)) (ps : List ByteArray) (ws ms : List Int) (q : Int) (w : World) (hW : PW w P base ps ws ms q []) (hm : ms = mMap ps) (hq : q = mSeq ps) (hok : chipOkP ps ws) (hLn : L.length ≤ 1048576) (hLb : ∀ x ∈ L, x.2.size ≤ maxLen ∧ -9223372036854775808 ≤ x.1 ∧ x.1 ≤ 9223372036854775807)
    (hL : ∀ u, Below base w u → Rd u la (vsPut L)) :
    Calls Tryz.prog 29 #[.pointer (some ⟨P, 0, none⟩), .slice la L.length lc] w fun e w' => e = .returned (.bool (pWritesL L ps ws).isSome) ∧ Below base w w' ∧ Fr P P P w w' ∧
      (∀ r, pWritesL L ps ws = some r → PW w' P base r.1 r.2.1 (mMap r.1) (mSeq r.1) r.2.2) ∧ PSome w' P base := by
  obtain ⟨A, hA⟩ : ∃ A, A = pWritesL L ps ws := ⟨_, rfl⟩
  rw [← hA]
  by_cases h8 : 8 < L.length
  · have HAN : Hid (A = none) := by show _ = _; rw [hA, pWritesL, if_pos h8]
    have hi : (8 : Int) < (L.length : Int) := by omega
    have HPS := hide hW.some
    clear hA hW hm hq hok hLb hL
    go_enter Tryz.func29, Tryz.ntmps29
    go_wp2
    go_ret
    exact ⟨by rw [HAN.out]; rfl, Below.refl _ _, Fr.of_below (Below.refl _ _), no_some HAN.out, HPS.out⟩
  · have HAL : Hid (PAll w P base L A 0) := ⟨ps, ws, ms, q, [], hW, hm, hq, hok, by rw [hA, pWritesL, if_neg h8]; rfl, by simp⟩
    have hi : ¬ (8 : Int) < (L.length : Int) := by omega
    have HL := hide hL
    have HLB := hide hLb
    clear hA hW hm hq hok hLb hL
    go_enter Tryz.func29, Tryz.ntmps29
    go_wp2
    go_loopw [12] (fun i wr => ∃ k : Nat, k ≤ L.length ∧ i = .int .i64 k ∧ Hid (PAll wr P base L A k) ∧ Hid (Below base w wr ∧ Fr P P P w wr)) (fun i _ => L.length - (intOf i).toNat)
    case atStart => exact ⟨0, Nat.zero_le _, rfl, HAL, ⟨Below.refl _ _, Fr.of_below (Below.refl _ _)⟩⟩
    case round =>
      obtain ⟨k, hk, rfl, hall, hbf⟩ := hrel
      clear HAL
      by_cases hlt : k < L.length
      · obtain ⟨b1, o1, x, rfl, h0, h1, HX⟩ := rdPut_at (HL.out wr hbf.out.1) hlt
        obtain ⟨s, t⟩ := x
        have hki : (k : Int) < (L.length : Int) := by omega
        obtain ⟨pk, wk, mk, qk, ck, hwk, hmk, hqk, hokk, hrk, hck⟩ := hall.out
        obtain ⟨W, hW⟩ : ∃ W, W = wr.alloc (Obj.cells #[.int .i64 s, .string t] 55) := ⟨_, rfl⟩
        have hbW : Below wr.heap.size wr W := by rw [hW]; exact (Below.refl _ _).alloc (Nat.le_refl _) _
        have hlb := HLB.out _ (List.mem_of_getElem? HX.out)
        have HWR := hide (pwriteC_any P base ck.length ck pk wk mk qk s t W (hwk.below hbW) hmk hqk hokk hlb.1 hlb.2.1 hlb.2.2 rfl (by omega))
        obtain ⟨B, hB⟩ : ∃ B, B = pPlanC ck pk wk s t := ⟨_, rfl⟩
        rw [← hB] at HWR
        have hBA : B = (pPlan pk wk s t).map (ahead ck) := by rw [hB, pPlanC_ahead]
        have hbase : base ≤ wr.heap.size := by obtain ⟨_, _, _, _, _, _, _, _, h⟩ := hwk; exact h.lt.2.2
        have HBF : Hid (Below base w W ∧ Fr P P P w W) := ⟨hbf.out.1.trans (hbW.mono hbase), hbf.out.2.trans (Fr.of_below hbW)⟩
        have HNO : Hid (B = none → A = none) := by
          intro h
          rw [h] at hBA
          have hp : pPlan pk wk s t = none := by
            cases hq : pPlan pk wk s t with
            | none => rfl
            | some r => rw [hq] at hBA; cases hBA
          rw [← hrk]; exact pWrites_none HX.out hp
        have HYES : Hid (∀ r, B = some r → chipOkP r.1 r.2.1 ∧ pWrites (L.drop (k + 1)) r.1 r.2.1 r.2.2 = A ∧ r.2.2.length ≤ 1571 * (k + 1)) := by
          intro r h
          rw [h] at hBA
          cases hq : pPlan pk wk s t with
          | none => rw [hq] at hBA; cases hBA
          | some r1 =>
            rw [hq] at hBA
            simp only [Option.map_some, Option.some.injEq] at hBA
            subst hBA
            have h1 := pPlan_right hokk hq
            refine ⟨h1.1, ?_, ?_⟩
            · rw [← hrk, pWrites_some HX.out hq]; rfl
            · show (ck ++ r1.2.2).length ≤ _
              rw [List.length_append]
              have := h1.2
              omega
        clear hwk hmk hqk hokk hrk hck hlb hB hBA hall hbf hbW
        go_wp2_with fail
        rw [← hW]
        clear hW
        refine HWR.out.mono ?_
        rintro e w2 ⟨rfl, hb2, hf2, hy, hps⟩
        have HB2 := hide (HBF.out.1.trans hb2)
        have HF2 := hide (HBF.out.2.trans hf2)
        have HPS := hide hps
        have HY := hide hy
        clear hb2 hf2 hy hps HWR HBF h0 h1
        cases B with
        | none =>
          have HAN := hide (HNO.out rfl)
          clear HNO HYES HY
          go_wp2
          go_ret
          exact ⟨by rw [HAN.out]; rfl, HB2.out, HF2.out, no_some HAN.out, HPS.out⟩
        | some r =>
          have HAL : Hid (PAll w2 P base L A (k + 1)) := ⟨_, _, _, _, _, HY.out r rfl, rfl, rfl, (HYES.out r rfl).1, (HYES.out r rfl).2.1, (HYES.out r rfl).2.2⟩
          clear HNO HYES HY
          go_wp2
          go_roundw
          case rel => exact ⟨k + 1, by omega, by go_num, HAL, ⟨HB2.out, HF2.out⟩⟩
          case measure => simp [intOf]; omega
      · have HE : Hid (k = L.length) := by show _ = _; omega
        have hki : ¬ (k : Int) < (L.length : Int) := by omega
        obtain ⟨pk, wk, mk, qk, ck, hwk, hmk, hqk, hokk, hrk, hck⟩ := hall.out
        have HAY : Hid (A = some (pk, wk, ck)) := by
          show _ = _
          rw [← hrk, HE.out, List.drop_length]; rfl
        have HPW : Hid (PW wr P base pk wk (mMap pk) (mSeq pk) ck) := by
          have h := hwk
          rw [hmk, hqk] at h; exact h
        clear hall hwk hmk hqk hokk hrk hck
        go_wp2
        go_ret
        exact ⟨by rw [HAY.out]; rfl, hbf.out.1, hbf.out.2, fun x y z hr => (by rw [HAY.out] at hr; cases hr; exact HPW.out), HPW.out.some⟩

set_option maxHeartbeats 1600000 in
theorem writes1_any (P base lb lc : Nat) (la : Option Addr) (L : List (Int × ByteArray)) (ps : List ByteArray) (ws ms : List Int) (q : Int) (w : World) (hW : PW w P base ps ws ms q []) (hm : ms = mMap ps) (hq : q = mSeq ps) (hok : chipOkP ps ws) (hLn : L.length ≤ 1048576) (hLb : ∀ x ∈ L, x.2.size ≤ maxLen ∧ -9223372036854775808 ≤ x.1 ∧ x.1 ≤ 9223372036854775807)
    (hs : w.cell? ⟨lb, 0, none⟩ = some (.slice la L.length lc)) (hL : ∀ u, Below base w u → Rd u la (vsPut L)) :
    Calls Tryz.prog 28 #[.pointer (some ⟨P, 0, none⟩), .pointer (some ⟨lb, 0, none⟩)] w fun e w' => e = .returned (.bool (pWritesL L ps ws).isSome) ∧ Below base w w' ∧ Fr P P P w w' ∧
      (∀ r, pWritesL L ps ws = some r → PW w' P base r.1 r.2.1 (mMap r.1) (mSeq r.1) r.2.2) ∧ PSome w' P base := by
  have HWR := hide (writeAll_any P base lc la L ps ws ms q w hW hm hq hok hLn hLb hL)
  obtain ⟨A, hA⟩ : ∃ A, A = pWritesL L ps ws := ⟨_, rfl⟩
  rw [← hA] at HWR ⊢
  clear hW hm hq hok hA hLb hL
  go_enter Tryz.func28, Tryz.ntmps28
  go_wp2_with fail
  refine HWR.out.mono ?_
  rintro e w1 ⟨rfl, h⟩
  have HH := hide h
  clear h HWR
  go_wp2
  exact bodyPost_ret (v := .bool A.isSome) (by simp [results, Tryz.results28, go_sem]) rfl ⟨rfl, HH.out⟩

set_option maxRecDepth 100000 in
set_option maxHeartbeats 12800000 in
theorem plannedW_ok (a b e0 : Option Addr) (ps : List ByteArray) (ws ms : List Int) (c d f lb lc : Nat) (la : Option Addr) (q : Int) (L : List (Int × ByteArray)) (w : World) (hp : Rd w a (vsString ps)) (hw : Rd w b (vsInt ws)) (hms : Rd w e0 (vsInt ms)) (hok : ftlOkB ps ws ms q = true) (hLn : L.length ≤ 1048576) (hLb : ∀ x ∈ L, x.2.size ≤ maxLen ∧ -9223372036854775808 ≤ x.1 ∧ x.1 ≤ 9223372036854775807)
    (hs : w.cell? ⟨lb, 0, none⟩ = some (.slice la L.length lc)) (hd : Rd w la (vsPut L)) :
    Calls Tryz.prog 27 #[.agg #[.slice a ps.length c, .slice b ws.length d, .slice e0 ms.length f, .int .i64 q], .func (.func 28) #[] #[.pointer (some ⟨lb, 0, none⟩)]] w fun e w' => PlanPost w w' e ps ws ms q (pWritesL L ps ws) := by
  have hmf : ∀ (fn : Fn) (first cap : Array Value) (w : World), (Instr.makeFunc fn first cap).run Tryz.prog w = .ok (.func fn first cap) w := fun _ _ _ _ => rfl
  obtain ⟨hch, hmm, hqq⟩ := ftlOk_parts hok
  obtain ⟨A, hA⟩ : ∃ A, A = (((w.alloc (Obj.cells #[.slice a ps.length c, .slice b ws.length d, .slice e0 ms.length f, .int .i64 q] 34)).alloc (Obj.cells #[.slice none 0 0] 31)).alloc (Obj.cells #[.slice none 0 0, .slice none 0 0, .slice none 0 0, .int .i64 0] 34)).alloc (Obj.cells #[.bool false] 4) := ⟨_, rfl⟩
  have hsA : A.heap.size = w.heap.size + 4 := by rw [hA]; simp
  have hbA : Below w.heap.size w A := by rw [hA]; exact ((((Below.refl _ _).alloc (Nat.le_refl _) _).alloc (by simp) _).alloc (by simp; omega) _).alloc (by simp; omega) _
  have n0 : A.cell? ⟨w.heap.size, 0, none⟩ = some (.slice a ps.length c) ∧ A.cell? ⟨w.heap.size, 1, none⟩ = some (.slice b ws.length d) ∧ A.cell? ⟨w.heap.size, 2, none⟩ = some (.slice e0 ms.length f) ∧ A.cell? ⟨w.heap.size, 3, none⟩ = some (.int .i64 q) := by rw [hA]; refine ⟨?_, ?_, ?_, ?_⟩ <;> simp [go_sem]
  obtain ⟨R, hR⟩ : ∃ R, R = pWritesL L ps ws := ⟨_, rfl⟩
  have HR := hide hR
  rw [← hR]
  clear hR
  go_enter_defers Tryz.func27, Tryz.ntmps27
  go_wp2_with fail
  rw [← hA]
  have HNR : Hid (NRes A w.heap.size (.slice none 0 0) (.slice none 0 0) (.slice none 0 0) (.slice none 0 0) (.int .i64 0) (.bool false)) := by
    show NRes _ _ _ _ _ _ _ _
    rw [hA]
    refine ⟨⟨?_, ?_, ?_, ?_, ?_, ?_⟩, fun i => ?_, fun i => ?_, fun i => ?_⟩ <;> simp [go_sem]
  have HFO := hide (implFtlOk_any a b e0 ps ws ms c d f q A (hp.below hbA) (hw.below hbA) (hms.below hbA) (by rw [hch.1]; decide) (by rw [hch.2.1]; decide) (by rw [← hmm, mMap_len]; decide) (fun s h => by have := hch.2.2.1 s h; omega))
  rw [hok] at HFO
  have HMO : Hid (∀ u, Below A.heap.size A u → Calls Tryz.prog 50 #[.agg #[.slice a ps.length c, .slice b ws.length d]] u fun e w' => ∃ a c b d e0 f, e = .returned (.agg #[.slice a ps.length c, .slice b ws.length d, .slice e0 ms.length f, .int .i64 q]) ∧ FtlOwn w' A.heap.size (.agg #[.slice a ps.length c, .slice b ws.length d, .slice e0 ms.length f, .int .i64 q]) ps ws ms q ∧ Below u.heap.size u w') := by
    intro u hu
    refine (implMount_ok a b ps ws c d u (hp.below (after hbA hu)) (hw.below (after hbA hu)) hch).mono ?_
    rintro e w' ⟨v, rfl, hf, hb⟩
    rw [hmm, hqq] at hf
    obtain ⟨a1, c1, b1, d1, e1, f1, rfl⟩ := hf.shape
    exact ⟨_, _, _, _, _, _, rfl, ftlOwn_mono hf hu.size, hb⟩
  have HTX : Hid (∀ u, Below A.heap.size A u → u.cell? ⟨lb, 0, none⟩ = some (.slice la L.length lc) ∧ Rd u la (vsPut L)) := fun u hu =>
    ⟨((after hbA hu).cell (p := ⟨lb, 0, none⟩) (lt_of_cell hs)).trans hs, hd.below (after hbA hu)⟩
  have HCH := hide hch
  have HMQ := hide (And.intro hmm hqq)
  have HBA := hide hbA
  have HSA := hide hsA
  obtain ⟨m0, m1, m2, m3⟩ := id n0
  have hltw := lt_of_cell m0
  clear hp hw hms hok hch hmm hqq hbA hsA hs hd hA n0
  refine HFO.out.mono ?_
  rintro e w1 ⟨rfl, hb1⟩
  have HB1 := hide hb1
  have p0 := (hb1.cell (p := ⟨w.heap.size, 0, none⟩) hltw).trans m0
  have p1 := (hb1.cell (p := ⟨w.heap.size, 1, none⟩) hltw).trans m1
  clear HFO hb1 m0 m1 m2 m3
  go_wp2_with fail
  refine (HMO.out w1 HB1.out).mono ?_
  rintro e w2 ⟨a6, c6, b6, d6, e6, f6, rfl, hf2, hb2⟩
  have HB2 := hide (after HB1.out hb2)
  obtain ⟨W3, hW3⟩ : ∃ W3, W3 = w2.alloc (Obj.cells #[.slice a6 ps.length c6, .slice b6 ws.length d6, .slice e6 ms.length f6, .int .i64 q] 34) := ⟨_, rfl⟩
  have hs3 : W3.heap.size = w2.heap.size + 1 := by rw [hW3]; simp
  have hb3 : Below w2.heap.size w2 W3 := by rw [hW3]; exact (Below.refl _ _).alloc (Nat.le_refl _) _
  have hk7 : W3.heap[w2.heap.size]? = some (.cells #[.slice a6 ps.length c6, .slice b6 ws.length d6, .slice e6 ms.length f6, .int .i64 q] 34 (0, 0)) := by rw [hW3]; exact heap_alloc_new _ _
  obtain ⟨W4, hW4⟩ : ∃ W4, W4 = W3.alloc (Obj.cells #[.slice none 0 0, .slice a6 ps.length c6, .slice b6 ws.length d6, .slice e6 ms.length f6, .int .i64 q] 86) := ⟨_, rfl⟩
  have hPW := pwork_new (base := A.heap.size) (hf2.below hb3) (after HB2.out hb3).size
  rw [← hW4, hs3] at hPW
  have hb4 : Below W3.heap.size W3 W4 := by rw [hW4]; exact (Below.refl _ _).alloc (Nat.le_refl _) _
  have hk7 := (hb4.block w2.heap.size (by omega)).trans hk7
  have hB4 := after HB2.out (after hb3 hb4)
  have HPW := hide hPW
  have HB4 := hide hB4
  have HK7 := hide hk7
  obtain ⟨q0, q1⟩ := HTX.out W4 hB4
  have HP1 := hide (writes1_any (w2.heap.size + 1) A.heap.size lb lc la L ps ws ms q W4 hPW.pw HMQ.out.1.symm HMQ.out.2.symm HCH.out hLn hLb q0 (fun u hu => (HTX.out u (hB4.trans hu)).2))
  rw [← HR.out] at HP1
  have HS4 : Hid (W4.heap.size = w2.heap.size + 1 + 1) := by show _ = _; rw [hW4, World.size_alloc, hs3]
  clear hf2 hb2 hb3 hs3 hPW hb4 hB4 HMO HTX p0 p1 hk7 q0 q1
  go_wp2_with fail
  rw [← hW3, ← hW4]
  clear hW3 hW4
  refine HP1.out.mono ?_
  rintro e w5 ⟨rfl, hb5, hf5, hy, hps⟩
  have HB5 : Hid (Below A.heap.size A w5) := HB4.out.trans hb5
  have HN5 := hide (HNR.out.below HB5.out (by rw [HSA.out]; exact Nat.le_refl _))
  have HBW : Hid (Below w.heap.size w w5) := HBA.out.trans (HB5.out.mono HBA.out.size)
  obtain ⟨⟨g0, g1, g2, g3, g4, g5⟩, gf1, gf2, gf3⟩ := id HN5.out
  have gf10 := gf1 0
  have gf20 := gf2 0
  have gf21 := gf2 1
  have gf22 := gf2 2
  have gf23 := gf2 3
  have gf30 := gf3 0
  have hsz : w.heap.size + 4 ≤ w2.heap.size := by have := HB2.out.size; have := HSA.out; omega
  cases R with
  | some r =>
    obtain ⟨M7, hM7⟩ : ∃ M7, M7 = mMap r.1 := ⟨_, rfl⟩
    obtain ⟨Q7, hQ7⟩ : ∃ Q7, Q7 = mSeq r.1 := ⟨_, rfl⟩
    have hpw := hy r rfl
    rw [← hM7, ← hQ7] at hpw
    obtain ⟨v7, k7, a7, c7, b7, d7, e7, f7, hpw⟩ := hpw
    obtain ⟨⟨x0, x1, x2, x3, x4⟩, -⟩ := hpw.cells
    have HPF := hide hpw
    have HM7 := hide (And.intro hM7 hQ7)
    clear hb5 hf5 hy hps hpw HP1 HNR HPW HK7 gf1 gf2 gf3 hM7 hQ7
    go_wp2_with fail
    generalize hP : w2.heap.size + 1 = P at x0 x1 x2 x3 x4 ⊢
    generalize hB7 : w2.heap.size = B7
    generalize hS1 : w.heap.size + 1 = S1 at g0 g1 g2 g3 g4 g5 gf10 gf20 gf21 gf22 gf23 gf30 ⊢
    generalize hS2 : S1 + 1 = S2 at g1 g2 g3 g4 g5 gf20 gf21 gf22 gf23 gf30 ⊢
    generalize hS3 : S2 + 1 = S3 at g5 gf30 ⊢
    have i1 : ¬ S1 = S2 := by omega
    have i2 : ¬ S1 = S3 := by omega
    have i3 : ¬ S2 = S3 := by omega
    have i4 : ¬ S2 = S1 := by omega
    have i5 : ¬ S3 = S1 := by omega
    have i6 : ¬ S3 = S2 := by omega
    have i7 : ¬ S1 = P := by omega
    have i8 : ¬ S2 = P := by omega
    have i9 : ¬ S3 = P := by omega
    have j7 : ¬ P = S1 := by omega
    have j8 : ¬ P = S2 := by omega
    have j9 : ¬ P = S3 := by omega
    obtain ⟨X, hX⟩ : ∃ X, X = (((((((w5.setCell ⟨S3, 0, none⟩ (.bool true)).setCell ⟨S1, 0, none⟩ (.slice v7 r.2.2.length k7)).setCell ⟨S2, 0, none⟩ (.slice a7 r.1.length c7)).setCell ⟨S2, 1, none⟩ (.slice b7 r.2.1.length d7)).setCell ⟨S2, 2, none⟩ (.slice e7 M7.length f7)).setCell ⟨S2, 3, none⟩ (.int .i64 Q7)).setCell ⟨S3, 0, none⟩ (.bool true)) := ⟨_, rfl⟩
    obtain ⟨V, hV⟩ : ∃ V, V = X.drew := ⟨_, rfl⟩
    have hfin : ResK w.heap.size A.heap.size w w5 V := by
      rw [hV, hX]
      have h1 : w.heap.size ≤ S1 ∧ S1 < A.heap.size := by have := HSA.out; omega
      have h2 : w.heap.size ≤ S2 ∧ S2 < A.heap.size := by have := HSA.out; omega
      have h3 : w.heap.size ≤ S3 ∧ S3 < A.heap.size := by have := HSA.out; omega
      exact ((((((((show ResK w.heap.size A.heap.size w w5 w5 from ⟨HBW.out, fun _ _ _ _ _ h => h⟩).set h3 _ _).set h1 _ _).set h2 _ _).set h2 _ _).set h2 _ _).set h2 _ _).set h3 _ _).drew
    obtain ⟨z0, z1, z2, z3, z4, z5⟩ := res_cells g0 g1 g2 g3 g4 g5 i1 i2 i3 X hX
    have z0 : V.cell? ⟨S1, 0, none⟩ = some (.slice v7 r.2.2.length k7) := by rw [hV]; simpa using z0
    have z1 : V.cell? ⟨S2, 0, none⟩ = some (.slice a7 r.1.length c7) := by rw [hV]; simpa using z1
    have z2 : V.cell? ⟨S2, 1, none⟩ = some (.slice b7 r.2.1.length d7) := by rw [hV]; simpa using z2
    have z3 : V.cell? ⟨S2, 2, none⟩ = some (.slice e7 M7.length f7) := by rw [hV]; simpa using z3
    have z4 : V.cell? ⟨S2, 3, none⟩ = some (.int .i64 Q7) := by rw [hV]; simpa using z4
    have z5 : V.cell? ⟨S3, 0, none⟩ = some (.bool true) := by rw [hV]; simpa using z5
    obtain ⟨hbV, hoV⟩ := hfin
    have HRES : Hid (ActsOwn V w.heap.size (.slice v7 r.2.2.length k7) r.2.2 ∧ FtlOwn V w.heap.size (.agg #[.slice a7 r.1.length c7, .slice b7 r.2.1.length d7, .slice e7 M7.length f7, .int .i64 Q7]) r.1 r.2.1 (mMap r.1) (mSeq r.1) ∧ Below w.heap.size w V) := by
      refine ⟨owns_mono (hoV _ _ _ _ _ HPF.out.2.2.1) HBA.out.size, ?_, hbV⟩
      obtain ⟨u1, u2, u3, hv, o1, o2, o3, hh⟩ := HPF.out.2.2.2
      rw [← HM7.out.1, ← HM7.out.2]
      exact ⟨u1, u2, u3, hv, owns_mono (hoV _ _ _ _ _ o1) HBA.out.size, owns_mono (hoV _ _ _ _ _ o2) HBA.out.size, owns_mono (hoV _ _ _ _ _ o3) HBA.out.size, hh⟩
    clear hsz hP hB7 hS1 hS2 hS3 hbV hoV
    go_region
    rw [← hX, ← hV]
    clear hV hX g0 g1 g2 g3 g4 g5 gf10 gf20 gf21 gf22 gf23 gf30 x0 x1 x2 x3 x4
    go_wp2
    refine leaves_cons (f := 51) (args := #[.pointer (some ⟨S3, 0, none⟩), .pointer (some ⟨B7, 0, none⟩), .pointer (some ⟨S1, 0, none⟩), .pointer (some ⟨S2, 0, none⟩)]) (by simp) (by simp [go_sem]) ?_
    refine (planned1_idle S3 B7 S1 S2 V z5 _).mono ?_
    rintro e u' w'' ⟨rfl, rfl, rfl⟩
    simp [Leaves, settle, results, Tryz.results27, go_sem, z0, z1, z2, z3, z4, z5]
    exact ⟨_, _, rfl, fun r' hr => by injection hr with hr; subst hr; exact ⟨HRES.out.1, HRES.out.2.1⟩, fun h => (by cases h), HRES.out.2.2⟩
  | none =>
    obtain ⟨pz, wz, mz, qz, cz, v7, k7, a7, c7, b7, d7, e7, f7, hpw⟩ := hps
    obtain ⟨⟨x0, x1, x2, x3, x4⟩, -⟩ := hpw.cells
    have hP0 := HPW.out.1
    obtain ⟨o1, o2, o3⟩ := ftl_rows HPW.out.2.2.2
    have hne7 := HPW.out.2.2.2
    have HFT : Hid (FtlOwn w5 A.heap.size (.agg #[.slice a6 ps.length c6, .slice b6 ws.length d6, .slice e6 ms.length f6, .int .i64 q]) ps ws ms q) := by
      obtain ⟨u1, u2, u3, hv, r1, r2, r3, hh⟩ := HPW.out.2.2.2
      injection hv with hv
      simp at hv
      obtain ⟨rfl, rfl, rfl⟩ := hv
      refine ⟨_, _, _, rfl, ?_, ?_, ?_, hh⟩
      · exact hf5.row r1 (by decide) (fun k hk => by have := kind_ne r1 hP0 (by decide); rw [hk] at this; simp at this; exact ⟨this, this, this⟩)
      · exact hf5.row r2 (by decide) (fun k hk => by have := kind_ne r2 hP0 (by decide); rw [hk] at this; simp at this; exact ⟨this, this, this⟩)
      · exact hf5.row r3 (by decide) (fun k hk => by have := kind_ne r3 hP0 (by decide); rw [hk] at this; simp at this; exact ⟨this, this, this⟩)
    have hk5 : w5.heap[w2.heap.size]? = some (.cells #[.slice a6 ps.length c6, .slice b6 ws.length d6, .slice e6 ms.length f6, .int .i64 q] 34 (0, 0)) := by
      refine (hf5.2 w2.heap.size (lt_of_block HK7.out) (by omega) (by omega) (by omega) (fun c' fz' hx => ?_)).trans HK7.out
      rw [HK7.out] at hx
      injection hx with hx
      injection hx with _ hx _
      exact absurd hx (by decide)
    have y0 : w5.cell? ⟨w2.heap.size, 0, none⟩ = some (.slice a6 ps.length c6) := wk_cell hk5 rfl
    have y1 : w5.cell? ⟨w2.heap.size, 1, none⟩ = some (.slice b6 ws.length d6) := wk_cell hk5 rfl
    have y2 : w5.cell? ⟨w2.heap.size, 2, none⟩ = some (.slice e6 ms.length f6) := wk_cell hk5 rfl
    have y3 : w5.cell? ⟨w2.heap.size, 3, none⟩ = some (.int .i64 q) := wk_cell hk5 rfl
    clear hb5 hf5 hy hpw HP1 HNR HPW HK7 gf1 gf2 gf3 hP0 o1 o2 o3 hne7 hk5
    go_wp2_with fail
    generalize hP : w2.heap.size + 1 = P at x0 x1 x2 x3 x4 ⊢
    generalize hB7 : w2.heap.size = B7 at y0 y1 y2 y3 ⊢
    generalize hS1 : w.heap.size + 1 = S1 at g0 g1 g2 g3 g4 g5 gf10 gf20 gf21 gf22 gf23 gf30 ⊢
    generalize hS2 : S1 + 1 = S2 at g1 g2 g3 g4 g5 gf20 gf21 gf22 gf23 gf30 ⊢
    generalize hS3 : S2 + 1 = S3 at g5 gf30 ⊢
    have i1 : ¬ S1 = S2 := by omega
    have i2 : ¬ S1 = S3 := by omega
    have i3 : ¬ S2 = S3 := by omega
    have i4 : ¬ S2 = S1 := by omega
    have i5 : ¬ S3 = S1 := by omega
    have i6 : ¬ S3 = S2 := by omega
    have i7 : ¬ S1 = P := by omega
    have i8 : ¬ S2 = P := by omega
    have i9 : ¬ S3 = P := by omega
    have j7 : ¬ P = S1 := by omega
    have j8 : ¬ P = S2 := by omega
    have j9 : ¬ P = S3 := by omega
    obtain ⟨X, hX⟩ : ∃ X, X = (((((((w5.setCell ⟨S3, 0, none⟩ (.bool false)).setCell ⟨S1, 0, none⟩ (.slice v7 cz.length k7)).setCell ⟨S2, 0, none⟩ (.slice a7 pz.length c7)).setCell ⟨S2, 1, none⟩ (.slice b7 wz.length d7)).setCell ⟨S2, 2, none⟩ (.slice e7 mz.length f7)).setCell ⟨S2, 3, none⟩ (.int .i64 qz)).setCell ⟨S3, 0, none⟩ (.bool false)) := ⟨_, rfl⟩
    obtain ⟨V, hV⟩ : ∃ V, V = X.drew := ⟨_, rfl⟩
    have hfin : ResK w.heap.size A.heap.size w w5 V := by
      rw [hV, hX]
      have h1 : w.heap.size ≤ S1 ∧ S1 < A.heap.size := by have := HSA.out; omega
      have h2 : w.heap.size ≤ S2 ∧ S2 < A.heap.size := by have := HSA.out; omega
      have h3 : w.heap.size ≤ S3 ∧ S3 < A.heap.size := by have := HSA.out; omega
      exact ((((((((show ResK w.heap.size A.heap.size w w5 w5 from ⟨HBW.out, fun _ _ _ _ _ h => h⟩).set h3 _ _).set h1 _ _).set h2 _ _).set h2 _ _).set h2 _ _).set h2 _ _).set h3 _ _).drew
    obtain ⟨z0, z1, z2, z3, z4, z5⟩ := res_cells g0 g1 g2 g3 g4 g5 i1 i2 i3 X hX
    have z0 : V.cell? ⟨S1, 0, none⟩ = some (.slice v7 cz.length k7) := by rw [hV]; simpa using z0
    have z1 : V.cell? ⟨S2, 0, none⟩ = some (.slice a7 pz.length c7) := by rw [hV]; simpa using z1
    have z2 : V.cell? ⟨S2, 1, none⟩ = some (.slice b7 wz.length d7) := by rw [hV]; simpa using z2
    have z3 : V.cell? ⟨S2, 2, none⟩ = some (.slice e7 mz.length f7) := by rw [hV]; simpa using z3
    have z4 : V.cell? ⟨S2, 3, none⟩ = some (.int .i64 qz) := by rw [hV]; simpa using z4
    have z5 : V.cell? ⟨S3, 0, none⟩ = some (.bool false) := by rw [hV]; simpa using z5
    obtain ⟨hbV, hoV⟩ := hfin
    have l1 : ¬ S1 = B7 := by omega
    have l2 : ¬ S2 = B7 := by omega
    have l3 : ¬ S3 = B7 := by omega
    have hyV : ∀ {o : Nat} {v : Value}, w5.cell? ⟨B7, o, none⟩ = some v → V.cell? ⟨B7, o, none⟩ = some v := fun hc => by
      rw [hV, hX]
      have := cell_other (u := .bool false) (k := 0) (cell_other (u := .int .i64 qz) (k := 3) (cell_other (u := .slice e7 mz.length f7) (k := 2) (cell_other (u := .slice b7 wz.length d7) (k := 1) (cell_other (u := .slice a7 pz.length c7) (k := 0) (cell_other (u := .slice v7 cz.length k7) (k := 0) (cell_other (u := .bool false) (k := 0) hc l3) l1) l2) l2) l2) l2) l3
      simpa using this
    have t0 := hyV y0
    have t1 := hyV y1
    have t2 := hyV y2
    have t3 := hyV y3
    have vf0 : V.frozen? ⟨S1, 0, none⟩ = false := by rw [hV, hX]; simpa using gf10
    have vf1 : V.frozen? ⟨S2, 0, none⟩ = false := by rw [hV, hX]; simpa using gf20
    have vf2 : V.frozen? ⟨S2, 1, none⟩ = false := by rw [hV, hX]; simpa using gf21
    have vf3 : V.frozen? ⟨S2, 2, none⟩ = false := by rw [hV, hX]; simpa using gf22
    have vf4 : V.frozen? ⟨S2, 3, none⟩ = false := by rw [hV, hX]; simpa using gf23
    obtain ⟨U, hU⟩ : ∃ U, U = ((((V.setCell ⟨S1, 0, none⟩ (.slice none 0 0)).setCell ⟨S2, 0, none⟩ (.slice a6 ps.length c6)).setCell ⟨S2, 1, none⟩ (.slice b6 ws.length d6)).setCell ⟨S2, 2, none⟩ (.slice e6 ms.length f6)).setCell ⟨S2, 3, none⟩ (.int .i64 q) := ⟨_, rfl⟩
    have s0 : U.cell? ⟨S1, 0, none⟩ = some (.slice none 0 0) := by rw [hU]; exact cell_other (cell_other (cell_other (cell_other (cell_set z0) i4) i4) i4) i4
    have s1 : U.cell? ⟨S2, 0, none⟩ = some (.slice a6 ps.length c6) := by rw [hU]; exact cell_side (cell_side (cell_side (cell_set (cell_other z1 i1)) (by decide)) (by decide)) (by decide)
    have s2 : U.cell? ⟨S2, 1, none⟩ = some (.slice b6 ws.length d6) := by rw [hU]; exact cell_side (cell_side (cell_set (cell_side (cell_other z2 i1) (by decide))) (by decide)) (by decide)
    have s3 : U.cell? ⟨S2, 2, none⟩ = some (.slice e6 ms.length f6) := by rw [hU]; exact cell_side (cell_set (cell_side (cell_side (cell_other z3 i1) (by decide)) (by decide))) (by decide)
    have s4 : U.cell? ⟨S2, 3, none⟩ = some (.int .i64 q) := by rw [hU]; exact cell_set (cell_side (cell_side (cell_side (cell_other z4 i1) (by decide)) (by decide)) (by decide))
    have s5 : U.cell? ⟨S3, 0, none⟩ = some (.bool false) := by rw [hU]; exact cell_other (cell_other (cell_other (cell_other (cell_other z5 i2) i3) i3) i3) i3
    have hKU : ResK w.heap.size A.heap.size w w5 U := by
      rw [hU]
      have h1 : w.heap.size ≤ S1 ∧ S1 < A.heap.size := by have := HSA.out; omega
      have h2 : w.heap.size ≤ S2 ∧ S2 < A.heap.size := by have := HSA.out; omega
      exact (((((show ResK w.heap.size A.heap.size w w5 V from ⟨hbV, hoV⟩).set h1 _ _).set h2 _ _).set h2 _ _).set h2 _ _).set h2 _ _
    have HRES : Hid (ActsOwn U w.heap.size (.slice none 0 0) [] ∧ FtlOwn U w.heap.size (.agg #[.slice a6 ps.length c6, .slice b6 ws.length d6, .slice e6 ms.length f6, .int .i64 q]) ps ws ms q ∧ Below w.heap.size w U) := by
      refine ⟨World.ownsRow_nil _ _ _ _, ?_, hKU.1⟩
      obtain ⟨u1, u2, u3, hv, o1, o2, o3, hh⟩ := HFT.out
      exact ⟨u1, u2, u3, hv, owns_mono (hKU.2 _ _ _ _ _ o1) HBA.out.size, owns_mono (hKU.2 _ _ _ _ _ o2) HBA.out.size, owns_mono (hKU.2 _ _ _ _ _ o3) HBA.out.size, hh⟩
    clear hsz hP hB7 hS1 hS2 hS3 hbV hoV hKU hyV
    go_region
    rw [← hX, ← hV]
    have HD := hide (planned1_back S3 B7 S1 S2 V a6 b6 e6 ps.length ws.length ms.length c6 d6 f6 q _ _ _ _ _ z5 t0 t1 t2 t3 z1 z2 z3 z4 z0 vf1 vf2 vf3 vf4 vf0 i1 .returning)
    rw [← hU] at HD
    clear hV hX hU g0 g1 g2 g3 g4 g5 gf10 gf20 gf21 gf22 gf23 gf30 x0 x1 x2 x3 x4 y0 y1 y2 y3 z0 z1 z2 z3 z4 z5 t0 t1 t2 t3 vf0 vf1 vf2 vf3 vf4
    go_wp2
    refine leaves_cons (f := 51) (args := #[.pointer (some ⟨S3, 0, none⟩), .pointer (some ⟨B7, 0, none⟩), .pointer (some ⟨S1, 0, none⟩), .pointer (some ⟨S2, 0, none⟩)]) (by simp) (by simp [go_sem]) ?_
    refine HD.out.mono ?_
    rintro e u' w'' ⟨rfl, rfl, hw⟩
    have hw' := hw.symm
    subst hw'
    simp [Leaves, settle, results, Tryz.results27, go_sem, s0, s1, s2, s3, s4, s5]
    exact ⟨_, _, rfl, fun r' hr => (by cases hr), fun _ => ⟨HRES.out.1, HRES.out.2.1⟩, HRES.out.2.2⟩


/-- What Writes answers of whatever came in. -/
noncomputable def writesR (ps : List ByteArray) (ws ms : List Int) (q : Int) (L : List (Int × ByteArray)) : List (Int × Int × ByteArray) × (List ByteArray × List Int × List Int × Int) × Bool :=
  if ftlOkB ps ws ms q = true then
    match pWritesL L ps ws with
    | none => ([], (ps, ws, ms, q), false)
    | some r => (r.2.2, (r.1, r.2.1, mMap r.1, mSeq r.1), true)
  else ([], ([], [], [], 0), false)
theorem writesIs_of {w w' : World} {e : Ending} {ps : List ByteArray} {ws ms : List Int} {q : Int} {L : List (Int × ByteArray)} (hok : ftlOkB ps ws ms q = true) (h : PlanPost w w' e ps ws ms q (pWritesL L ps ws)) : PlanIs w w' e (writesR ps ws ms q L) := by
  obtain ⟨va, vf, he, h1, h2, hb⟩ := h
  unfold writesR
  rw [if_pos hok]
  cases hp : pWritesL L ps ws with
  | none =>
    rw [hp] at he h2
    exact ⟨va, vf, he, (h2 rfl).1, (h2 rfl).2, hb⟩
  | some r =>
    rw [hp] at he h1
    exact ⟨va, vf, he, (h1 r rfl).1, (h1 r rfl).2, hb⟩

set_option maxRecDepth 100000 in
set_option maxHeartbeats 6400000 in
theorem implWrites_fn (a b e0 : Option Addr) (ps : List ByteArray) (ws ms : List Int) (c d f lc : Nat) (la : Option Addr) (q : Int) (L : List (Int × ByteArray)) (w : World) (hp : Rd w a (vsString ps)) (hw : Rd w b (vsInt ws)) (hms : Rd w e0 (vsInt ms)) (hl : ps.length ≤ 1048576) (hm : ws.length ≤ 1048576) (hn : ms.length ≤ 1048576) (hs : ∀ s ∈ ps, s.size ≤ 1048576) (hLn : L.length ≤ 1048576) (hLb : ∀ x ∈ L, x.2.size ≤ maxLen ∧ -9223372036854775808 ≤ x.1 ∧ x.1 ≤ 9223372036854775807) (hd : Rd w la (vsPut L)) :
    Calls Tryz.prog 9 #[.agg #[.slice a ps.length c, .slice b ws.length d, .slice e0 ms.length f, .int .i64 q], .slice la L.length lc] w fun e w' => PlanIs w w' e (writesR ps ws ms q L) := by
  have hmf : ∀ (fn : Fn) (first cap : Array Value) (w : World), (Instr.makeFunc fn first cap).run Tryz.prog w = .ok (.func fn first cap) w := fun _ _ _ _ => rfl
  obtain ⟨A, hA⟩ : ∃ A, A = ((w.alloc (Obj.cells #[.slice a ps.length c, .slice b ws.length d, .slice e0 ms.length f, .int .i64 q] 34)).alloc (Obj.cells #[.slice la L.length lc] 38)).alloc (Obj.cells #[.slice none 0 0, .slice none 0 0, .slice none 0 0, .int .i64 0] 34) := ⟨_, rfl⟩
  have hsA : A.heap.size = w.heap.size + 3 := by rw [hA]; simp
  have hbA : Below w.heap.size w A := by rw [hA]; exact (((Below.refl _ _).alloc (Nat.le_refl _) _).alloc (by simp) _).alloc (by simp; omega) _
  have n0 : A.cell? ⟨w.heap.size + 1, 0, none⟩ = some (.slice la L.length lc) := by rw [hA]; simp [go_sem]
  have n1 : A.cell? ⟨w.heap.size, 0, none⟩ = some (.slice a ps.length c) ∧ A.cell? ⟨w.heap.size, 1, none⟩ = some (.slice b ws.length d) ∧ A.cell? ⟨w.heap.size, 2, none⟩ = some (.slice e0 ms.length f) ∧ A.cell? ⟨w.heap.size, 3, none⟩ = some (.int .i64 q) := by rw [hA]; refine ⟨?_, ?_, ?_, ?_⟩ <;> simp [go_sem]
  have k4 : C4 A (w.heap.size + 1 + 1) (.slice none 0 0) (.slice none 0 0) (.slice none 0 0) (.int .i64 0) := by
    have := c4_new ((w.alloc (Obj.cells #[.slice a ps.length c, .slice b ws.length d, .slice e0 ms.length f, .int .i64 q] 34)).alloc (Obj.cells #[.slice la L.length lc] 38)) (.slice none 0 0) (.slice none 0 0) (.slice none 0 0) (.int .i64 0) 34
    rw [← hA] at this
    simpa using this
  obtain ⟨R, hR⟩ : ∃ R, R = writesR ps ws ms q L := ⟨_, rfl⟩
  have HPL : Hid (Calls Tryz.prog 27 #[.agg #[.slice a ps.length c, .slice b ws.length d, .slice e0 ms.length f, .int .i64 q], .func (.func 28) #[] #[.pointer (some ⟨w.heap.size + 1, 0, none⟩)]] A fun e w' => PlanIs A w' e R) := by
    show Calls _ _ _ _ _
    rw [hR]
    cases hok : ftlOkB ps ws ms q with
    | true =>
      refine (plannedW_ok a b e0 ps ws ms c d f (w.heap.size + 1) lc la q L A (hp.below hbA) (hw.below hbA) (hms.below hbA) hok hLn hLb n0 (hd.below hbA)).mono ?_
      intro e w' h
      exact writesIs_of hok h
    | false =>
      refine (planned_bad a b e0 ps ws ms c d f q _ A (hp.below hbA) (hw.below hbA) (hms.below hbA) hl hm hn hs hok).mono ?_
      rintro e w' ⟨rfl, hb⟩
      unfold writesR
      rw [if_neg (by rw [hok]; decide)]
      exact ⟨_, _, rfl, World.ownsRow_nil _ _ _ _, ftlOwn_zero _ _, hb⟩
  have HBA := hide hbA
  have HSA := hide hsA
  have HK4 := hide k4
  obtain ⟨m0, m1, m2, m3⟩ := id n1
  rw [← hR]
  clear hp hw hms hl hm hn hs hLb hd hbA hsA n1 k4 hR
  go_enter Tryz.func9, Tryz.ntmps9
  go_wp2_with fail
  rw [← hA]
  clear hA
  refine HPL.out.mono ?_
  rintro e w1 ⟨va, vf, rfl, ha, hf, hb⟩
  obtain ⟨a1, k1, rfl⟩ := owns3_shape ha
  obtain ⟨a6, c6, b6, d6, e6, f6, rfl⟩ := hf.shape
  have HB1 := hide (HBA.out.trans (hb.mono HBA.out.size))
  obtain ⟨⟨y0, y1, y2, y3⟩, yf⟩ := HK4.out.below hb
  have yf0 := yf 0
  have yf1 := yf 1
  have yf2 := yf 2
  have yf3 := yf 3
  have HOW := hide (And.intro ha hf)
  clear HPL ha hf hb yf m0 m1 m2 m3
  generalize hg : w.heap.size + 1 + 1 = g at y0 y1 y2 y3 yf0 yf1 yf2 yf3 ⊢
  have HG : Hid (w.heap.size ≤ g ∧ g < A.heap.size) := by show _ ∧ _; have := HSA.out; omega
  clear hg
  have hfin : ∀ (x0 x1 x2 x3 : Value), Hid (ResK w.heap.size A.heap.size w w1 ((((w1.setCell ⟨g, 0, none⟩ x0).setCell ⟨g, 1, none⟩ x1).setCell ⟨g, 2, none⟩ x2).setCell ⟨g, 3, none⟩ x3)) := fun x0 x1 x2 x3 =>
    ((((show ResK w.heap.size A.heap.size w w1 w1 from ⟨HB1.out, fun _ _ _ _ _ h => h⟩).set HG.out 0 x0).set HG.out 1 x1).set HG.out 2 x2).set HG.out 3 x3
  have HFIN := hide hfin
  clear hfin
  go_wp2_with fail
  have hr := (HFIN.out (.slice a6 R.2.1.1.length c6) (.slice b6 R.2.1.2.1.length d6) (.slice e6 R.2.1.2.2.1.length f6) (.int .i64 R.2.1.2.2.2)).out
  refine bodyPost_ret (v := .tuple #[.slice a1 R.1.length k1, .agg #[.slice a6 R.2.1.1.length c6, .slice b6 R.2.1.2.1.length d6, .slice e6 R.2.1.2.2.1.length f6, .int .i64 R.2.1.2.2.2], .bool R.2.2]) (by simp [results, Tryz.results9, go_sem, y0, y1, y2, y3]) rfl ⟨_, _, rfl, owns_mono (hr.2 _ _ _ _ _ HOW.out.1) HBA.out.size, ?_, hr.1⟩
  obtain ⟨u1, u2, u3, hv, o1, o2, o3, hh⟩ := HOW.out.2
  exact ⟨u1, u2, u3, hv, owns_mono (hr.2 _ _ _ _ _ o1) HBA.out.size, owns_mono (hr.2 _ _ _ _ _ o2) HBA.out.size, owns_mono (hr.2 _ _ _ _ _ o3) HBA.out.size, hh⟩


end Go.Proofs.YtghlnagainodaaaGreat

namespace Go.Proofs.YtghlnagainodaaaGreat
open Go.RowKit
attribute [local go_sem ↓] Go.wp_at_zero Go.wp_at_succ

set_option maxHeartbeats 800000 in
theorem eqAct_same (s q : Int) (d : ByteArray) (w : World) :
    Calls Tryz.prog 30 #[.agg #[.int .i64 s, .int .i64 q, .string d], .agg #[.int .i64 s, .int .i64 q, .string d]] w fun e w' => e = .returned (.bool true) ∧ Below w.heap.size w w' := by
  have hb : Below w.heap.size w ((w.alloc (Obj.cells #[.int .i64 s, .int .i64 q, .string d] 65)).alloc (Obj.cells #[.int .i64 s, .int .i64 q, .string d] 65)) := ((Below.refl _ _).alloc (Nat.le_refl _) _).alloc (by simp) _
  go_enter Tryz.func30, Tryz.ntmps30
  go_wp2
  go_ret
  exact ⟨rfl, hb⟩

set_option maxRecDepth 100000 in
set_option maxHeartbeats 1600000 in
theorem eqActS_same (a b : Option Addr) (xs : List (Int × Int × ByteArray)) (c d : Nat) (w : World) (hr : Rd w a (vsAct xs)) (hs : Rd w b (vsAct xs)) (hm : xs.length ≤ 1048576) :
    Calls Tryz.prog 10 #[.slice a xs.length c, .slice b xs.length d] w fun e w' => e = .returned (.bool true) ∧ Below w.heap.size w w' := by
  have HR := hide hr
  have HS := hide hs
  clear hr hs
  go_enter Tryz.func10, Tryz.ntmps10
  go_wp2
  go_loopw [5] (fun i wr => ∃ k : Nat, k ≤ xs.length ∧ i = .int .i64 k ∧ Below w.heap.size w wr) (fun i _ => xs.length - (intOf i).toNat)
  case atStart => exact ⟨0, Nat.zero_le _, rfl, Below.refl _ _⟩
  case round =>
    obtain ⟨k, hk, rfl, hbel⟩ := hrel
    by_cases hlt : k < xs.length
    · obtain ⟨b1, o1, x, rfl, h0, h1, h2, HX⟩ := rdAct_at (HR.out.below hbel) hlt
      obtain ⟨b2, o2, y, rfl, j0, j1, j2, HY⟩ := rdAct_at (HS.out.below hbel) hlt
      have hxy : x = y := by have h := HX.out; rw [HY.out] at h; exact (Option.some.inj h).symm
      subst hxy
      obtain ⟨s, q, t⟩ := x
      have hk0 : (k : Int) < (xs.length : Int) := by omega
      have HC : Hid (∀ u, Below wr.heap.size wr.drew u → u.cell? ⟨b1, o1 + k * 3, none⟩ = some (.int .i64 s) ∧ u.cell? ⟨b1, o1 + k * 3 + 1, none⟩ = some (.int .i64 q) ∧ u.cell? ⟨b1, o1 + k * 3 + 2, none⟩ = some (.string t) ∧ u.cell? ⟨b2, o2 + k * 3, none⟩ = some (.int .i64 s) ∧ u.cell? ⟨b2, o2 + k * 3 + 1, none⟩ = some (.int .i64 q) ∧ u.cell? ⟨b2, o2 + k * 3 + 2, none⟩ = some (.string t)) := by
        intro u hu
        have l1 := lt_of_cell h0
        have l2 := lt_of_cell j0
        exact ⟨(hu.cell (p := ⟨b1, o1 + k * 3, none⟩) l1).trans (by simpa using h0), (hu.cell (p := ⟨b1, o1 + k * 3 + 1, none⟩) l1).trans (by simpa using h1), (hu.cell (p := ⟨b1, o1 + k * 3 + 2, none⟩) l1).trans (by simpa using h2), (hu.cell (p := ⟨b2, o2 + k * 3, none⟩) l2).trans (by simpa using j0), (hu.cell (p := ⟨b2, o2 + k * 3 + 1, none⟩) l2).trans (by simpa using j1), (hu.cell (p := ⟨b2, o2 + k * 3 + 2, none⟩) l2).trans (by simpa using j2)⟩
      have HB := hide hbel
      clear HX HY hbel
      go_wp2
      go_region_held (fun u => u.cell? ⟨b1, o1 + k * 3, none⟩ = some (.int .i64 s) ∧ u.cell? ⟨b1, o1 + k * 3 + 1, none⟩ = some (.int .i64 q) ∧ u.cell? ⟨b1, o1 + k * 3 + 2, none⟩ = some (.string t) ∧ u.cell? ⟨b2, o2 + k * 3, none⟩ = some (.int .i64 s) ∧ u.cell? ⟨b2, o2 + k * 3 + 1, none⟩ = some (.int .i64 q) ∧ u.cell? ⟨b2, o2 + k * 3 + 2, none⟩ = some (.string t)) (first | assumption | go_keep)
        ((go_at_call 30; refine (eqAct_same s q t _).mono ?_; rintro e w1 ⟨rfl, hb1⟩; have HB1 : Hid (Below wr.heap.size wr w1) := after (after_drew (Below.refl _ _) 1) hb1; have hc1 := HC.out w1 (after (Below.refl _ _) hb1); clear hb1))
      have HBW := hide (after HB.out HB1.out)
      clear hc1 HC h0 h1 h2 j0 j1 j2
      go_wp2
      go_roundw
      case rel => exact ⟨k + 1, by omega, by go_num, HBW.out⟩
      case measure => simp [intOf]; omega
    · have hkl : k = xs.length := by omega
      subst hkl
      go_wp2
      go_ret
      exact ⟨rfl, hbel⟩

/-- The marks of acts. -/
def marksA (q n : Nat) : List Value := (List.range n).flatMap fun (i : Nat) => [.int .i64 ((q : Int) + (i : Int) * 3), .int .i64 ((q : Int) + (i : Int) * 3 + 1), .string (mtext (q + i * 3 + 2))]
theorem marksA_step (q n : Nat) : marksA q (n + 1) = marksA q n ++ [.int .i64 ((q : Int) + (n : Int) * 3), .int .i64 ((q : Int) + (n : Int) * 3 + 1), .string (mtext (q + n * 3 + 2))] := by simp [marksA, List.range_succ]
theorem marksA_len (q n : Nat) : (marksA q n).length = n * 3 := by
  induction n with
  | zero => rfl
  | succ n ih => rw [marksA_step, List.length_append, ih]; simp; omega
theorem marksA_at (q : Nat) : ∀ (n k : Nat), k < n → (marksA q n)[k * 3]? = some (.int .i64 ((q : Int) + (k : Int) * 3)) ∧ (marksA q n)[k * 3 + 1]? = some (.int .i64 ((q : Int) + (k : Int) * 3 + 1)) ∧ (marksA q n)[k * 3 + 2]? = some (.string (mtext (q + k * 3 + 2))) := by
  intro n
  induction n with
  | zero => intro k hk; omega
  | succ n ih =>
    intro k hk
    have hl := marksA_len q n
    rw [marksA_step]
    by_cases h : k < n
    · obtain ⟨h0, h1, h2⟩ := ih k h
      rw [List.getElem?_append_left (by omega), List.getElem?_append_left (by omega), List.getElem?_append_left (by omega)]
      exact ⟨h0, h1, h2⟩
    · obtain rfl : k = n := by omega
      rw [List.getElem?_append_right (by omega), List.getElem?_append_right (by omega), List.getElem?_append_right (by omega), hl]
      simp
def markedA (q : Nat) (xs : List Value) (k : Nat) : List Value := marksA q k ++ xs.drop (k * 3)
theorem markedA_step {q : Nat} {xs : List Value} {k : Nat} (h : k * 3 + 2 < xs.length) :
    (((markedA q xs k).set (k * 3) (.int .i64 ((q : Int) + (k : Int) * 3))).set (k * 3 + 1) (.int .i64 ((q : Int) + (k : Int) * 3 + 1))).set (k * 3 + 2) (.string (mtext (q + k * 3 + 2))) = markedA q xs (k + 1) := by
  have hl := marksA_len q k
  have hd : ∃ a b c, xs.drop (k * 3) = a :: b :: c :: xs.drop ((k + 1) * 3) := by
    refine ⟨xs[k * 3], xs[k * 3 + 1], xs[k * 3 + 1 + 1], ?_⟩
    rw [List.drop_eq_getElem_cons (i := k * 3) (by omega), List.drop_eq_getElem_cons (i := k * 3 + 1) (by omega), List.drop_eq_getElem_cons (i := k * 3 + 1 + 1) (by omega), show (k + 1) * 3 = k * 3 + 1 + 1 + 1 by omega]
  obtain ⟨a, b, c, hd⟩ := hd
  unfold markedA
  rw [marksA_step, hd, List.set_append_right _ _ (by omega), List.set_append_right _ _ (by omega), List.set_append_right _ _ (by omega), hl]
  rw [show k * 3 - k * 3 = 0 by omega, show k * 3 + 1 - k * 3 = 1 by omega, show k * 3 + 2 - k * 3 = 2 by omega]
  simp

set_option maxHeartbeats 1600000 in
theorem markActS_any (v : Value) (n : Nat) (xs : List Value) (base q : Nat) (w : World) (ho : w.ownsRow base 65 3 v n xs) (hm : n ≤ 1048576) (hq : q ≤ 10000000) :
    Calls Tryz.prog 15 #[v, .int .i64 q] w fun e w' => e = .returned (.int .i64 ((q + n * 3 : Nat) : Int)) ∧ w'.ownsRow base 65 3 v n (marksA q n) ∧ w.grownBy w' v.ownBlock := by
  rcases id ho with ⟨hl, ⟨rfl, rfl⟩ | ⟨g, cap, cur, rfl, hg, -⟩⟩
  · go_enter Tryz.func15, Tryz.ntmps15
    go_wp2
    go_loop [1, 5] (fun k i => k = .int .i64 q ∧ i = .int .i64 0) (fun _ _ => 0)
    case atStart => exact ⟨rfl, rfl⟩
    case round =>
      obtain ⟨rfl, rfl⟩ := hrel
      go_wp2
      go_ret
      exact ⟨rfl, World.ownsRow_nil _ _ _ _, World.grownBy.refl _ _⟩
  · have HLN : Hid (xs.length = n * 3) := by show _ = _; simpa using hl
    clear hl
    have hgw : g < w.heap.size := (owns_lt ho).2
    go_enter Tryz.func15, Tryz.ntmps15
    go_wp2
    go_loopw [1, 5] (fun kk i wr => ∃ k : Nat, k ≤ n ∧ i = .int .i64 k ∧ kk = .int .i64 ((q : Int) + (k : Int) * 3) ∧ Hid (wr.ownsRow base 65 3 (.slice (some ⟨g, 0, none⟩) n cap) n (markedA q xs k)) ∧ Hid (w.grownBy wr (some g))) (fun _ i _ => n - (intOf i).toNat)
    case atStart => exact ⟨0, Nat.zero_le _, rfl, rfl, by show World.ownsRow _ _ _ _ _ _ _; simpa [markedA, marksA] using ho, World.grownBy.refl _ _⟩
    case round =>
      obtain ⟨k, hk, rfl, rfl, hown, hgrow⟩ := hrel
      by_cases hlt : k < n
      · clear ho
        have hlen : (markedA q xs k).length = n * 3 := by have := hown.out.1; omega
        have hk2 : k * 3 + 2 < n * 3 := by omega
        have cA : ∀ j, j < n * 3 → ∃ u, wr.cell? ⟨g, j, none⟩ = some u := fun j hj => ⟨(markedA q xs k)[j], by rw [hown.out.cellAt j (by omega)]; simp [hlen, hj]⟩
        obtain ⟨u0, hc0⟩ := cA (k * 3) (by omega)
        obtain ⟨u1, hc1⟩ := cA (k * 3 + 1) (by omega)
        have hf0 := hown.out.frozenAt (k * 3)
        have hf1 := hown.out.frozenAt (k * 3 + 1)
        have hs0 := hown.out.stored (k * 3) (.int .i64 ((q : Int) + (k : Int) * 3))
        have hs1 := hs0.1.stored (k * 3 + 1) (.int .i64 ((q : Int) + (k : Int) * 3 + 1))
        obtain ⟨W2, hW2⟩ : ∃ W2, W2 = (wr.setCell ⟨g, k * 3, none⟩ (.int .i64 ((q : Int) + (k : Int) * 3))).setCell ⟨g, k * 3 + 1, none⟩ (.int .i64 ((q : Int) + (k : Int) * 3 + 1)) := ⟨_, rfl⟩
        have HO2 := hide hs1.1
        rw [← hW2] at HO2
        have HG2 := hide (grown_trans hgrow.out (grown_trans hs0.2 hs1.2))
        rw [← hW2] at HG2
        have HMT : Hid (Calls Tryz.prog 36 #[.int .i64 ((q : Int) + (k : Int) * 3 + 1 + 1)] W2 fun e w' => e = .returned (.string (mtext (q + k * 3 + 2))) ∧ Below W2.heap.size W2 w') := by
          show Calls _ _ _ _ _
          rw [show (q : Int) + (k : Int) * 3 + 1 + 1 = ((q + k * 3 + 2 : Nat) : Int) by omega]
          exact markText_any (q + k * 3 + 2) W2 (by omega) (by omega)
        have hkI : (k : Int) < (n : Int) := by omega
        clear hs0 hs1 cA hown hgrow
        go_wp2_with fail
        rw [← hW2]
        refine HMT.out.mono ?_
        rintro e w1 ⟨rfl, hb1⟩
        have hown1 := owns_below HO2.out hb1
        have hf2 := hown1.frozenAt (k * 3 + 2)
        have hcell : ∃ u, w1.cell? ⟨g, k * 3 + 2, none⟩ = some u := by
          have h1 := hown1.cellAt (k * 3 + 2) (by omega)
          have h2 := hown1.1
          exact ⟨_, h1.trans (List.getElem?_eq_getElem (by omega))⟩
        obtain ⟨u2, hcell⟩ := hcell
        have hs2 := hown1.stored (k * 3 + 2) (.string (mtext (q + k * 3 + 2)))
        have hg1 : w.grownBy w1 (some g) := ⟨hb1.os.trans HG2.out.os, hb1.tape.trans HG2.out.tape, hb1.output.trans HG2.out.output, Nat.le_trans HG2.out.size hb1.size, fun i hi hne => (hb1.block i (Nat.lt_of_lt_of_le hi HG2.out.size)).trans (HG2.out.block i hi hne)⟩
        have HOF : Hid ((w1.setCell ⟨g, k * 3 + 2, none⟩ (.string (mtext (q + k * 3 + 2)))).ownsRow base 65 3 (.slice (some ⟨g, 0, none⟩) n cap) n (markedA q xs (k + 1))) := by
          show World.ownsRow _ _ _ _ _ _ _
          rw [← markedA_step (by rw [HLN.out]; exact hk2)]
          exact hs2.1
        have HGF := hide (grown_trans hg1 hs2.2)
        clear hs2 hown1 hg1 hb1 HMT HO2 HG2 hW2 hc0 hc1 hf0 hf1
        go_wp2
        go_roundw
        case rel => exact ⟨k + 1, by omega, by go_num, by go_num, HOF, HGF⟩
        case measure => simp [intOf]; omega
      · have hkn : k = n := by omega
        subst hkn
        have HOE : Hid (wr.ownsRow base 65 3 (.slice (some ⟨g, 0, none⟩) k cap) k (marksA q k)) := by
          have e : markedA q xs k = marksA q k := by simp [markedA, HLN.out]
          show World.ownsRow _ _ _ _ _ _ _
          rw [← e]; exact hown.out
        clear ho hown
        go_wp2
        go_ret
        exact ⟨rfl, HOE.out, hgrow.out⟩

set_option maxRecDepth 100000 in
set_option maxHeartbeats 1600000 in
theorem heldActS_any (v : Value) (n : Nat) (base q : Nat) (w : World) (ho : w.ownsRow base 65 3 v n (marksA q n)) (hm : n ≤ 1048576) (hq : q ≤ 10000000) :
    Calls Tryz.prog 16 #[v, .int .i64 q] w fun e w' => e = .returned (.int .i64 ((q + n * 3 : Nat) : Int)) ∧ Below w.heap.size w w' := by
  rcases id ho with ⟨hl, ⟨rfl, rfl⟩ | ⟨g, cap, cur, rfl, hg, -⟩⟩
  · go_enter Tryz.func16, Tryz.ntmps16
    go_wp2
    go_loop [1, 5] (fun k i => k = .int .i64 q ∧ i = .int .i64 0) (fun _ _ => 0)
    case atStart => exact ⟨rfl, rfl⟩
    case round =>
      obtain ⟨rfl, rfl⟩ := hrel
      go_wp2
      go_ret
      exact ⟨rfl, Below.refl _ _⟩
  · clear hl
    have HOW := hide ho
    clear ho
    go_enter Tryz.func16, Tryz.ntmps16
    go_wp2
    go_loopw [1, 5] (fun kk i wr => ∃ k : Nat, k ≤ n ∧ i = .int .i64 k ∧ kk = .int .i64 ((q : Int) + (k : Int) * 3) ∧ Below w.heap.size w wr) (fun _ i _ => n - (intOf i).toNat)
    case atStart => exact ⟨0, Nat.zero_le _, rfl, by simp, Below.refl _ _⟩
    case round =>
      obtain ⟨k, hk, rfl, rfl, hbel⟩ := hrel
      by_cases hlt : k < n
      · have HC : Hid (∀ u, Below w.heap.size w u → u.cell? ⟨g, k * 3, none⟩ = some (.int .i64 ((q : Int) + (k : Int) * 3)) ∧ u.cell? ⟨g, k * 3 + 1, none⟩ = some (.int .i64 ((q : Int) + (k : Int) * 3 + 1)) ∧ u.cell? ⟨g, k * 3 + 2, none⟩ = some (.string (mtext (q + k * 3 + 2)))) := by
          intro u hu
          have h := owns_below HOW.out hu
          obtain ⟨h0, h1, h2⟩ := marksA_at q n k hlt
          exact ⟨(h.cellAt (k * 3) (by omega)).trans h0, (h.cellAt (k * 3 + 1) (by omega)).trans h1, (h.cellAt (k * 3 + 2) (by omega)).trans h2⟩
        obtain ⟨c0, c1, c2⟩ := HC.out wr hbel
        have HB := hide hbel
        have hkI : (k : Int) < (n : Int) := by omega
        have hk0 : (0 : Int) ≤ (k : Int) := by omega
        have hq0 : (0 : Int) ≤ (q : Int) := by omega
        have HMT : Hid (∀ u, Calls Tryz.prog 36 #[.int .i64 ((q : Int) + (k : Int) * 3 + 1 + 1)] u fun e w' => e = .returned (.string (mtext (q + k * 3 + 2))) ∧ Below u.heap.size u w') := by
          intro u
          rw [show (q : Int) + (k : Int) * 3 + 1 + 1 = ((q + k * 3 + 2 : Nat) : Int) by omega]
          exact markText_any (q + k * 3 + 2) u (by omega) (by omega)
        clear hbel
        go_wp2
        go_region_held (fun w' => w'.cell? ⟨g, k * 3 + 2, none⟩ = some (.string (mtext (q + k * 3 + 2)))) (first | assumption | go_keep)
          ((go_at_call 36; refine (HMT.out _).mono ?_; rintro e w1 ⟨rfl, hb1⟩; have HB1 : Hid (Below w.heap.size w w1) := after (after_drew HB.out 1) hb1; have hc1 := (HC.out w1 HB1.out).2.2; clear hb1))
        clear hc1 HC c0 c1 c2 HMT
        go_wp2
        go_roundw
        case rel => exact ⟨k + 1, by omega, by go_num, by go_num, HB1.out⟩
        case measure => simp [intOf]; omega
      · have hkn : k = n := by omega
        subst hkn
        go_wp2
        go_ret
        exact ⟨by go_num, hbel⟩
end Go.Proofs.YtghlnagainodaaaGreat
