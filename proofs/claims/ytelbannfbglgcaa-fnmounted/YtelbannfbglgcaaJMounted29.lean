/-
  Contract of the draw of what is mounted (l4Draw): some Ftl, that can be read; besides it the cursor alone turns.
  Contract of the draw of GetText's arguments; of the laws' helpers 'big' and 'at'.
  Contracts of the draws of the laws' arguments: chips (DrawMount, DrawNextPage, DrawFreeBlocks), what is mounted (DrawFtlOk, DrawLives, DrawSector).
-/
import Derived.Test.YtelbannfbglgcaaJMounted28
import Derived.Test.YtelbannfbglgcaaJMounted27
namespace Go.Proofs.Ytelbannfbglgcaa
open Go.RowKit

/-- What is mounted, as it was drawn: its rows lie above lo. -/
def DFtl (w : World) (lo : Nat) (a : Option Addr) (c : Nat) (b : Option Addr) (d : Nat) (e : Option Addr) (f : Nat) (ps : List ByteArray) (ws ms : List Int) : Prop :=
  DChip w lo a c b d ps ws ∧ Rd w e (vsInt ms) ∧ (∀ x, e = some x → lo ≤ x.block) ∧ ms.length ≤ f ∧ ms.length ≤ 26
theorem DFtl.grown {w w' : World} {lo p c d f : Nat} {a b e : Option Addr} {ps : List ByteArray} {ws ms : List Int} (h : DFtl w lo a c b d e f ps ws ms) (hg : w.grownBy w' (some p)) (hp : p < lo) : DFtl w' lo a c b d e f ps ws ms :=
  ⟨h.1.grown hg hp, h.2.1.grown hg (fun x hx => by have := h.2.2.1 x hx; omega), h.2.2⟩
theorem DFtl.below {w w' : World} {lo c d f : Nat} {a b e : Option Addr} {ps : List ByteArray} {ws ms : List Int} (h : DFtl w lo a c b d e f ps ws ms) (hb : Below w.heap.size w w') : DFtl w' lo a c b d e f ps ws ms :=
  ⟨h.1.below hb, h.2.1.below hb, h.2.2⟩
theorem DFtl.set {w : World} {lo c d f B : Nat} {a b e : Option Addr} {ps : List ByteArray} {ws ms : List Int} (h : DFtl w lo a c b d e f ps ws ms) (hB : B < lo) (j : Nat) (v : Value) : DFtl (w.setCell ⟨B, j, none⟩ v) lo a c b d e f ps ws ms :=
  ⟨h.1.set hB j v, rd_set h.2.1 (fun x hx => by have := h.2.2.1 x hx; omega) j v, h.2.2⟩
theorem DFtl.lower {w : World} {lo lo' c d f : Nat} {a b e : Option Addr} {ps : List ByteArray} {ws ms : List Int} (h : DFtl w lo a c b d e f ps ws ms) (hl : lo' ≤ lo) : DFtl w lo' a c b d e f ps ws ms :=
  ⟨h.1.lower hl, h.2.1, fun x hx => Nat.le_trans hl (h.2.2.1 x hx), h.2.2.2⟩
theorem DFtl.aside {w : World} {lo c d f X : Nat} {a b e : Option Addr} {ps : List ByteArray} {ws ms : List Int} (h : DFtl w lo a c b d e f ps ws ms) (ha : ∀ x, a = some x → x.block ≠ X) (hb : ∀ x, b = some x → x.block ≠ X) (he : ∀ x, e = some x → x.block ≠ X) (j : Nat) (v : Value) : DFtl (w.setCell ⟨X, j, none⟩ v) lo a c b d e f ps ws ms :=
  ⟨h.1.aside ha hb j v, rd_set h.2.1 he j v, h.2.2⟩
theorem d4_fin {w wx : World} {p c d f : Nat} {a b e : Option Addr} {ps : List ByteArray} {ws ms : List Int} (h : DFtl wx (w.heap.size + 1) a c b d e f ps ws ms) (hc : Cur wx p) (hg : w.grownBy wx (some p)) (hp : p < w.heap.size) (x y z t : Value) :
    DFtl ((((wx.setCell ⟨w.heap.size, 0, none⟩ x).setCell ⟨w.heap.size, 1, none⟩ y).setCell ⟨w.heap.size, 2, none⟩ z).setCell ⟨w.heap.size, 3, none⟩ t) w.heap.size a c b d e f ps ws ms ∧ Cur ((((wx.setCell ⟨w.heap.size, 0, none⟩ x).setCell ⟨w.heap.size, 1, none⟩ y).setCell ⟨w.heap.size, 2, none⟩ z).setCell ⟨w.heap.size, 3, none⟩ t) p ∧ w.grownBy ((((wx.setCell ⟨w.heap.size, 0, none⟩ x).setCell ⟨w.heap.size, 1, none⟩ y).setCell ⟨w.heap.size, 2, none⟩ z).setCell ⟨w.heap.size, 3, none⟩ t) (some p) := by
  have hbS : Below w.heap.size wx ((((wx.setCell ⟨w.heap.size, 0, none⟩ x).setCell ⟨w.heap.size, 1, none⟩ y).setCell ⟨w.heap.size, 2, none⟩ z).setCell ⟨w.heap.size, 3, none⟩ t) := ((((Below.refl _ _).setCell (p := ⟨w.heap.size, 0, none⟩) (Nat.le_refl _) _).setCell (p := ⟨w.heap.size, 1, none⟩) (Nat.le_refl _) _).setCell (p := ⟨w.heap.size, 2, none⟩) (Nat.le_refl _) _).setCell (p := ⟨w.heap.size, 3, none⟩) (Nat.le_refl _) _
  exact ⟨((((h.set (Nat.lt_succ_self _) 0 x).set (Nat.lt_succ_self _) 1 y).set (Nat.lt_succ_self _) 2 z).set (Nat.lt_succ_self _) 3 t).lower (Nat.le_succ _), hc.kept (hbS.mono (show p + 1 ≤ w.heap.size from hp)), grown_then hg hbS (Nat.le_refl _)⟩
theorem dftl_of {w : World} {lo c d f : Nat} {a b e : Option Addr} {ps : List ByteArray} {ws ms : List Int} {q : Int} (h : FtlOwn w lo (.agg #[.slice a ps.length c, .slice b ws.length d, .slice e ms.length f, .int .i64 q]) ps ws ms q) (hok : ftlOkB ps ws ms q = true) : DFtl w lo a c b d e f ps ws ms := by
  obtain ⟨hch, hmm, -⟩ := ftlOk_parts hok
  obtain ⟨v1, v2, v3, hv, o1, o2, o3, h12, h13, h23⟩ := h
  injection hv with hv
  simp at hv
  obtain ⟨rfl, rfl, rfl⟩ := hv
  refine ⟨dchip_of ⟨_, _, rfl, o1, o2, h12⟩ hch, rd_of_own o3, fun x hx => ?_, owns_cap o3, by rw [← hmm, mMap_len]; decide⟩
  subst hx; exact (o3.lt x.block rfl).1

set_option maxHeartbeats 6400000 in
theorem draw4_any (p : Nat) (w : World) (hc : Cur w p) (hp : p < w.heap.size) :
    Calls Try.prog 77 #[.pointer (some ⟨p, 0, none⟩)] w fun e w' => ∃ a c b d e0 f ps ws ms q, e = .returned (.agg #[.slice a (List.length ps) c, .slice b (List.length ws) d, .slice e0 (List.length ms) f, .int .i64 q]) ∧ DFtl w' w.heap.size a c b d e0 f ps ws ms ∧ Cur w' p ∧ w.grownBy w' (some p) := by
  obtain ⟨A, hA⟩ : ∃ A, A = w.alloc (Obj.cells #[.slice none 0 0, .slice none 0 0, .slice none 0 0, .int .i64 0] 47) := ⟨_, rfl⟩
  have hbA : Below w.heap.size w A := by rw [hA]; exact (Below.refl _ _).alloc (Nat.le_refl _) _
  have hsA : A.heap.size = w.heap.size + 1 := by rw [hA]; simp
  have hz : C4 A w.heap.size (.slice none 0 0) (.slice none 0 0) (.slice none 0 0) (.int .i64 0) := by rw [hA]; exact c4_new _ _ _ _ _ _
  have HDR := hide (drawRight_any p A (hc.kept (hbA.mono (show p + 1 ≤ w.heap.size from hp))) (by omega))
  have HGA := hide (grown_then (World.grownBy.refl w (some p)) hbA (Nat.le_refl _))
  have HZ := hide hz
  have HSA := hide hsA
  clear hc hbA hsA hz
  go_enter Try.func77, Try.ntmps77
  go_wp2_with fail
  rw [← hA]
  clear hA
  refine HDR.out.mono ?_
  rintro e w1 ⟨a, c, b, d, e0, f, ps, ws, ms, q, rfl, ho, hok, hc1, hg1⟩
  obtain ⟨V, hV⟩ : ∃ V, V = w1.alloc (Obj.cells #[.slice a ps.length c, .slice b ws.length d, .slice e0 ms.length f, .int .i64 q] 47) := ⟨_, rfl⟩
  have hbV : Below w1.heap.size w1 V := by rw [hV]; exact (Below.refl _ _).alloc (Nat.le_refl _) _
  have hcx : C4 V w1.heap.size (.slice a ps.length c) (.slice b ws.length d) (.slice e0 ms.length f) (.int .i64 q) := by rw [hV]; exact c4_new _ _ _ _ _ _
  have hs1 := hg1.size
  have hcV := hc1.kept (hbV.mono (show p + 1 ≤ w1.heap.size by have := HSA.out; omega))
  have HBL := hide (below_any p 15 V hcV (by omega))
  have HOV := hide (ho.below hbV)
  have HOK := hide hok
  have HGV := hide (grown_then (grown_trans HGA.out hg1) hbV (by have := HSA.out; omega))
  have HZV := hide ((HZ.out.grown hg1 (by omega)).below hbV)
  have HX := hide hcx
  have HBX : Hid ((∀ x, a = some x → x.block < w1.heap.size) ∧ (∀ x, b = some x → x.block < w1.heap.size) ∧ ∀ x, e0 = some x → x.block < w1.heap.size) := by
    obtain ⟨o1, o2, o3⟩ := fRows ho
    exact ⟨fun x hx => by subst hx; exact (o1.lt x.block rfl).2, fun x hx => by subst hx; exact (o2.lt x.block rfl).2, fun x hx => by subst hx; exact (o3.lt x.block rfl).2⟩
  clear ho hok hc1 hg1 HDR HZ HGA hbV hcx hcV
  go_wp2_with fail
  rw [← hV]
  clear hV
  have HXL : Hid (w.heap.size < w1.heap.size) := by show _ < _; have := HSA.out; omega
  generalize w1.heap.size = X at HX HXL HBX ⊢
  refine HBL.out.mono ?_
  rintro e w2 ⟨n, rfl, hn0, hn1, -, hc2, hg2⟩
  have hn1 := hn1 (by omega)
  have HG2 := hide (grown_trans HGV.out hg2)
  have HC2 := hide hc2
  have hpX : X ≠ p := by have := HXL.out; omega
  have hcx := HX.out.grown hg2 hpX
  obtain ⟨⟨x0, x1, x2, x3⟩, xf⟩ := id hcx
  have xf0 := xf 0
  have xf1 := xf 1
  have xf2 := xf 2
  have xf3 := xf 3
  have HZ2 := hide (HZV.out.grown hg2 (show w.heap.size ≠ p by omega))
  obtain ⟨⟨z0, z1, z2, z3⟩, zf⟩ := id HZ2.out
  have zf0 := zf 0
  have zf1 := zf 1
  have zf2 := zf 2
  have zf3 := zf 3
  have hXw : ¬ X = w.heap.size := by have := HXL.out; omega
  have hwX : ¬ w.heap.size = X := by have := HXL.out; omega
  have hown2 : FtlOwn w2 A.heap.size (.agg #[.slice a ps.length c, .slice b ws.length d, .slice e0 ms.length f, .int .i64 q]) ps ws ms q := HOV.out.grown hg2 (by have := HSA.out; omega)
  have hdc := dftl_of hown2 HOK.out
  rw [HSA.out] at hdc
  have hab : (∀ x, a = some x → x.block ≠ X) ∧ (∀ x, b = some x → x.block ≠ X) ∧ ∀ x, e0 = some x → x.block ≠ X := ⟨fun x hx => by have := HBX.out.1 x hx; omega, fun x hx => by have := HBX.out.2.1 x hx; omega, fun x hx => by have := HBX.out.2.2 x hx; omega⟩
  have HDC := hide hdc
  have HOW2 := hide hown2
  have HAB := hide hab
  have hpw : p < w2.heap.size := by have := HG2.out.size; omega
  have HKX : Hid (∀ u, w2.grownBy u (some p) → u.cell? ⟨X, 0, none⟩ = some (.slice a ps.length c) ∧ u.cell? ⟨X, 1, none⟩ = some (.slice b ws.length d) ∧ u.cell? ⟨X, 2, none⟩ = some (.slice e0 ms.length f) ∧ u.cell? ⟨X, 3, none⟩ = some (.int .i64 q)) := fun u hu => (hcx.grown hu hpX).1
  have HXF := hide (fun u (hu : w2.grownBy u (some p)) => (hcx.grown hu hpX).2)
  clear hn0 hcx xf zf HX HZV HOV hdc hown2 hab hc2 hg2 HGV HBL
  by_cases n0 : n = 0
  · subst n0
    obtain ⟨o1, o2, o3⟩ := fRows HOW2.out
    have hne : (∀ k, (Value.slice a ps.length c).ownBlock = some k → (Value.slice e0 ms.length f).ownBlock ≠ some k) ∧ ∀ k, (Value.slice b ws.length d).ownBlock = some k → (Value.slice e0 ms.length f).ownBlock ≠ some k := by
      obtain ⟨v1, v2, v3, hv, -, -, -, -, h13, h23⟩ := HOW2.out
      injection hv with hv
      simp at hv
      obtain ⟨rfl, rfl, rfl⟩ := hv
      exact ⟨h13, h23⟩
    obtain ⟨hne13, hne23⟩ := hne
    have hl26 : ms.length = 26 := by rw [← (ftlOk_parts HOK.out).2.1, mMap_len]
    obtain ⟨g, kg, hg, -, -⟩ := owns_form o3 (by omega)
    injection hg with hg1 _ hg2
    subst hg1 hg2
    have hlo : w.heap.size < g := by have := (o3.lt g rfl).1; have := HSA.out; omega
    have hgX : g ≠ X := HAB.out.2.2 ⟨g, 0, none⟩ rfl
    have HST : Hid (∀ (u : World) (k : Nat) (y : Int), w2.grownBy u (some p) → k < 26 → (∃ x, u.cell? ⟨g, k, none⟩ = some x) ∧ u.frozen? ⟨g, k, none⟩ = false ∧ DFtl (u.setCell ⟨g, k, none⟩ (.int .i64 y)) (w.heap.size + 1) a c b d (some ⟨g, 0, none⟩) f ps ws (ms.set k y)) := by
      intro u k y hu hk
      have hou := owns_grown o3 hu (by have := HSA.out; omega)
      have hst := hou.stored k (.int .i64 y)
      have hll : (vsInt ms).length = ms.length := by simp
      refine ⟨⟨(vsInt ms)[k]'(by rw [hll, hl26]; exact hk), by rw [hou.cellAt k (by omega)]; exact List.getElem?_eq_getElem _⟩, hou.frozenAt k, ?_⟩
      have e : (vsInt ms).set k (.int .i64 y) = vsInt (ms.set k y) := by simp [vsInt, List.map_set]
      rw [e] at hst
      have hD := HDC.out.grown hu (by omega)
      obtain ⟨dc, r3, l3, c3, n3⟩ := hD
      refine ⟨dc.aside (fun x hx => ?_) (fun x hx => ?_) k _, ?_, l3, by rw [List.length_set]; exact c3, by rw [List.length_set]; exact n3⟩
      · intro e; subst hx; exact hne13 x.block rfl (by rw [e]; rfl)
      · intro e; subst hx; exact hne23 x.block rfl (by rw [e]; rfl)
      · have h2 : World.ownsRow (u.setCell ⟨g, k, none⟩ (.int .i64 y)) A.heap.size 3 1 (.slice (some ⟨g, 0, none⟩) (ms.set k y).length f) (ms.set k y).length (vsInt (ms.set k y)) := by rw [List.length_set]; exact hst.1
        exact rd_of_own h2
    have hlw : 26 ≤ ms.length ∧ ms.length ≤ 26 := by omega
    clear o1 o2 o3 hne13 hne23 hl26
    go_wp2_with fail
    go_region_held (fun u => u.cell? ⟨X, 0, none⟩ = some (.slice a ps.length c) ∧ u.cell? ⟨X, 1, none⟩ = some (.slice b ws.length d) ∧ u.cell? ⟨X, 2, none⟩ = some (.slice (some ⟨g, 0, none⟩) ms.length f) ∧ u.cell? ⟨X, 3, none⟩ = some (.int .i64 q)) (first | assumption | go_keep | exact ⟨cell_other hS4.1 hgX, cell_other hS4.2.1 hgX, cell_other hS4.2.2.1 hgX, cell_other hS4.2.2.2 hgX⟩)
      ((first
        | (go_at_call 64; refine (below_any p 26 (w2.alloc (Obj.cells #[.int .i64 (-1), .int .i64 0, .int .i64 5, .int .i64 60] 3)).drew (HC2.out.kept ((((Below.refl _ _).alloc (Nat.le_refl _) _).drew).mono (B := w2.heap.size) (by omega))) (by omega)).mono ?_; rintro e w3 ⟨x, rfl, hx0, hx1, -, hc3, hg3⟩; have hx1 := hx1 (by omega); obtain ⟨k, rfl⟩ : ∃ k : Nat, x = k := ⟨x.toNat, by omega⟩; have HG3 : Hid (w2.grownBy w3 (some p)) := grown_trans (grown_then (World.grownBy.refl w2 (some p)) (B := w2.heap.size) (((Below.refl _ _).alloc (Nat.le_refl _) _).drew) (Nat.le_refl _)) hg3; have HC3 := hide hc3; have hS3 := HKX.out w3 HG3.out; have hkI : (k : Int) < 26 := hx1; have RL : Hid (Rd w3 (some ⟨w2.heap.size, 0, none⟩) (([-1, 0, 5, 60] : List Int).map (Value.int .i64))) := (show Rd (w2.alloc (Obj.cells #[.int .i64 (-1), .int .i64 0, .int .i64 5, .int .i64 60] 3)).drew _ _ from rd_lit w2 #[.int .i64 (-1), .int .i64 0, .int .i64 5, .int .i64 60] 3).grown hg3 (by intro x hx; cases hx; show w2.heap.size ≠ p; omega); clear hc3 hg3 hx0 hx1)
        | (go_at_call 64; refine (below_any p 26 w2.drew (HC2.out.drewN 1) (by omega)).mono ?_; rintro e w3 ⟨x, rfl, hx0, hx1, -, hc3, hg3⟩; have hx1 := hx1 (by omega); obtain ⟨k, rfl⟩ : ∃ k : Nat, x = k := ⟨x.toNat, by omega⟩; have HG3 : Hid (w2.grownBy w3 (some p)) := grown_trans (grown_then (World.grownBy.refl w2 (some p)) (B := w2.heap.size) (after_drew (Below.refl _ _) 1) (Nat.le_refl _)) hg3; have HC3 := hide hc3; have hS3 := HKX.out w3 HG3.out; have hkI : (k : Int) < 26 := hx1; clear hc3 hg3 hx0 hx1)
        | (go_at_call_of 68 (Value.slice (some ⟨w2.heap.size, 0, none⟩) 4 4); refine (pickInt_any p (some ⟨w2.heap.size, 0, none⟩) ([-1, 0, 5, 60] : List Int) 4 4 w3 rfl HC3.out RL.out (by intro x hx; cases hx; show w2.heap.size ≠ p; omega) (by decide) (by decide)).mono ?_; rintro e w4 ⟨y, rfl, -, hc4, hg4⟩; have HG4 := hide (grown_trans HG3.out hg4); have HC4 := hide hc4; have hS4 := HKX.out w4 HG4.out; obtain ⟨⟨old, hold⟩, hfz4, hD4⟩ := HST.out w4 k y HG4.out (by omega); have HD4 := hide hD4; clear hc4 hg4 hD4)
        | (go_at_call_of 68 (Value.slice (some ⟨w3.heap.size, 0, none⟩) 4 4); refine (pickInt_any p (some ⟨w3.heap.size, 0, none⟩) ([-1, 0, 5, 60] : List Int) 4 4 (w3.alloc (Obj.cells #[.int .i64 (-1), .int .i64 0, .int .i64 5, .int .i64 60] 3)) rfl (HC3.out.kept (((Below.refl w3.heap.size w3).alloc (Nat.le_refl _) _).mono (by have := HG3.out.size; omega))) (rd_lit w3 #[.int .i64 (-1), .int .i64 0, .int .i64 5, .int .i64 60] 3) (by intro x hx; cases hx; have := HG3.out.size; show w3.heap.size ≠ p; omega) (by decide) (by decide)).mono ?_; rintro e w4 ⟨y, rfl, -, hc4, hg4⟩; have HG4 := hide (grown_trans (grown_then HG3.out (B := w3.heap.size) ((Below.refl _ _).alloc (Nat.le_refl _) _) HG3.out.size) hg4); have HC4 := hide hc4; have hS4 := HKX.out w4 HG4.out; obtain ⟨⟨old, hold⟩, hfz4, hD4⟩ := HST.out w4 k y HG4.out (by omega); have HD4 := hide hD4; clear hc4 hg4 hD4)))
    all_goals
      have hgw4 := grown_trans HG2.out HG4.out
      have hbS : Below w.heap.size w4 (w4.setCell ⟨g, k, none⟩ (.int .i64 y)) := (Below.refl _ _).setCell (p := ⟨g, k, none⟩) (Nat.le_of_lt hlo) _
      have hGX : w.grownBy (w4.setCell ⟨g, k, none⟩ (.int .i64 y)) (some p) := grown_then hgw4 hbS (Nat.le_refl _)
      have hCX : Cur (w4.setCell ⟨g, k, none⟩ (.int .i64 y)) p := HC4.out.kept (hbS.mono (show p + 1 ≤ w.heap.size from hp))
      have HFI := hide (d4_fin HD4.out hCX hGX hp (.slice a ps.length c) (.slice b ws.length d) (.slice (some ⟨g, 0, none⟩) ms.length f) (.int .i64 q))
      obtain ⟨⟨z0, z1, z2, z3⟩, zf⟩ := HZ2.out.grown HG4.out (show w.heap.size ≠ p by omega)
      have zf0 := zf 0
      have zf1 := zf 1
      have zf2 := zf 2
      have zf3 := zf 3
      obtain ⟨x0, x1, x2, x3⟩ := hS4
      have hgw : ¬ g = w.heap.size := by omega
      have hwg : ¬ w.heap.size = g := by omega
      clear hGX hCX hbS hgw4 zf
      go_wp2
      exact bodyPost_ret (v := .agg #[.slice a ps.length c, .slice b ws.length d, .slice (some ⟨g, 0, none⟩) ms.length f, .int .i64 q]) (by simp [results, Try.results77, go_sem, z0, z1, z2, z3]) rfl ⟨_, _, _, _, _, _, _, _, ms.set k y, _, (by rw [List.length_set]), HFI.out⟩
  by_cases n1 : n = 1
  · subst n1
    obtain ⟨W3, hW3⟩ : ∃ W3, W3 = w2.alloc (Obj.cells #[.int .i64 0, .int .i64 1, .int .i64 1000000000] 3) := ⟨_, rfl⟩
    have hb3 : Below w2.heap.size w2 W3 := by rw [hW3]; exact (Below.refl _ _).alloc (Nat.le_refl _) _
    have HPI := hide (pickInt_any p (some ⟨w2.heap.size, 0, none⟩) ([0, 1, 1000000000] : List Int) 3 3 W3 rfl (HC2.out.kept (hb3.mono (by omega))) (by rw [hW3]; exact rd_lit w2 #[.int .i64 0, .int .i64 1, .int .i64 1000000000] 3) (by intro x hx; cases hx; show w2.heap.size ≠ p; omega) (by decide) (by decide))
    have HG3 := hide (grown_then (World.grownBy.refl w2 (some p)) hb3 (Nat.le_refl _))
    clear hb3
    go_wp2_with fail
    rw [← hW3]
    clear hW3
    refine HPI.out.mono ?_
    rintro e w4 ⟨y, rfl, -, hc4, hg4⟩
    have HG4 := hide (grown_trans HG3.out hg4)
    have hS4 := HKX.out w4 HG4.out
    have xf := HXF.out w4 HG4.out
    have xf3 := xf 3
    have hD0 : DFtl (w4.setCell ⟨X, 3, none⟩ (.int .i64 y)) (w.heap.size + 1) a c b d e0 f ps ws ms := (HDC.out.grown HG4.out (by omega)).aside HAB.out.1 HAB.out.2.1 HAB.out.2.2 3 (.int .i64 y)
    have hbS : Below w.heap.size w4 (w4.setCell ⟨X, 3, none⟩ (.int .i64 y)) := (Below.refl _ _).setCell (p := ⟨X, 3, none⟩) (Nat.le_of_lt HXL.out) _
    have HFI := hide (d4_fin hD0 (hc4.kept (hbS.mono (show p + 1 ≤ w.heap.size from hp))) (grown_then (grown_trans HG2.out HG4.out) hbS (Nat.le_refl _)) hp (.slice a ps.length c) (.slice b ws.length d) (.slice e0 ms.length f) (.int .i64 y))
    clear hD0 hbS hc4 hg4 HG3 HPI xf
    obtain ⟨⟨z0, z1, z2, z3⟩, zf⟩ := HZ2.out.grown HG4.out (show w.heap.size ≠ p by omega)
    have zf0 := zf 0
    have zf1 := zf 1
    have zf2 := zf 2
    have zf3 := zf 3
    obtain ⟨x0, x1, x2, x3⟩ := hS4
    clear zf
    go_wp2_with fail
    exact bodyPost_ret (v := .agg #[.slice a ps.length c, .slice b ws.length d, .slice e0 ms.length f, .int .i64 y]) (by simp [results, Try.results77, go_sem, z0, z1, z2, z3]) rfl ⟨_, _, _, _, _, _, _, _, _, _, rfl, HFI.out⟩
  by_cases n2 : n = 2
  · subst n2
    have HPI := hide (draw2_any p w2 HC2.out hpw)
    go_wp2_with fail
    refine HPI.out.mono ?_
    rintro e w4 ⟨a', c', b', d', ps', ws', rfl, hd4, hc4, hg4⟩
    have HG4 := hide hg4
    have hS4 := HKX.out w4 HG4.out
    have xf := HXF.out w4 HG4.out
    have xf0 := xf 0
    have xf1 := xf 1
    have hXl : X < w2.heap.size := lt_of_cell x0
    have hD0 : DFtl ((w4.setCell ⟨X, 0, none⟩ (.slice a' ps'.length c')).setCell ⟨X, 1, none⟩ (.slice b' ws'.length d')) (w.heap.size + 1) a' c' b' d' e0 f ps' ws' ms := by
      have h := HDC.out.grown HG4.out (by omega)
      have h1 : ∀ x, a' = some x → x.block ≠ X := fun x hx => by have := hd4.2.1 x hx; omega
      have h2 : ∀ x, b' = some x → x.block ≠ X := fun x hx => by have := hd4.2.2.1 x hx; omega
      exact ((show DFtl w4 (w.heap.size + 1) a' c' b' d' e0 f ps' ws' ms from ⟨hd4.lower (by have := HXL.out; omega), h.2⟩).aside h1 h2 HAB.out.2.2 0 _).aside h1 h2 HAB.out.2.2 1 _
    have hbS : Below w.heap.size w4 ((w4.setCell ⟨X, 0, none⟩ (.slice a' ps'.length c')).setCell ⟨X, 1, none⟩ (.slice b' ws'.length d')) := ((Below.refl _ _).setCell (p := ⟨X, 0, none⟩) (Nat.le_of_lt HXL.out) _).setCell (p := ⟨X, 1, none⟩) (Nat.le_of_lt HXL.out) _
    have HFI := hide (d4_fin hD0 (hc4.kept (hbS.mono (show p + 1 ≤ w.heap.size from hp))) (grown_then (grown_trans HG2.out HG4.out) hbS (Nat.le_refl _)) hp (.slice a' ps'.length c') (.slice b' ws'.length d') (.slice e0 ms.length f) (.int .i64 q))
    clear hD0 hbS hc4 hg4 HPI xf hd4
    obtain ⟨⟨z0, z1, z2, z3⟩, zf⟩ := HZ2.out.grown HG4.out (show w.heap.size ≠ p by omega)
    have zf0 := zf 0
    have zf1 := zf 1
    have zf2 := zf 2
    have zf3 := zf 3
    obtain ⟨x0, x1, x2, x3⟩ := hS4
    clear zf
    go_wp2_with fail
    exact bodyPost_ret (v := .agg #[.slice a' ps'.length c', .slice b' ws'.length d', .slice e0 ms.length f, .int .i64 q]) (by simp [results, Try.results77, go_sem, z0, z1, z2, z3]) rfl ⟨_, _, _, _, _, _, _, _, _, _, rfl, HFI.out⟩
  by_cases n3 : n = 3
  · subst n3
    have hD0 : DFtl (w2.setCell ⟨X, 2, none⟩ (.slice none 0 0)) (w.heap.size + 1) a c b d none 0 ps ws [] := by
      have h := HDC.out.aside HAB.out.1 HAB.out.2.1 HAB.out.2.2 2 (.slice none 0 0)
      exact ⟨h.1, .inl rfl, fun x hx => (by cases hx), Nat.le_refl _, Nat.zero_le _⟩
    have hGX : w.grownBy (w2.setCell ⟨X, 2, none⟩ (.slice none 0 0)) (some p) := grown_then HG2.out ((Below.refl w.heap.size w2).setCell (p := ⟨X, 2, none⟩) (Nat.le_of_lt HXL.out) _) (Nat.le_refl _)
    have hCX : Cur (w2.setCell ⟨X, 2, none⟩ (.slice none 0 0)) p := HC2.out.kept (((Below.refl w.heap.size w2).setCell (p := ⟨X, 2, none⟩) (Nat.le_of_lt HXL.out) _).mono (show p + 1 ≤ w.heap.size from hp))
    have HFI := hide (d4_fin hD0 hCX hGX hp (.slice a ps.length c) (.slice b ws.length d) (.slice none 0 0) (.int .i64 q))
    clear hD0 hGX hCX
    go_wp2_with fail
    exact bodyPost_ret (v := .agg #[.slice a ps.length c, .slice b ws.length d, .slice none 0 0, .int .i64 q]) (by simp [results, Try.results77, go_sem, z0, z1, z2, z3]) rfl ⟨_, _, _, _, _, _, _, _, [], _, rfl, HFI.out⟩
  have HFI := hide (d4_fin HDC.out HC2.out HG2.out hp (.slice a ps.length c) (.slice b ws.length d) (.slice e0 ms.length f) (.int .i64 q))
  go_wp2_with fail
  exact bodyPost_ret (v := .agg #[.slice a ps.length c, .slice b ws.length d, .slice e0 ms.length f, .int .i64 q]) (by simp [results, Try.results77, go_sem, z0, z1, z2, z3]) rfl ⟨_, _, _, _, _, _, _, _, _, _, rfl, HFI.out⟩

end Go.Proofs.Ytelbannfbglgcaa

namespace Go.Proofs.Ytelbannfbglgcaa
open Go.RowKit

theorem big_any (a : Option Addr) (n cap : Nat) (w : World) :
    Calls Try.prog 8 #[.slice a n cap] w fun e w' => e = .returned (.bool (decide ((1048576 : Int) < n))) ∧ w' = w := by
  go_enter Try.func8, Try.ntmps8
  go_wp2
  go_ret
  exact ⟨rfl, rfl⟩

end Go.Proofs.Ytelbannfbglgcaa

namespace Go.Proofs.Ytelbannfbglgcaa
open Go.RowKit

set_option maxHeartbeats 1600000 in
theorem DrawMount_any (la : Option Addr) (zs : List Int) (cap : Nat) (w : World) (hr : Rd w la (u8s zs)) (hb : IsBytes zs) (hm : zs.length ≤ 1048576) :
    Calls Try.prog 26 #[.slice la zs.length cap] w fun e w' => ∃ a c b d ps ws, e = .returned (.agg #[.slice a (List.length ps) c, .slice b (List.length ws) d]) ∧ DChip w' w.heap.size a c b d ps ws ∧ Below w.heap.size w w' := by
  obtain ⟨A, hA⟩ : ∃ A, A = w.alloc (Obj.cells #[.slice none 0 0, .slice none 0 0] 27) := ⟨_, rfl⟩
  have hbA : Below w.heap.size w A := by rw [hA]; exact (Below.refl _ _).alloc (Nat.le_refl _) _
  have hsA : A.heap.size = w.heap.size + 1 := by rw [hA]; simp
  have hz : Z2 A w.heap.size := by rw [hA]; exact z2_new _ _
  have HNW := hide (new_any la zs cap A (hr.below hbA) hb hm)
  have HSA := hide hsA
  have HBA := hide hbA
  have HZ := hide hz
  clear hr hb hsA hbA hz
  go_enter Try.func26, Try.ntmps26
  go_wp2_with fail
  rw [← hA]
  clear hA
  refine HNW.out.mono ?_
  rintro e w1 ⟨rfl, hc, hb1, hs1⟩
  have HDR := hide (draw2_any A.heap.size w1 hc hs1)
  have HZ1 := hide (HZ.out.below hb1)
  have HB1 := hide (HBA.out.trans (hb1.mono HBA.out.size))
  have HS1 := hide hb1.size
  clear HNW hc hb1 hs1
  go_wp2_with fail
  refine HDR.out.mono ?_
  rintro e w2 ⟨a, c, b, d, ps, ws, rfl, hd, -, hg2⟩
  have hlo : w.heap.size + 1 ≤ w1.heap.size := by have := HS1.out; have := HSA.out; omega
  have hb2 : Below w.heap.size w w2 := HB1.out.grown hg2 (by omega) (fun k hk => by cases hk; have := HSA.out; omega)
  obtain ⟨⟨z0, z1⟩, zf⟩ := HZ1.out.grown hg2 (show w.heap.size ≠ A.heap.size by have := HSA.out; omega)
  have zf0 := zf 0
  have zf1 := zf 1
  have hbS : Below w.heap.size w2 ((w2.setCell ⟨w.heap.size, 0, none⟩ (.slice a ps.length c)).setCell ⟨w.heap.size, 1, none⟩ (.slice b ws.length d)) := ((Below.refl _ _).setCell (p := ⟨w.heap.size, 0, none⟩) (Nat.le_refl _) _).setCell (p := ⟨w.heap.size, 1, none⟩) (Nat.le_refl _) _
  have HFI := hide (And.intro (((hd.lower hlo).set (Nat.lt_succ_self _) 0 (.slice a ps.length c)).set (Nat.lt_succ_self _) 1 (.slice b ws.length d)) (hb2.trans (hbS.mono (Nat.le_refl _))))
  clear hd hg2 hb2 zf HDR HZ1 hbS
  go_wp2_with fail
  exact bodyPost_ret (v := .agg #[.slice a ps.length c, .slice b ws.length d]) (by simp [results, Try.results26, go_sem, z0, z1]) rfl ⟨_, _, _, _, _, _, rfl, HFI.out.1.lower (Nat.le_succ _), HFI.out.2⟩

set_option maxHeartbeats 1600000 in
theorem DrawNextPage_any (la : Option Addr) (zs : List Int) (cap : Nat) (w : World) (hr : Rd w la (u8s zs)) (hb : IsBytes zs) (hm : zs.length ≤ 1048576) :
    Calls Try.prog 34 #[.slice la zs.length cap] w fun e w' => ∃ a c b d ps ws, e = .returned (.agg #[.slice a (List.length ps) c, .slice b (List.length ws) d]) ∧ DChip w' w.heap.size a c b d ps ws ∧ Below w.heap.size w w' := by
  obtain ⟨A, hA⟩ : ∃ A, A = w.alloc (Obj.cells #[.slice none 0 0, .slice none 0 0] 27) := ⟨_, rfl⟩
  have hbA : Below w.heap.size w A := by rw [hA]; exact (Below.refl _ _).alloc (Nat.le_refl _) _
  have hsA : A.heap.size = w.heap.size + 1 := by rw [hA]; simp
  have hz : Z2 A w.heap.size := by rw [hA]; exact z2_new _ _
  have HNW := hide (new_any la zs cap A (hr.below hbA) hb hm)
  have HSA := hide hsA
  have HBA := hide hbA
  have HZ := hide hz
  clear hr hb hsA hbA hz
  go_enter Try.func34, Try.ntmps34
  go_wp2_with fail
  rw [← hA]
  clear hA
  refine HNW.out.mono ?_
  rintro e w1 ⟨rfl, hc, hb1, hs1⟩
  have HDR := hide (draw2_any A.heap.size w1 hc hs1)
  have HZ1 := hide (HZ.out.below hb1)
  have HB1 := hide (HBA.out.trans (hb1.mono HBA.out.size))
  have HS1 := hide hb1.size
  clear HNW hc hb1 hs1
  go_wp2_with fail
  refine HDR.out.mono ?_
  rintro e w2 ⟨a, c, b, d, ps, ws, rfl, hd, -, hg2⟩
  have hlo : w.heap.size + 1 ≤ w1.heap.size := by have := HS1.out; have := HSA.out; omega
  have hb2 : Below w.heap.size w w2 := HB1.out.grown hg2 (by omega) (fun k hk => by cases hk; have := HSA.out; omega)
  obtain ⟨⟨z0, z1⟩, zf⟩ := HZ1.out.grown hg2 (show w.heap.size ≠ A.heap.size by have := HSA.out; omega)
  have zf0 := zf 0
  have zf1 := zf 1
  have hbS : Below w.heap.size w2 ((w2.setCell ⟨w.heap.size, 0, none⟩ (.slice a ps.length c)).setCell ⟨w.heap.size, 1, none⟩ (.slice b ws.length d)) := ((Below.refl _ _).setCell (p := ⟨w.heap.size, 0, none⟩) (Nat.le_refl _) _).setCell (p := ⟨w.heap.size, 1, none⟩) (Nat.le_refl _) _
  have HFI := hide (And.intro (((hd.lower hlo).set (Nat.lt_succ_self _) 0 (.slice a ps.length c)).set (Nat.lt_succ_self _) 1 (.slice b ws.length d)) (hb2.trans (hbS.mono (Nat.le_refl _))))
  clear hd hg2 hb2 zf HDR HZ1 hbS
  go_wp2_with fail
  exact bodyPost_ret (v := .agg #[.slice a ps.length c, .slice b ws.length d]) (by simp [results, Try.results34, go_sem, z0, z1]) rfl ⟨_, _, _, _, _, _, rfl, HFI.out.1.lower (Nat.le_succ _), HFI.out.2⟩

set_option maxHeartbeats 1600000 in
theorem DrawFreeBlocks_any (la : Option Addr) (zs : List Int) (cap : Nat) (w : World) (hr : Rd w la (u8s zs)) (hb : IsBytes zs) (hm : zs.length ≤ 1048576) :
    Calls Try.prog 36 #[.slice la zs.length cap] w fun e w' => ∃ a c b d ps ws, e = .returned (.agg #[.slice a (List.length ps) c, .slice b (List.length ws) d]) ∧ DChip w' w.heap.size a c b d ps ws ∧ Below w.heap.size w w' := by
  obtain ⟨A, hA⟩ : ∃ A, A = w.alloc (Obj.cells #[.slice none 0 0, .slice none 0 0] 27) := ⟨_, rfl⟩
  have hbA : Below w.heap.size w A := by rw [hA]; exact (Below.refl _ _).alloc (Nat.le_refl _) _
  have hsA : A.heap.size = w.heap.size + 1 := by rw [hA]; simp
  have hz : Z2 A w.heap.size := by rw [hA]; exact z2_new _ _
  have HNW := hide (new_any la zs cap A (hr.below hbA) hb hm)
  have HSA := hide hsA
  have HBA := hide hbA
  have HZ := hide hz
  clear hr hb hsA hbA hz
  go_enter Try.func36, Try.ntmps36
  go_wp2_with fail
  rw [← hA]
  clear hA
  refine HNW.out.mono ?_
  rintro e w1 ⟨rfl, hc, hb1, hs1⟩
  have HDR := hide (draw2_any A.heap.size w1 hc hs1)
  have HZ1 := hide (HZ.out.below hb1)
  have HB1 := hide (HBA.out.trans (hb1.mono HBA.out.size))
  have HS1 := hide hb1.size
  clear HNW hc hb1 hs1
  go_wp2_with fail
  refine HDR.out.mono ?_
  rintro e w2 ⟨a, c, b, d, ps, ws, rfl, hd, -, hg2⟩
  have hlo : w.heap.size + 1 ≤ w1.heap.size := by have := HS1.out; have := HSA.out; omega
  have hb2 : Below w.heap.size w w2 := HB1.out.grown hg2 (by omega) (fun k hk => by cases hk; have := HSA.out; omega)
  obtain ⟨⟨z0, z1⟩, zf⟩ := HZ1.out.grown hg2 (show w.heap.size ≠ A.heap.size by have := HSA.out; omega)
  have zf0 := zf 0
  have zf1 := zf 1
  have hbS : Below w.heap.size w2 ((w2.setCell ⟨w.heap.size, 0, none⟩ (.slice a ps.length c)).setCell ⟨w.heap.size, 1, none⟩ (.slice b ws.length d)) := ((Below.refl _ _).setCell (p := ⟨w.heap.size, 0, none⟩) (Nat.le_refl _) _).setCell (p := ⟨w.heap.size, 1, none⟩) (Nat.le_refl _) _
  have HFI := hide (And.intro (((hd.lower hlo).set (Nat.lt_succ_self _) 0 (.slice a ps.length c)).set (Nat.lt_succ_self _) 1 (.slice b ws.length d)) (hb2.trans (hbS.mono (Nat.le_refl _))))
  clear hd hg2 hb2 zf HDR HZ1 hbS
  go_wp2_with fail
  exact bodyPost_ret (v := .agg #[.slice a ps.length c, .slice b ws.length d]) (by simp [results, Try.results36, go_sem, z0, z1]) rfl ⟨_, _, _, _, _, _, rfl, HFI.out.1.lower (Nat.le_succ _), HFI.out.2⟩

set_option maxRecDepth 100000 in
set_option maxHeartbeats 3200000 in
theorem DrawFtlOk_any (la : Option Addr) (zs : List Int) (cap : Nat) (w : World) (hr : Rd w la (u8s zs)) (hb : IsBytes zs) (hm : zs.length ≤ 1048576) :
    Calls Try.prog 30 #[.slice la zs.length cap] w fun e w' => ∃ a c b d e0 f ps ws ms q, e = .returned (.agg #[.slice a (List.length ps) c, .slice b (List.length ws) d, .slice e0 (List.length ms) f, .int .i64 q]) ∧ DFtl w' w.heap.size a c b d e0 f ps ws ms ∧ Below w.heap.size w w' := by
  obtain ⟨A, hA⟩ : ∃ A, A = w.alloc (Obj.cells #[.slice none 0 0, .slice none 0 0, .slice none 0 0, .int .i64 0] 47) := ⟨_, rfl⟩
  have hbA : Below w.heap.size w A := by rw [hA]; exact (Below.refl _ _).alloc (Nat.le_refl _) _
  have hsA : A.heap.size = w.heap.size + 1 := by rw [hA]; simp
  have hz : C4 A w.heap.size (.slice none 0 0) (.slice none 0 0) (.slice none 0 0) (.int .i64 0) := by rw [hA]; exact c4_new _ _ _ _ _ _
  have HNW := hide (new_any la zs cap A (hr.below hbA) hb hm)
  have HSA := hide hsA
  have HBA := hide hbA
  have HZ := hide hz
  clear hr hb hsA hbA hz
  go_enter Try.func30, Try.ntmps30
  go_wp2_with fail
  rw [← hA]
  clear hA
  refine HNW.out.mono ?_
  rintro e w1 ⟨rfl, hc, hb1, hs1⟩
  have HDR := hide (draw4_any A.heap.size w1 hc hs1)
  have HZ1 := hide (HZ.out.below hb1)
  have HB1 := hide (HBA.out.trans (hb1.mono HBA.out.size))
  have HS1 := hide hb1.size
  have HP1 := hide hs1
  clear HNW hc hb1 hs1
  go_wp2_with fail
  refine HDR.out.mono ?_
  rintro e w2 ⟨a, c, b, d, e0, f, ps, ws, ms, q, rfl, hd, -, hg2⟩
  have hlo : w.heap.size + 1 ≤ w1.heap.size := by have := HS1.out; have := HSA.out; omega
  have hb2 : Below w.heap.size w w2 := HB1.out.grown hg2 (by omega) (fun k hk => by cases hk; have := HSA.out; omega)
  obtain ⟨⟨z0, z1, z2, z3⟩, zf⟩ := HZ1.out.grown hg2 (show w.heap.size ≠ A.heap.size by have := HSA.out; omega)
  have zf0 := zf 0
  have zf1 := zf 1
  have zf2 := zf 2
  have zf3 := zf 3
  have hbS : Below w.heap.size w2 ((((w2.setCell ⟨w.heap.size, 0, none⟩ (.slice a ps.length c)).setCell ⟨w.heap.size, 1, none⟩ (.slice b ws.length d)).setCell ⟨w.heap.size, 2, none⟩ (.slice e0 ms.length f)).setCell ⟨w.heap.size, 3, none⟩ (.int .i64 q)) := (((((Below.refl _ _).setCell (p := ⟨w.heap.size, 0, none⟩) (Nat.le_refl _) _).setCell (p := ⟨w.heap.size, 1, none⟩) (Nat.le_refl _) _).setCell (p := ⟨w.heap.size, 2, none⟩) (Nat.le_refl _) _).setCell (p := ⟨w.heap.size, 3, none⟩) (Nat.le_refl _) _)
  have HFI := hide (And.intro (((((hd.lower hlo).set (Nat.lt_succ_self _) 0 (.slice a ps.length c)).set (Nat.lt_succ_self _) 1 (.slice b ws.length d)).set (Nat.lt_succ_self _) 2 (.slice e0 ms.length f)).set (Nat.lt_succ_self _) 3 (.int .i64 q)) (hb2.trans (hbS.mono (Nat.le_refl _))))
  clear hd hg2 hb2 zf HDR HZ1 hbS
  go_wp2_with fail
  exact bodyPost_ret (v := .agg #[.slice a ps.length c, .slice b ws.length d, .slice e0 ms.length f, .int .i64 q]) (by simp [results, Try.results30, go_sem, z0, z1, z2, z3]) rfl ⟨_, _, _, _, _, _, _, _, _, _, rfl, HFI.out.1.lower (Nat.le_succ _), HFI.out.2⟩

set_option maxRecDepth 100000 in
set_option maxHeartbeats 3200000 in
theorem DrawLives_any (la : Option Addr) (zs : List Int) (cap : Nat) (w : World) (hr : Rd w la (u8s zs)) (hb : IsBytes zs) (hm : zs.length ≤ 1048576) :
    Calls Try.prog 40 #[.slice la zs.length cap] w fun e w' => ∃ a c b d e0 f ps ws ms q s, e = .returned (.tuple #[.agg #[.slice a (List.length ps) c, .slice b (List.length ws) d, .slice e0 (List.length ms) f, .int .i64 q], .int .i64 s]) ∧ (-1 ≤ s ∧ s ≤ 10) ∧ DFtl w' w.heap.size a c b d e0 f ps ws ms ∧ Below w.heap.size w w' := by
  obtain ⟨A, hA⟩ : ∃ A, A = w.alloc (Obj.cells #[.slice none 0 0, .slice none 0 0, .slice none 0 0, .int .i64 0] 47) := ⟨_, rfl⟩
  have hbA : Below w.heap.size w A := by rw [hA]; exact (Below.refl _ _).alloc (Nat.le_refl _) _
  have hsA : A.heap.size = w.heap.size + 1 := by rw [hA]; simp
  have hz : C4 A w.heap.size (.slice none 0 0) (.slice none 0 0) (.slice none 0 0) (.int .i64 0) := by rw [hA]; exact c4_new _ _ _ _ _ _
  have HNW := hide (new_any la zs cap A (hr.below hbA) hb hm)
  have HSA := hide hsA
  have HBA := hide hbA
  have HZ := hide hz
  clear hr hb hsA hbA hz
  go_enter Try.func40, Try.ntmps40
  go_wp2_with fail
  rw [← hA]
  clear hA
  refine HNW.out.mono ?_
  rintro e w1 ⟨rfl, hc, hb1, hs1⟩
  have HDR := hide (draw4_any A.heap.size w1 hc hs1)
  have HZ1 := hide (HZ.out.below hb1)
  have HB1 := hide (HBA.out.trans (hb1.mono HBA.out.size))
  have HS1 := hide hb1.size
  have HP1 := hide hs1
  clear HNW hc hb1 hs1
  go_wp2_with fail
  refine HDR.out.mono ?_
  rintro e w2 ⟨a, c, b, d, e0, f, ps, ws, ms, q, rfl, hd, hc2, hg2⟩
  obtain ⟨V, hV⟩ : ∃ V, V = w2.alloc (Obj.cells #[.slice a ps.length c, .slice b ws.length d, .slice e0 ms.length f, .int .i64 q] 47) := ⟨_, rfl⟩
  have hbV : Below w2.heap.size w2 V := by rw [hV]; exact (Below.refl _ _).alloc (Nat.le_refl _) _
  have hx : C4 V w2.heap.size (.slice a ps.length c) (.slice b ws.length d) (.slice e0 ms.length f) (.int .i64 q) := by rw [hV]; exact c4_new _ _ _ _ _ _
  have hlo : w.heap.size + 1 ≤ w1.heap.size := by have := HS1.out; have := HSA.out; omega
  have hpA : A.heap.size < w2.heap.size := Nat.lt_of_lt_of_le HP1.out hg2.size
  have hb2 : Below w.heap.size w w2 := HB1.out.grown hg2 (by omega) (fun k hk => by cases hk; have := HSA.out; omega)
  have HBV := hide (hb2.trans (hbV.mono hb2.size))
  have HDV := hide (hd.below hbV)
  have HCV := hide (hc2.kept (hbV.mono (show A.heap.size + 1 ≤ w2.heap.size from hpA)))
  have HZV := hide ((HZ1.out.grown hg2 (show w.heap.size ≠ A.heap.size by have := HSA.out; omega)).below hbV)
  have hne : w2.heap.size ≠ A.heap.size := by omega
  have HKX : Hid (∀ u, V.grownBy u (some A.heap.size) → u.cell? ⟨w2.heap.size, 0, none⟩ = some (.slice a ps.length c) ∧ u.cell? ⟨w2.heap.size, 1, none⟩ = some (.slice b ws.length d) ∧ u.cell? ⟨w2.heap.size, 2, none⟩ = some (.slice e0 ms.length f) ∧ u.cell? ⟨w2.heap.size, 3, none⟩ = some (.int .i64 q)) := fun u hu => (hx.grown hu hne).1
  obtain ⟨x0, x1, x2, x3⟩ := hx.1
  have hww : ¬ w2.heap.size = w.heap.size := by have := HSA.out; omega
  have hww' : ¬ w.heap.size = w2.heap.size := fun e => hww e.symm
  have m1 : w.heap.size ≠ w2.heap.size := hww'
  clear hd hc2 hg2 hb2 hbV HDR HZ1 hx
  go_wp2_with fail
  rw [← hV]
  clear hV
  obtain ⟨⟨z0, z1, z2, z3⟩, zf⟩ := id HZV.out
  go_region_held (fun u => u.cell? ⟨w2.heap.size, 0, none⟩ = some (.slice a ps.length c) ∧ u.cell? ⟨w2.heap.size, 1, none⟩ = some (.slice b ws.length d) ∧ u.cell? ⟨w2.heap.size, 2, none⟩ = some (.slice e0 ms.length f) ∧ u.cell? ⟨w2.heap.size, 3, none⟩ = some (.int .i64 q)) (first | assumption | go_keep | exact ⟨cell_other (cell_other (cell_other (cell_other hS4.1 m1) m1) m1) m1, cell_other (cell_other (cell_other (cell_other hS4.2.1 m1) m1) m1) m1, cell_other (cell_other (cell_other (cell_other hS4.2.2.1 m1) m1) m1) m1, cell_other (cell_other (cell_other (cell_other hS4.2.2.2 m1) m1) m1) m1⟩)
    ((go_at_call 64; refine (below_any A.heap.size 12 V.drew (HCV.out.drewN 1) (by omega)).mono ?_; rintro e w4 ⟨y, rfl, hy0, hy1, -, hc4, hg4⟩; have hy1 := hy1 (by omega); have HG4 : Hid (V.grownBy w4 (some A.heap.size)) := ⟨hg4.os, hg4.tape, hg4.output, hg4.size, hg4.block⟩; have hS4 := HKX.out w4 HG4.out; obtain ⟨⟨zz0, zz1, zz2, zz3⟩, zzf⟩ := HZV.out.grown HG4.out (show w.heap.size ≠ A.heap.size by have := HSA.out; omega); have zf0 := zzf 0; have zf1 := zzf 1; have zf2 := zzf 2; have zf3 := zzf 3; clear hc4 hg4 zzf))
  all_goals
    have hb4 : Below w.heap.size w w4 := HBV.out.grown HG4.out HBV.out.size (fun k hk => by cases hk; have := HSA.out; omega)
    have hbS : Below w.heap.size w4 ((((w4.setCell ⟨w.heap.size, 0, none⟩ (.slice a ps.length c)).setCell ⟨w.heap.size, 1, none⟩ (.slice b ws.length d)).setCell ⟨w.heap.size, 2, none⟩ (.slice e0 ms.length f)).setCell ⟨w.heap.size, 3, none⟩ (.int .i64 q)) := (((((Below.refl _ _).setCell (p := ⟨w.heap.size, 0, none⟩) (Nat.le_refl _) _).setCell (p := ⟨w.heap.size, 1, none⟩) (Nat.le_refl _) _).setCell (p := ⟨w.heap.size, 2, none⟩) (Nat.le_refl _) _).setCell (p := ⟨w.heap.size, 3, none⟩) (Nat.le_refl _) _)
    have HFI := hide (And.intro ((((((HDV.out.grown HG4.out HP1.out).lower hlo).set (Nat.lt_succ_self _) 0 (.slice a ps.length c)).set (Nat.lt_succ_self _) 1 (.slice b ws.length d)).set (Nat.lt_succ_self _) 2 (.slice e0 ms.length f)).set (Nat.lt_succ_self _) 3 (.int .i64 q)) (hb4.trans (hbS.mono (Nat.le_refl _))))
    have hyw : IntKind.i64.wrap (y - 1) = y - 1 := IntWalk.i64_in (y - 1) ⟨by omega, by omega⟩
    clear hb4 hbS
    go_wp2
    exact bodyPost_ret (v := .tuple #[.agg #[.slice a ps.length c, .slice b ws.length d, .slice e0 ms.length f, .int .i64 q], .int .i64 (y - 1)]) (by simp [results, Try.results40, go_sem, zz0, zz1, zz2, zz3, hyw]) rfl ⟨_, _, _, _, _, _, _, _, _, _, _, rfl, ⟨by omega, by omega⟩, HFI.out.1.lower (Nat.le_succ _), HFI.out.2⟩

set_option maxRecDepth 100000 in
set_option maxHeartbeats 3200000 in
theorem DrawSector_any (la : Option Addr) (zs : List Int) (cap : Nat) (w : World) (hr : Rd w la (u8s zs)) (hb : IsBytes zs) (hm : zs.length ≤ 1048576) :
    Calls Try.prog 44 #[.slice la zs.length cap] w fun e w' => ∃ a c b d e0 f ps ws ms q s, e = .returned (.tuple #[.agg #[.slice a (List.length ps) c, .slice b (List.length ws) d, .slice e0 (List.length ms) f, .int .i64 q], .int .i64 s]) ∧ (-1 ≤ s ∧ s ≤ 26) ∧ DFtl w' w.heap.size a c b d e0 f ps ws ms ∧ Below w.heap.size w w' := by
  obtain ⟨A, hA⟩ : ∃ A, A = w.alloc (Obj.cells #[.slice none 0 0, .slice none 0 0, .slice none 0 0, .int .i64 0] 47) := ⟨_, rfl⟩
  have hbA : Below w.heap.size w A := by rw [hA]; exact (Below.refl _ _).alloc (Nat.le_refl _) _
  have hsA : A.heap.size = w.heap.size + 1 := by rw [hA]; simp
  have hz : C4 A w.heap.size (.slice none 0 0) (.slice none 0 0) (.slice none 0 0) (.int .i64 0) := by rw [hA]; exact c4_new _ _ _ _ _ _
  have HNW := hide (new_any la zs cap A (hr.below hbA) hb hm)
  have HSA := hide hsA
  have HBA := hide hbA
  have HZ := hide hz
  clear hr hb hsA hbA hz
  go_enter Try.func44, Try.ntmps44
  go_wp2_with fail
  rw [← hA]
  clear hA
  refine HNW.out.mono ?_
  rintro e w1 ⟨rfl, hc, hb1, hs1⟩
  have HDR := hide (draw4_any A.heap.size w1 hc hs1)
  have HZ1 := hide (HZ.out.below hb1)
  have HB1 := hide (HBA.out.trans (hb1.mono HBA.out.size))
  have HS1 := hide hb1.size
  have HP1 := hide hs1
  clear HNW hc hb1 hs1
  go_wp2_with fail
  refine HDR.out.mono ?_
  rintro e w2 ⟨a, c, b, d, e0, f, ps, ws, ms, q, rfl, hd, hc2, hg2⟩
  obtain ⟨V, hV⟩ : ∃ V, V = w2.alloc (Obj.cells #[.slice a ps.length c, .slice b ws.length d, .slice e0 ms.length f, .int .i64 q] 47) := ⟨_, rfl⟩
  have hbV : Below w2.heap.size w2 V := by rw [hV]; exact (Below.refl _ _).alloc (Nat.le_refl _) _
  have hx : C4 V w2.heap.size (.slice a ps.length c) (.slice b ws.length d) (.slice e0 ms.length f) (.int .i64 q) := by rw [hV]; exact c4_new _ _ _ _ _ _
  have hlo : w.heap.size + 1 ≤ w1.heap.size := by have := HS1.out; have := HSA.out; omega
  have hpA : A.heap.size < w2.heap.size := Nat.lt_of_lt_of_le HP1.out hg2.size
  have hb2 : Below w.heap.size w w2 := HB1.out.grown hg2 (by omega) (fun k hk => by cases hk; have := HSA.out; omega)
  have HBV := hide (hb2.trans (hbV.mono hb2.size))
  have HDV := hide (hd.below hbV)
  have HCV := hide (hc2.kept (hbV.mono (show A.heap.size + 1 ≤ w2.heap.size from hpA)))
  have HZV := hide ((HZ1.out.grown hg2 (show w.heap.size ≠ A.heap.size by have := HSA.out; omega)).below hbV)
  have hne : w2.heap.size ≠ A.heap.size := by omega
  have HKX : Hid (∀ u, V.grownBy u (some A.heap.size) → u.cell? ⟨w2.heap.size, 0, none⟩ = some (.slice a ps.length c) ∧ u.cell? ⟨w2.heap.size, 1, none⟩ = some (.slice b ws.length d) ∧ u.cell? ⟨w2.heap.size, 2, none⟩ = some (.slice e0 ms.length f) ∧ u.cell? ⟨w2.heap.size, 3, none⟩ = some (.int .i64 q)) := fun u hu => (hx.grown hu hne).1
  obtain ⟨x0, x1, x2, x3⟩ := hx.1
  have hww : ¬ w2.heap.size = w.heap.size := by have := HSA.out; omega
  have hww' : ¬ w.heap.size = w2.heap.size := fun e => hww e.symm
  have m1 : w.heap.size ≠ w2.heap.size := hww'
  clear hd hc2 hg2 hb2 hbV HDR HZ1 hx
  go_wp2_with fail
  rw [← hV]
  clear hV
  obtain ⟨⟨z0, z1, z2, z3⟩, zf⟩ := id HZV.out
  go_region_held (fun u => u.cell? ⟨w2.heap.size, 0, none⟩ = some (.slice a ps.length c) ∧ u.cell? ⟨w2.heap.size, 1, none⟩ = some (.slice b ws.length d) ∧ u.cell? ⟨w2.heap.size, 2, none⟩ = some (.slice e0 ms.length f) ∧ u.cell? ⟨w2.heap.size, 3, none⟩ = some (.int .i64 q)) (first | assumption | go_keep | exact ⟨cell_other (cell_other (cell_other (cell_other hS4.1 m1) m1) m1) m1, cell_other (cell_other (cell_other (cell_other hS4.2.1 m1) m1) m1) m1, cell_other (cell_other (cell_other (cell_other hS4.2.2.1 m1) m1) m1) m1, cell_other (cell_other (cell_other (cell_other hS4.2.2.2 m1) m1) m1) m1⟩)
    ((go_at_call 64; refine (below_any A.heap.size 28 V.drew (HCV.out.drewN 1) (by omega)).mono ?_; rintro e w4 ⟨y, rfl, hy0, hy1, -, hc4, hg4⟩; have hy1 := hy1 (by omega); have HG4 : Hid (V.grownBy w4 (some A.heap.size)) := ⟨hg4.os, hg4.tape, hg4.output, hg4.size, hg4.block⟩; have hS4 := HKX.out w4 HG4.out; obtain ⟨⟨zz0, zz1, zz2, zz3⟩, zzf⟩ := HZV.out.grown HG4.out (show w.heap.size ≠ A.heap.size by have := HSA.out; omega); have zf0 := zzf 0; have zf1 := zzf 1; have zf2 := zzf 2; have zf3 := zzf 3; clear hc4 hg4 zzf))
  all_goals
    have hb4 : Below w.heap.size w w4 := HBV.out.grown HG4.out HBV.out.size (fun k hk => by cases hk; have := HSA.out; omega)
    have hbS : Below w.heap.size w4 ((((w4.setCell ⟨w.heap.size, 0, none⟩ (.slice a ps.length c)).setCell ⟨w.heap.size, 1, none⟩ (.slice b ws.length d)).setCell ⟨w.heap.size, 2, none⟩ (.slice e0 ms.length f)).setCell ⟨w.heap.size, 3, none⟩ (.int .i64 q)) := (((((Below.refl _ _).setCell (p := ⟨w.heap.size, 0, none⟩) (Nat.le_refl _) _).setCell (p := ⟨w.heap.size, 1, none⟩) (Nat.le_refl _) _).setCell (p := ⟨w.heap.size, 2, none⟩) (Nat.le_refl _) _).setCell (p := ⟨w.heap.size, 3, none⟩) (Nat.le_refl _) _)
    have HFI := hide (And.intro ((((((HDV.out.grown HG4.out HP1.out).lower hlo).set (Nat.lt_succ_self _) 0 (.slice a ps.length c)).set (Nat.lt_succ_self _) 1 (.slice b ws.length d)).set (Nat.lt_succ_self _) 2 (.slice e0 ms.length f)).set (Nat.lt_succ_self _) 3 (.int .i64 q)) (hb4.trans (hbS.mono (Nat.le_refl _))))
    have hyw : IntKind.i64.wrap (y - 1) = y - 1 := IntWalk.i64_in (y - 1) ⟨by omega, by omega⟩
    clear hb4 hbS
    go_wp2
    exact bodyPost_ret (v := .tuple #[.agg #[.slice a ps.length c, .slice b ws.length d, .slice e0 ms.length f, .int .i64 q], .int .i64 (y - 1)]) (by simp [results, Try.results44, go_sem, zz0, zz1, zz2, zz3, hyw]) rfl ⟨_, _, _, _, _, _, _, _, _, _, _, rfl, ⟨by omega, by omega⟩, HFI.out.1.lower (Nat.le_succ _), HFI.out.2⟩

end Go.Proofs.Ytelbannfbglgcaa
