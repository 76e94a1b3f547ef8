/-
  The walk of the draw of a right chip with sectors (l5DrawRight).
  My own small laws for rows of structs, over no program's function: a variable's cells ('CV'), rows that are made, rows that came in as arguments.
  Contracts of the draws of a chip (l2DrawRight, l2Draw): some chip, that can be read; besides it the cursor alone turns.
-/
import Derived.Test.YtelbannfbglgcaaJMounted27
import Derived.Test.YtelbannfbglgcaaJMounted12
import Derived.Test.YtelbannfbglgcaaJMounted24
import Derived.Deep.Slices
import Derived.Laws.OwnMore
namespace Go.Proofs.Ytelbannfbglgcaa
open Go.RowKit

theorem new_right : chipOkP ps0 ws0 := by
  refine ⟨ps0_len, by simp [ws0], fun s hs => ?_, fun x hx => ?_⟩
  · rw [(List.mem_replicate.1 hs).2]; decide
  · rw [(List.mem_replicate.1 hx).2]; decide
/-- What is planned, in variables of its own. -/
def PSt (u wx : World) (p G : Nat) (ok : Bool) (a1 : Option Addr) (k1 : Nat) (cs : List (Int × Int × ByteArray)) (a : Option Addr) (c : Nat) (b : Option Addr) (d : Nat) (e : Option Addr) (f : Nat) (ps : List ByteArray) (ws ms : List Int) (q : Int) : Prop :=
  C4 wx G (.slice a ps.length c) (.slice b ws.length d) (.slice e ms.length f) (.int .i64 q) ∧ (∃ lo, u.heap.size ≤ lo ∧ wx.ownsRow lo 68 3 (.slice a1 cs.length k1) cs.length (vsAct cs) ∧ FtlOwn wx lo (.agg #[.slice a ps.length c, .slice b ws.length d, .slice e ms.length f, .int .i64 q]) ps ws ms q) ∧
    ftlOkB ps ws ms q = true ∧ (ok = true → Short cs ∧ cs ≠ [] ∧ cs.length ≤ 2000) ∧ Cur wx p ∧ u.grownBy wx (some p) ∧ u.heap.size ≤ G
theorem pst_late {u U w4 : World} {p : Nat} {ok : Bool} {a1 : Option Addr} {k1 : Nat} {cs : List (Int × Int × ByteArray)} {a : Option Addr} {c : Nat} {b : Option Addr} {d : Nat} {e : Option Addr} {f : Nat} {ps : List ByteArray} {ws ms : List Int} {q : Int} {t : TypeId} (hpd : PlanD U w4 ok a1 k1 cs a c b d e f ps ws ms q) (hU : u.heap.size ≤ U.heap.size) (hp : p < u.heap.size) (hc : Cur w4 p) (hg : u.grownBy w4 (some p)) :
    PSt u (w4.alloc (Obj.cells #[.slice a ps.length c, .slice b ws.length d, .slice e ms.length f, .int .i64 q] t)) p w4.heap.size ok a1 k1 cs a c b d e f ps ws ms q := by
  have hb : Below w4.heap.size w4 (w4.alloc (Obj.cells #[.slice a ps.length c, .slice b ws.length d, .slice e ms.length f, .int .i64 q] t)) := (Below.refl _ _).alloc (Nat.le_refl _) _
  have hs := hg.size
  exact ⟨c4_new _ _ _ _ _ _, ⟨_, hU, owns_below hpd.1 hb, hpd.2.1.below hb⟩, hpd.2.2.1, hpd.2.2.2, hc.kept (hb.mono (by omega)), grown_then hg hb hs, hs⟩
theorem pst_early {u U w4 : World} {p G : Nat} {ok : Bool} {a1 : Option Addr} {k1 : Nat} {cs : List (Int × Int × ByteArray)} {a : Option Addr} {c : Nat} {b : Option Addr} {d : Nat} {e : Option Addr} {f : Nat} {ps : List ByteArray} {ws ms : List Int} {q : Int} {z0 z1 z2 z3 : Value} (hz : C4 w4 G z0 z1 z2 z3) (hG : u.heap.size ≤ G ∧ G < U.heap.size) (hpd : PlanD U w4 ok a1 k1 cs a c b d e f ps ws ms q) (hp : p < u.heap.size) (hc : Cur w4 p) (hg : u.grownBy w4 (some p)) :
    PSt u ((((w4.setCell ⟨G, 0, none⟩ (.slice a ps.length c)).setCell ⟨G, 1, none⟩ (.slice b ws.length d)).setCell ⟨G, 2, none⟩ (.slice e ms.length f)).setCell ⟨G, 3, none⟩ (.int .i64 q)) p G ok a1 k1 cs a c b d e f ps ws ms q := by
  have hb : Below G w4 ((((w4.setCell ⟨G, 0, none⟩ (.slice a ps.length c)).setCell ⟨G, 1, none⟩ (.slice b ws.length d)).setCell ⟨G, 2, none⟩ (.slice e ms.length f)).setCell ⟨G, 3, none⟩ (.int .i64 q)) :=
    ((((Below.refl _ _).setCell (p := ⟨G, 0, none⟩) (Nat.le_refl _) _).setCell (p := ⟨G, 1, none⟩) (Nat.le_refl _) _).setCell (p := ⟨G, 2, none⟩) (Nat.le_refl _) _).setCell (p := ⟨G, 3, none⟩) (Nat.le_refl _) _
  refine ⟨(((hz.set0 _).set1 _).set2 _).set3 _, ⟨U.heap.size, by omega, ?_, ftlOwn_set (ftlOwn_set (ftlOwn_set (ftlOwn_set hpd.2.1 hG.2 0 _) hG.2 1 _) hG.2 2 _) hG.2 3 _⟩, hpd.2.2.1, hpd.2.2.2, hc.kept (hb.mono (by omega)), grown_then hg hb hG.1, hG.1⟩
  exact ownsRow_setCell_below (ownsRow_setCell_below (ownsRow_setCell_below (ownsRow_setCell_below hpd.1 (a := ⟨G, 0, none⟩) hG.2 _) (a := ⟨G, 1, none⟩) hG.2 _) (a := ⟨G, 2, none⟩) hG.2 _) (a := ⟨G, 3, none⟩) hG.2 _
theorem acts_form {w : World} {lo n k1 : Nat} {a1 : Option Addr} {xs : List Value} (h : w.ownsRow lo 68 3 (.slice a1 n k1) n xs) (hn : 0 < n) : ∃ ad, a1 = some ad ∧ n ≤ k1 := by
  rcases h with ⟨_, ⟨h, rfl⟩ | ⟨g, cap, cur, h, _, _, h', _⟩⟩
  · omega
  · simp at h
    obtain ⟨rfl, rfl⟩ := h
    exact ⟨_, rfl, by omega⟩

theorem fRows {w : World} {base n m l c d f : Nat} {a b e : Option Addr} {z q : Int} {ps : List ByteArray} {ws ms : List Int} (h : FtlOwn w base (.agg #[.slice a n c, .slice b m d, .slice e l f, .int .i64 z]) ps ws ms q) :
    w.ownsRow base 9 1 (.slice a n c) ps.length (vsString ps) ∧ w.ownsRow base 3 1 (.slice b m d) ws.length (vsInt ws) ∧ w.ownsRow base 3 1 (.slice e l f) ms.length (vsInt ms) := by
  obtain ⟨v1, v2, v3, hv, o1, o2, o3, hh⟩ := h
  injection hv with hv
  simp at hv
  obtain ⟨rfl, rfl, rfl, -⟩ := hv
  exact ⟨o1, o2, o3⟩
theorem rd_own3 {w : World} {base : Nat} {e : TypeId} {a : Option Addr} {n c : Nat} {xs : List Value} (h : w.ownsRow base e 3 (.slice a n c) n xs) : Rd w a xs := by
  rcases id h with ⟨hl, ⟨_, rfl⟩ | ⟨g, cap, cur, he, -⟩⟩
  · left; simpa using hl
  · simp at he
    obtain ⟨rfl, rfl⟩ := he
    refine .inr ⟨g, 0, rfl, fun i v hv => ?_⟩
    have hi : i < n * 3 := by
      rcases Nat.lt_or_ge i xs.length with h' | h'
      · omega
      · simp [h'] at hv
    rw [Nat.zero_add, h.cellAt i (by omega)]
    exact hv

set_option maxRecDepth 100000 in
set_option maxHeartbeats 25600000 in
theorem drawRight_any (p : Nat) (w : World) (hc : Cur w p) (hp : p < w.heap.size) :
    Calls Try.prog 92 #[.pointer (some ⟨p, 0, none⟩)] w fun e w' => ∃ a c b d e0 f ps ws ms q, e = .returned (.agg #[.slice a (List.length ps) c, .slice b (List.length ws) d, .slice e0 (List.length ms) f, .int .i64 q]) ∧ FtlOwn w' w.heap.size (.agg #[.slice a ps.length c, .slice b ws.length d, .slice e0 ms.length f, .int .i64 q]) ps ws ms q ∧ ftlOkB ps ws ms q = true ∧ Cur w' p ∧ w.grownBy w' (some p) := by
  obtain ⟨A, hA⟩ : ∃ A, A = w.alloc (Obj.cells #[.slice none 0 0, .slice none 0 0, .slice none 0 0, .int .i64 0] 47) := ⟨_, rfl⟩
  have hbA : Below w.heap.size w A := by rw [hA]; exact (Below.refl _ _).alloc (Nat.le_refl _) _
  have hsA : A.heap.size = w.heap.size + 1 := by rw [hA]; simp
  have kA : C4 A w.heap.size (.slice none 0 0) (.slice none 0 0) (.slice none 0 0) (.int .i64 0) := by rw [hA]; exact c4_new _ _ _ _ _ _
  have HCN := hide (specChipNew_any A)
  have HKA := hide kA
  have HBA := hide hbA
  have HSA := hide hsA
  have HCW := hide hc
  clear hbA hsA kA hc
  go_enter Try.func92, Try.ntmps92
  go_wp2_with fail
  rw [← hA]
  clear hA
  refine HCN.out.mono ?_
  rintro e w1 ⟨v, rfl, ho1, hb1⟩
  obtain ⟨a1, c1, b1, d1, rfl, -⟩ := own_open ho1
  have hrd := chip_rd ho1
  have HMO := hide (specMount_ok a1 b1 ps0 ws0 c1 d1 w1 hrd.1 hrd.2 new_right)
  have HB1 := hide hb1
  clear HCN ho1 hb1 hrd
  go_wp2_with fail
  refine HMO.out.mono ?_
  rintro e w2 ⟨v, rfl, hf2, hb2⟩
  obtain ⟨a2, c2, b2, d2, e2, f2, rfl⟩ := hf2.shape
  obtain ⟨V, hV⟩ : ∃ V, V = w2.alloc (Obj.cells #[.slice a2 ps0.length c2, .slice b2 ws0.length d2, .slice e2 (mMap ps0).length f2, .int .i64 (mSeq ps0)] 47) := ⟨_, rfl⟩
  have hbV : Below w2.heap.size w2 V := by rw [hV]; exact (Below.refl _ _).alloc (Nat.le_refl _) _
  have hbAV := after HB1.out (after hb2 hbV)
  have HST : Hid (DSt V w.heap.size w2.heap.size A.heap.size) :=
    ⟨a2, c2, b2, d2, e2, f2, ps0, ws0, mMap ps0, mSeq ps0, by rw [hV]; exact c4_new _ _ _ _ _ _, ⟨_, _, _, _, HKA.out.below hbAV⟩, ftlOwn_lower (hf2.below hbV) HB1.out.size, ftlOk_of new_right, by have := HSA.out; omega, Nat.le_trans HB1.out.size hb2.size⟩
  have hbwV := after HBA.out hbAV
  have HCV := hide (HCW.out.kept (hbwV.mono (show p + 1 ≤ w.heap.size from hp)))
  have HGV := hide (grown_then (World.grownBy.refl w (some p)) hbwV (Nat.le_refl _))
  have HBL := hide (below_any p 70 V HCV.out (by omega))
  have HFV : Hid (w2.heap.size < V.heap.size) := by show _ < _; rw [hV]; simp
  clear HMO hf2 hb2 hbV hbAV hbwV
  go_wp2_with fail
  rw [← hV]
  clear hV
  generalize w2.heap.size = F at HST HFV ⊢
  refine HBL.out.mono ?_
  rintro e w3 ⟨n, rfl, hn0, hn1, -, hc3, hg3⟩
  have hn1 := hn1 (by omega)
  obtain ⟨N, rfl⟩ : ∃ N : Nat, n = N := ⟨n.toNat, by omega⟩
  have HS3 := hide (HST.out.grown hg3 hp)
  have HC3 := hide hc3
  have HG3 := hide (grown_trans HGV.out hg3)
  clear HBL hc3 hg3 HST HCV HGV hn0
  go_wp2_with fail
  go_loopw [5] (fun i wr => ∃ k : Nat, k ≤ N ∧ i = .int .i64 k ∧ Hid (DSt wr w.heap.size F A.heap.size) ∧ Hid (Cur wr p) ∧ Hid (w.grownBy wr (some p))) (fun i _ => N - (intOf i).toNat)
  case atStart => exact ⟨0, Nat.zero_le _, rfl, HS3, HC3, HG3⟩
  case round =>
    obtain ⟨k, hk, rfl, hst, hcw, hgw⟩ := hrel
    clear HS3 HC3 HG3
    by_cases hlt : k < N
    · have hkI : (k : Int) < (N : Int) := by omega
      have HB1 := hide (below_any p 26 wr hcw.out (by omega))
      go_wp2_with fail
      refine HB1.out.mono ?_
      rintro e u1 ⟨s, rfl, hs0, hs1, -, hc1, hg1⟩
      have hs1 := hs1 (by omega)
      obtain ⟨s0, rfl⟩ : ∃ s0 : Nat, s = s0 := ⟨s.toNat, by omega⟩
      have HO1 := hide (once_any p 2 u1 hc1 (by omega))
      have HG1 := hide hg1
      have HSB : Hid ((s0 : Int) < 26) := hs1
      clear HB1 hc1 hg1 hs1
      go_upto_region 7 with fail
      go_cut [22] (fun x wx => ∃ o : Bool, x = .bool o ∧ Hid (Cur wx p ∧ u1.grownBy wx (some p)))
      case first =>
        go_wp2_with fail
        refine HO1.out.mono ?_
        rintro e u2 ⟨o, rfl, hc2, hg2⟩
        have HH := hide (And.intro hc2 hg2)
        clear hc2 hg2 HO1
        go_wp2_with fail
        go_meet
        exact ⟨_, rfl, HH⟩
      case rest =>
      obtain ⟨o, rfl, HH⟩ := hcut
      have HCU := hide HH.out.1
      have HGU := hide (grown_trans HG1.out HH.out.2)
      clear HO1 HG1 HH
      generalize wc = u2 at HCU HGU ⊢
      rename_i hK
      refine hK _ _ ?_
      clear hK
      go_cut [6] (fun x wx => ∃ s : Int, x = .int .i64 s ∧ Hid (0 ≤ s ∧ s < 26) ∧ Hid (wx = u2))
      case first =>
        cases o with
        | false =>
          go_wp2_with fail
          go_meet
          exact ⟨_, rfl, ⟨by omega, HSB.out⟩, rfl⟩
        | true =>
          go_wp2_with fail
          go_meet
          exact ⟨_, rfl, (by have := HSB.out; show _ ∧ _; omega), rfl⟩
      case rest =>
      obtain ⟨s, rfl, HSR, hwc⟩ := hcut
      have hwc' := hwc.out.symm
      subst hwc'
      have HDU := hide (hst.out.grown HGU.out hp)
      have HGW := hide (grown_trans hgw.out HGU.out)
      have hpu : p < u2.heap.size := by have := HGW.out.size; omega
      clear HGU hst hcw hgw HSB
      obtain ⟨a, c, b, d, e0, f, ps, ws, ms, q, hF4, hR4, hfo, hok, hRb, hbF⟩ := HDU.out
      have HFR := hide hfo.rd
      have HOKF := hide hok
      have HK : Hid (∀ u, u2.grownBy u (some p) → u.cell? ⟨F, 0, none⟩ = some (.slice a ps.length c) ∧ u.cell? ⟨F, 1, none⟩ = some (.slice b ws.length d) ∧ u.cell? ⟨F, 2, none⟩ = some (.slice e0 ms.length f) ∧ u.cell? ⟨F, 3, none⟩ = some (.int .i64 q)) := fun u hu => (hF4.grown hu (by have := HBA.out.size; omega)).1
      have HKD : Hid (∀ u, u2.grownBy u (some p) → FtlOwn u A.heap.size (.agg #[.slice a ps.length c, .slice b ws.length d, .slice e0 ms.length f, .int .i64 q]) ps ws ms q) := fun u hu => hfo.grown hu (by have := HBA.out.size; omega)
      have hFu := hF4.lt
      obtain ⟨c0, c1, c2, c3⟩ := hF4.1
      have HX := hide (And.intro hRb hbF)
      clear hF4 hR4 hfo hok hRb hbF
      go_wp2_with fail
      have HPL : Hid (∀ u t, u2.grownBy u (some p) → t.size ≤ 5 → Calls Try.prog 120 #[.agg #[.slice a ps.length c, .slice b ws.length d, .slice e0 ms.length f, .int .i64 q], .int .i64 s, .string t] u fun e w' => ∃ ok a1 k1 cs a c b d e0 f ps ws ms q, e = .returned (.tuple #[.slice a1 (List.length cs) k1, .agg #[.slice a (List.length ps) c, .slice b (List.length ws) d, .slice e0 (List.length ms) f, .int .i64 q], .bool ok]) ∧ PlanD u w' ok a1 k1 cs a c b d e0 f ps ws ms q ∧ Below u.heap.size u w') := by
        intro u t hu ht
        obtain ⟨a', c', b', d', e', f', he, h1, h2, h3⟩ := (HKD.out u hu).rd
        injection he with he
        simp at he
        obtain ⟨⟨rfl, rfl⟩, ⟨rfl, rfl⟩, ⟨rfl, rfl⟩⟩ := he
        exact planD_any a b e0 ps ws ms c d f q s t u h1 h2 h3 HOKF.out ht HSR.out
      have m1 : u2.heap.size ≠ F := by omega
      have m2 : u2.heap.size + 1 ≠ F := by omega
      go_cut [7, 8, 9] (fun x y z wx => ∃ ok a1 k1 cs a4 c4 b4 d4 e4 f4 ps4 ws4 ms4 q4 G, x = .slice a1 (List.length cs) k1 ∧ y = .pointer (some ⟨G, 0, none⟩) ∧ z = .bool ok ∧ Hid (PSt u2 wx p G ok a1 k1 cs a4 c4 b4 d4 e4 f4 ps4 ws4 ms4 q4))
      case first =>
        go_region_held (fun u => u.cell? ⟨F, 0, none⟩ = some (.slice a ps.length c) ∧ u.cell? ⟨F, 1, none⟩ = some (.slice b ws.length d) ∧ u.cell? ⟨F, 2, none⟩ = some (.slice e0 ms.length f) ∧ u.cell? ⟨F, 3, none⟩ = some (.int .i64 q))
          (first | assumption | go_keep | exact ⟨cell_other (cell_other (cell_other (cell_other hS4.1 m1) m1) m1) m1, cell_other (cell_other (cell_other (cell_other hS4.2.1 m1) m1) m1) m1, cell_other (cell_other (cell_other (cell_other hS4.2.2.1 m1) m1) m1) m1, cell_other (cell_other (cell_other (cell_other hS4.2.2.2 m1) m1) m1) m1⟩ | exact ⟨cell_other (cell_other (cell_other (cell_other hS4.1 m2) m2) m2) m2, cell_other (cell_other (cell_other (cell_other hS4.2.1 m2) m2) m2) m2, cell_other (cell_other (cell_other (cell_other hS4.2.2.1 m2) m2) m2) m2, cell_other (cell_other (cell_other (cell_other hS4.2.2.2 m2) m2) m2) m2⟩ | exact ⟨cell_other (cell_other (cell_other (cell_other hS4.1 m3) m3) m3) m3, cell_other (cell_other (cell_other (cell_other hS4.2.1 m3) m3) m3) m3, cell_other (cell_other (cell_other (cell_other hS4.2.2.1 m3) m3) m3) m3, cell_other (cell_other (cell_other (cell_other hS4.2.2.2 m3) m3) m3) m3⟩)
          ((first
            | (go_at_call_of 101 (Value.slice (some ⟨u2.heap.size, 0, none⟩) 4 4); refine (pick4 p u2.heap.size ((u2.alloc (Obj.cells #[Value.string ⟨#[]⟩, Value.string ⟨#[97]⟩, Value.string ⟨#[98, 98]⟩, Value.string ⟨#[104, 101, 108, 108, 111]⟩] 9)).alloc (Obj.cells #[.slice none 0 0, .slice none 0 0, .slice none 0 0, .int .i64 0] 47)).drew (HCU.out.kept (Below.mono (B := u2.heap.size) (by exact (((Below.refl _ _).alloc (Nat.le_refl _) _).alloc (by simp) _).drew) (by omega))) ((rd_lit u2 #[Value.string ⟨#[]⟩, Value.string ⟨#[97]⟩, Value.string ⟨#[98, 98]⟩, Value.string ⟨#[104, 101, 108, 108, 111]⟩] 9).below (by exact ((Below.refl _ _).alloc (Nat.le_refl _) _).drew)) (by omega)).mono ?_; rintro e w3 ⟨t, rfl, ht, hc3, hg3⟩; have HG3 : Hid (u2.grownBy w3 (some p)) := grown_trans (grown_then (World.grownBy.refl u2 (some p)) (B := u2.heap.size) (by exact (((Below.refl _ _).alloc (Nat.le_refl _) _).alloc (by simp) _).drew) (Nat.le_refl _)) hg3; have hz := C4.grown (c4_new (u2.alloc (Obj.cells #[Value.string ⟨#[]⟩, Value.string ⟨#[97]⟩, Value.string ⟨#[98, 98]⟩, Value.string ⟨#[104, 101, 108, 108, 111]⟩] 9)) (.slice none 0 0) (.slice none 0 0) (.slice none 0 0) (.int .i64 0) 47) (grown_trans (grown_then (World.grownBy.refl _ (some p)) (B := ((u2.alloc (Obj.cells #[Value.string ⟨#[]⟩, Value.string ⟨#[97]⟩, Value.string ⟨#[98, 98]⟩, Value.string ⟨#[104, 101, 108, 108, 111]⟩] 9)).alloc (Obj.cells #[.slice none 0 0, .slice none 0 0, .slice none 0 0, .int .i64 0] 47)).heap.size) (by exact (Below.refl _ _).drew) (Nat.le_refl _)) hg3) (by simp; omega); rw [World.size_alloc] at hz; have HZ := hide hz; have hS3 := HK.out w3 HG3.out; have HC3 := hide hc3; have HT := hide ht; clear hc3 hg3 ht hz)
            | (go_at_call_of 101 (Value.slice (some ⟨u2.heap.size, 0, none⟩) 4 4); refine (pick4 p u2.heap.size (u2.alloc (Obj.cells #[Value.string ⟨#[]⟩, Value.string ⟨#[97]⟩, Value.string ⟨#[98, 98]⟩, Value.string ⟨#[104, 101, 108, 108, 111]⟩] 9)).drew (HCU.out.kept (Below.mono (B := u2.heap.size) (by exact ((Below.refl _ _).alloc (Nat.le_refl _) _).drew) (by omega))) (rd_lit u2 #[Value.string ⟨#[]⟩, Value.string ⟨#[97]⟩, Value.string ⟨#[98, 98]⟩, Value.string ⟨#[104, 101, 108, 108, 111]⟩] 9) (by omega)).mono ?_; rintro e w3 ⟨t, rfl, ht, hc3, hg3⟩; have HG3 : Hid (u2.grownBy w3 (some p)) := grown_trans (grown_then (World.grownBy.refl u2 (some p)) (B := u2.heap.size) (by exact ((Below.refl _ _).alloc (Nat.le_refl _) _).drew) (Nat.le_refl _)) hg3; have hS3 := HK.out w3 HG3.out; have HC3 := hide hc3; have HT := hide ht; clear hc3 hg3 ht)
            | (go_at_call 101; refine (pick4 p (u2.heap.size + 1) ((u2.alloc (Obj.cells #[.slice none 0 0, .slice none 0 0, .slice none 0 0, .int .i64 0] 47)).alloc (Obj.cells #[Value.string ⟨#[]⟩, Value.string ⟨#[97]⟩, Value.string ⟨#[98, 98]⟩, Value.string ⟨#[104, 101, 108, 108, 111]⟩] 9)).drew (HCU.out.kept (Below.mono (B := u2.heap.size) (by exact (((Below.refl _ _).alloc (Nat.le_refl _) _).alloc (by simp) _).drew) (by omega))) (by have h := rd_lit (u2.alloc (Obj.cells #[.slice none 0 0, .slice none 0 0, .slice none 0 0, .int .i64 0] 47)) #[Value.string ⟨#[]⟩, Value.string ⟨#[97]⟩, Value.string ⟨#[98, 98]⟩, Value.string ⟨#[104, 101, 108, 108, 111]⟩] 9; rw [World.size_alloc] at h; exact h) (by omega)).mono ?_; rintro e w3 ⟨t, rfl, ht, hc3, hg3⟩; have HG3 : Hid (u2.grownBy w3 (some p)) := grown_trans (grown_then (World.grownBy.refl u2 (some p)) (B := u2.heap.size) (by exact (((Below.refl _ _).alloc (Nat.le_refl _) _).alloc (by simp) _).drew) (Nat.le_refl _)) hg3; have HZ := hide (C4.grown (c4_new u2 (.slice none 0 0) (.slice none 0 0) (.slice none 0 0) (.int .i64 0) 47) (grown_trans (grown_then (World.grownBy.refl _ (some p)) (B := (u2.alloc (Obj.cells #[.slice none 0 0, .slice none 0 0, .slice none 0 0, .int .i64 0] 47)).heap.size) (by exact ((Below.refl _ _).alloc (Nat.le_refl _) _).drew) (Nat.le_refl _)) hg3) (by omega)); have hS3 := HK.out w3 HG3.out; have HC3 := hide hc3; have HT := hide ht; clear hc3 hg3 ht)
            | (go_at_call 120; refine (HPL.out w3 t HG3.out HT.out).mono ?_; rintro e w4 ⟨ok, a1, k1, cs, a4, c4, b4, d4, e4, f4, ps4, ws4, ms4, q4, rfl, hpd, hb4⟩; have HPD := hide hpd; have HG4 : Hid (u2.grownBy w4 (some p)) := grown_then HG3.out hb4 HG3.out.size; have hS4 := HK.out w4 HG4.out; have hzl := HZ.out.lt; have HZ4 := hide (HZ.out.below hb4); obtain ⟨⟨g0, g1, g2, g3⟩, gf⟩ := id HZ4.out; have gf0 := gf 0; have gf1 := gf 1; have gf2 := gf 2; have gf3 := gf 3; have HC4 := hide (HC3.out.kept (hb4.mono (by have := HG3.out.size; omega))); clear hpd hb4 gf HZ)
            | (go_at_call 120; refine (HPL.out (w3.alloc (Obj.cells #[.slice none 0 0, .slice none 0 0, .slice none 0 0, .int .i64 0] 47)) t (grown_then HG3.out (B := w3.heap.size) ((Below.refl _ _).alloc (Nat.le_refl _) _) HG3.out.size) HT.out).mono ?_; rintro e w4 ⟨ok, a1, k1, cs, a4, c4, b4, d4, e4, f4, ps4, ws4, ms4, q4, rfl, hpd, hb4⟩; have HPD := hide hpd; have HG4 : Hid (u2.grownBy w4 (some p)) := grown_then (grown_then HG3.out (B := w3.heap.size) ((Below.refl _ _).alloc (Nat.le_refl _) _) HG3.out.size) hb4 (Nat.le_trans HG3.out.size (Below.size ((Below.refl w3.heap.size w3).alloc (Nat.le_refl _) (Obj.cells #[.slice none 0 0, .slice none 0 0, .slice none 0 0, .int .i64 0] 47)))); have hS4 := HK.out w4 HG4.out; have hzl : w3.heap.size < (w3.alloc (Obj.cells #[.slice none 0 0, .slice none 0 0, .slice none 0 0, .int .i64 0] 47)).heap.size := (by simp); have HZ4 := hide ((c4_new w3 (.slice none 0 0) (.slice none 0 0) (.slice none 0 0) (.int .i64 0) 47).below hb4); have m3 : w3.heap.size ≠ F := (by have := HG3.out.size; omega); obtain ⟨⟨g0, g1, g2, g3⟩, gf⟩ := id HZ4.out; have gf0 := gf 0; have gf1 := gf 1; have gf2 := gf 2; have gf3 := gf 3; have HC4 := hide (HC3.out.kept (Below.mono (B := w3.heap.size) (((Below.refl w3.heap.size w3).alloc (Nat.le_refl _) _).trans (hb4.mono (by simp))) (by have := HG3.out.size; omega))); clear hpd hb4 gf)
            | (go_at_call 120; refine (HPL.out w3 t HG3.out HT.out).mono ?_; rintro e w4 ⟨ok, a1, k1, cs, a4, c4, b4, d4, e4, f4, ps4, ws4, ms4, q4, rfl, hpd, hb4⟩; have HPD := hide hpd; have HG4 : Hid (u2.grownBy w4 (some p)) := grown_then HG3.out hb4 HG3.out.size; have hS4 := HK.out w4 HG4.out; have HC4 := hide (HC3.out.kept (hb4.mono (by have := HG3.out.size; omega))); clear hpd hb4)))
        all_goals (first
          | (have HP := hide (pst_late (t := 47) HPD.out HG3.out.size hpu HC4.out HG4.out); clear HPL HK HKD c0 c1 c2 c3 hS3 hS4; go_wp2_with fail; go_meet; exact ⟨_, _, _, _, _, _, _, _, _, _, _, _, _, _, _, rfl, rfl, rfl, HP⟩)
          | (have HP := hide (pst_early HZ4.out ⟨(by first | exact Nat.le_refl _ | exact Nat.le_succ _ | exact HG3.out.size), hzl⟩ HPD.out hpu HC4.out HG4.out); clear HPL HK HKD c0 c1 c2 c3 hS3 hS4 g0 g1 g2 g3 gf0 gf1 gf2 gf3; go_wp2_with fail; go_meet; exact ⟨_, _, _, _, _, _, _, _, _, _, _, _, _, _, _, rfl, rfl, rfl, HP⟩))
      case rest =>
      obtain ⟨ok, a1, k1, cs, a4, c4, b4, d4, e4, f4, ps4, ws4, ms4, q4, G, rfl, rfl, rfl, HPS⟩ := hcut
      clear HPL HK HKD c0 c1 c2 c3
      obtain ⟨hG4, ⟨lo, hlo, hact, hftl⟩, hok4, hsh, hc4, hg4, hGs⟩ := HPS.out
      have HDC := hide (HDU.out.grown hg4 hp)
      have HGC := hide (grown_trans HGW.out hg4)
      have HCC := hide hc4
      have HOK4 := hide hok4
      have HFO := hide hftl
      have HLO := hide hlo
      clear HFR HOKF HDU HCU
      cases ok with
      | false =>
        clear hG4 hact hsh hc4 hg4 hok4 hftl hlo
        obtain ⟨a, c, b, d, e0, f, ps, ws, ms, q, hF4, ⟨x0, x1, x2, x3, hR4⟩, hfo, hok, hRb, hbF⟩ := HDC.out
        obtain ⟨⟨r0, r1, r2, r3⟩, rf⟩ := id hR4
        obtain ⟨⟨c0, c1, c2, c3⟩, -⟩ := id hF4
        have rf0 := rf 0
        have rf1 := rf 1
        have rf2 := rf 2
        have rf3 := rf 3
        have n1 : ¬ w.heap.size = F := by omega
        have n2 : ¬ F = w.heap.size := by omega
        have hbS : Below w.heap.size wc ((((wc.setCell ⟨w.heap.size, 0, none⟩ (.slice a ps.length c)).setCell ⟨w.heap.size, 1, none⟩ (.slice b ws.length d)).setCell ⟨w.heap.size, 2, none⟩ (.slice e0 ms.length f)).setCell ⟨w.heap.size, 3, none⟩ (.int .i64 q)) :=
          ((((Below.refl _ _).setCell (p := ⟨w.heap.size, 0, none⟩) (Nat.le_refl _) _).setCell (p := ⟨w.heap.size, 1, none⟩) (Nat.le_refl _) _).setCell (p := ⟨w.heap.size, 2, none⟩) (Nat.le_refl _) _).setCell (p := ⟨w.heap.size, 3, none⟩) (Nat.le_refl _) _
        have HFIN := hide (And.intro (ftlOwn_lower (base := w.heap.size) (ftlOwn_set (ftlOwn_set (ftlOwn_set (ftlOwn_set hfo hRb 0 (.slice a ps.length c)) hRb 1 (.slice b ws.length d)) hRb 2 (.slice e0 ms.length f)) hRb 3 (.int .i64 q)) (by omega)) (And.intro hok (And.intro (HCC.out.kept (hbS.mono (show p + 1 ≤ w.heap.size from hp))) (grown_then HGC.out hbS (Nat.le_refl _)))))
        clear hF4 hR4 hfo hok hbS rf hRb hbF
        go_wp2
        exact bodyPost_ret (v := .agg #[.slice a ps.length c, .slice b ws.length d, .slice e0 ms.length f, .int .i64 q]) (by simp [results, Try.results92, go_sem, r0, r1, r2, r3]) rfl ⟨_, _, _, _, _, _, _, _, _, _, rfl, HFIN.out⟩
      | true =>
        obtain ⟨hst, hne, hcl⟩ := hsh rfl
        obtain ⟨ad, rfl, hk1⟩ := acts_form hact (by cases cs with | nil => exact absurd rfl hne | cons x xs => simp)
        have HSH := hide hst
        have HAC := hide hact
        have HO2 := hide (once_any p 12 wc HCC.out (by omega))
        have HG4 := hide hG4
        have HGS := hide (And.intro hGs hlo)
        clear hG4 hact hsh hc4 hg4 hok4 hftl hlo hst hne hGs
        go_wp2_with fail
        refine HO2.out.mono ?_
        rintro e u5 ⟨o, rfl, hc5, hg5⟩
        have hpc : p < wc.heap.size := by have := HGC.out.size; omega
        have HD5 := hide (HDC.out.grown hg5 hp)
        have HG5 := hide (grown_trans HGC.out hg5)
        have HC5 := hide hc5
        have HFO5 := hide (HFO.out.grown hg5 (by have := HGS.out.2; omega))
        have HGB := hide (HG4.out.grown hg5 (by have := HGS.out.1; omega))
        have HR5 : Hid (Rd u5 (some ad) (vsAct cs)) := rd_own3 (owns_grown HAC.out hg5 (by have := HGS.out.2; omega))
        have HGA := hide hg5
        clear HO2 hc5 hg5 HDC HGC HCC
        have hFlo : F < lo := by have := HGS.out.2; omega
        cases o with
        | false =>
          obtain ⟨⟨g0, g1, g2, g3⟩, -⟩ := HGB.out
          have HDT := hide (HD5.out.take HFO5.out HOK4.out hFlo)
          obtain ⟨a, c, b, d, e0, f, ps, ws, ms, q, hF4, -, -, -, hRb, hbF⟩ := HD5.out
          obtain ⟨⟨c0, c1, c2, c3⟩, cf⟩ := id hF4
          have cf0 := cf 0
          have cf1 := cf 1
          have cf2 := cf 2
          have cf3 := cf 3
          have hbS : Below w.heap.size u5 ((((u5.setCell ⟨F, 0, none⟩ (.slice a4 ps4.length c4)).setCell ⟨F, 1, none⟩ (.slice b4 ws4.length d4)).setCell ⟨F, 2, none⟩ (.slice e4 ms4.length f4)).setCell ⟨F, 3, none⟩ (.int .i64 q4)) :=
            ((((Below.refl _ _).setCell (p := ⟨F, 0, none⟩) (by show _ ≤ F; omega) _).setCell (p := ⟨F, 1, none⟩) (by show _ ≤ F; omega) _).setCell (p := ⟨F, 2, none⟩) (by show _ ≤ F; omega) _).setCell (p := ⟨F, 3, none⟩) (by show _ ≤ F; omega) _
          have HCT := hide (HC5.out.kept (hbS.mono (show p + 1 ≤ w.heap.size from hp)))
          have HGT := hide (grown_then HG5.out hbS (Nat.le_refl _))
          clear hF4 hbS cf hRb hbF HD5 HC5 HG5
          go_wp2
          go_roundw
          case rel => exact ⟨k + 1, by omega, by go_num, HDT, HCT, HGT⟩
          case measure => simp [intOf]; omega
        | true =>
          obtain ⟨a, c, b, d, e0, f, ps, ws, ms, q, hF4, hR4, hfo, hok, hRb, hbF⟩ := HD5.out
          obtain ⟨hch, -, -⟩ := ftlOk_parts hok
          have HCH := hide hch
          have hp5 : p < u5.heap.size := by have := HG5.out.size; omega
          have HK5 : Hid (∀ u, u5.grownBy u (some p) → u.cell? ⟨F, 0, none⟩ = some (.slice a ps.length c) ∧ u.cell? ⟨F, 1, none⟩ = some (.slice b ws.length d)) := fun u hu => by
            have h := (hF4.grown hu (by omega)).1
            exact ⟨h.1, h.2.1⟩
          have HF5 := hide hF4
          have hact5 := owns_grown HAC.out HGA.out (by have := HGS.out.2; omega)
          have HCUT : Hid (∀ u (x y : Int), u5.grownBy u (some p) → 0 ≤ y → y < 9 → Calls Try.prog 55 #[.agg #[.slice a ps.length c, .slice b ws.length d], .slice (some ad) cs.length k1, .int .i64 x, .int .i64 y] u fun e w' => ∃ a c b d PS WS, e = .returned (.agg #[.slice a (List.length PS) c, .slice b (List.length WS) d]) ∧ ChipOwn w' u.heap.size (.agg #[.slice a PS.length c, .slice b WS.length d]) PS WS ∧ chipOkP PS WS ∧ Below u.heap.size u w') := by
            intro u x y hu hy0 hy1
            obtain ⟨o1, o2, o3⟩ := fRows (hfo.grown hu (by omega))
            have hra : Rd u (some ad) (vsAct cs) := rd_own3 (owns_grown hact5 hu (by have := HGS.out.2; omega))
            have hwf : (Lit.int .i64 y).wf = true := by have h := wrap64_wf y; rwa [IntWalk.wrap64_in _ ⟨by omega, by omega⟩] at h
            refine (specCut_ok a b ad ps ws c d k1 cs x y u (rd_of_own o1) (rd_of_own o2) hra hch (by omega) (fun z hz => by have := HSH.out z hz; omega) hk1 hwf).mono ?_
            rintro e w' ⟨v, rfl, ho, hb⟩
            obtain ⟨a', c', b', d', rfl, -⟩ := own_open ho
            exact ⟨a', c', b', d', _, _, rfl, ho, cut_right hch, hb⟩
          have HTK : Hid (∀ (u : World) (a b e : Option Addr) (c d f : Nat) (PS : List ByteArray) (WS MS : List Int) (z : Int) (lo2 : Nat), u5.grownBy u (some p) → FtlOwn u lo2 (.agg #[.slice a PS.length c, .slice b WS.length d, .slice e MS.length f, .int .i64 z]) PS WS MS z → ftlOkB PS WS MS z = true → F < lo2 → DSt ((((u.setCell ⟨F, 0, none⟩ (.slice a PS.length c)).setCell ⟨F, 1, none⟩ (.slice b WS.length d)).setCell ⟨F, 2, none⟩ (.slice e MS.length f)).setCell ⟨F, 3, none⟩ (.int .i64 z)) w.heap.size F A.heap.size) := fun u a b e c d f PS WS MS z lo2 hg hf ho hl => (HD5.out.grown hg hp).take hf ho hl
          have hFw : w.heap.size ≤ F := by omega
          have HC5d : Hid (Cur u5.drew p) := HC5.out.drewN 1
          have hF5 : F < u5.heap.size := hF4.lt
          obtain ⟨⟨c0, c1, c2, c3⟩, cf⟩ := id hF4
          have hlI : (cs.length : Int) + 1 ≤ 9223372036854775807 := by omega
          clear hF4 hR4 hfo hok hRb hbF hch hact5 cf HD5
          go_wp2_with fail
          go_region_with
              ((first
                | (go_at_call 64; refine (below_any p 9 w6 HC6.out (by omega)).mono ?_; rintro e w7 ⟨y, rfl, hy0, hy1, -, hc7, hg7⟩; have hy1 := hy1 (by omega); have HY := hide (And.intro hy0 hy1); have HG7 := hide (grown_trans HG6.out hg7); obtain ⟨hs70, hs71⟩ := HK5.out w7 HG7.out; have HC7 := hide hc7; clear hc7 hg7 hy0 hy1)
                | (go_at_call 64; refine (below_any p (IntKind.i64.wrap ((cs.length : Int) + 1)) u5.drew HC5d.out (bounds_i64 (wf_wrap .i64 ((cs.length : Int) + 1))).2).mono ?_; rintro e w6 ⟨x, rfl, hx0, hx1, -, hc6, hg6⟩; have HG6 : Hid (u5.grownBy w6 (some p)) := ⟨hg6.os, hg6.tape, hg6.output, hg6.size, hg6.block⟩; obtain ⟨hs60, hs61⟩ := HK5.out w6 HG6.out; have HC6 := hide hc6; clear hc6 hg6 hx0 hx1)
                | (go_at_call 55; refine (HCUT.out w7 x y HG7.out HY.out.1 HY.out.2).mono ?_; rintro e w8 ⟨a8, c8, b8, d8, PS, WS, rfl, ho8, hch8, hb8⟩; have HO8 := hide ho8; have HCH8 := hide hch8; have HG8 := hide (grown_then HG7.out hb8 HG7.out.size); have HC8 := hide (HC7.out.kept (hb8.mono (by have := HG7.out.size; omega))); have HS8 : Hid (F < w8.heap.size) := (by have := HG8.out.size; show _ < _; omega); clear ho8 hch8 hb8)
                | (go_at_call 28; refine (specMount_ok a8 b8 PS WS c8 d8 w8 (chip_rd HO8.out).1 (chip_rd HO8.out).2 HCH8.out).mono ?_; rintro e w9 ⟨v, rfl, hf9, hb9⟩; obtain ⟨a9, c9, b9, d9, e9, f9, hv9⟩ := hf9.shape; subst hv9; have HF9 := hide hf9; have HG9 := hide (grown_then HG8.out hb9 HG8.out.size); have HC9 := hide (HC8.out.kept (hb9.mono (by have := HG8.out.size; omega))); obtain ⟨-, gf⟩ := HF5.out.grown HG9.out (by omega); have gf0 := gf 0; have gf1 := gf 1; have gf2 := gf 2; have gf3 := gf 3; obtain ⟨⟨k0, kk1, kk2, kk3⟩, -⟩ := HF5.out.grown HG9.out (by omega); clear hf9 hb9 gf)))
          all_goals
            have HDT := hide (HTK.out w9 a9 b9 e9 c9 d9 f9 PS WS (mMap PS) (mSeq PS) w8.heap.size HG9.out HF9.out (ftlOk_of HCH8.out) HS8.out)
            have hbS : Below w.heap.size w9 ((((w9.setCell ⟨F, 0, none⟩ (.slice a9 PS.length c9)).setCell ⟨F, 1, none⟩ (.slice b9 WS.length d9)).setCell ⟨F, 2, none⟩ (.slice e9 (mMap PS).length f9)).setCell ⟨F, 3, none⟩ (.int .i64 (mSeq PS))) :=
              ((((Below.refl _ _).setCell (p := ⟨F, 0, none⟩) hFw _).setCell (p := ⟨F, 1, none⟩) hFw _).setCell (p := ⟨F, 2, none⟩) hFw _).setCell (p := ⟨F, 3, none⟩) hFw _
            have HCT := hide (HC9.out.kept (hbS.mono (show p + 1 ≤ w.heap.size from hp)))
            have HGT := hide (grown_then (grown_trans HG5.out HG9.out) hbS (Nat.le_refl _))
            clear hbS
            go_wp2
            go_roundw
            case rel => exact ⟨k + 1, by omega, by go_num, HDT, HCT, HGT⟩
            case measure => simp [intOf]; omega
    · have hkN : k = N := by omega
      subst hkN
      obtain ⟨a, c, b, d, e0, f, ps, ws, ms, q, hF4, ⟨x0, x1, x2, x3, hR4⟩, hfo, hok, hRb, hbF⟩ := hst.out
      obtain ⟨⟨r0, r1, r2, r3⟩, rf⟩ := id hR4
      obtain ⟨⟨c0, c1, c2, c3⟩, -⟩ := id hF4
      have rf0 := rf 0
      have rf1 := rf 1
      have rf2 := rf 2
      have rf3 := rf 3
      have n1 : ¬ w.heap.size = F := by omega
      have n2 : ¬ F = w.heap.size := by omega
      have hbS : Below w.heap.size wr ((((wr.setCell ⟨w.heap.size, 0, none⟩ (.slice a ps.length c)).setCell ⟨w.heap.size, 1, none⟩ (.slice b ws.length d)).setCell ⟨w.heap.size, 2, none⟩ (.slice e0 ms.length f)).setCell ⟨w.heap.size, 3, none⟩ (.int .i64 q)) :=
        ((((Below.refl _ _).setCell (p := ⟨w.heap.size, 0, none⟩) (Nat.le_refl _) _).setCell (p := ⟨w.heap.size, 1, none⟩) (Nat.le_refl _) _).setCell (p := ⟨w.heap.size, 2, none⟩) (Nat.le_refl _) _).setCell (p := ⟨w.heap.size, 3, none⟩) (Nat.le_refl _) _
      have HFIN := hide (And.intro (ftlOwn_lower (base := w.heap.size) (ftlOwn_set (ftlOwn_set (ftlOwn_set (ftlOwn_set hfo hRb 0 (.slice a ps.length c)) hRb 1 (.slice b ws.length d)) hRb 2 (.slice e0 ms.length f)) hRb 3 (.int .i64 q)) (by omega)) (And.intro hok (And.intro (hcw.out.kept (hbS.mono (show p + 1 ≤ w.heap.size from hp))) (grown_then hgw.out hbS (Nat.le_refl _)))))
      clear hF4 hR4 hfo hok hbS rf hRb hbF
      go_wp2
      exact bodyPost_ret (v := .agg #[.slice a ps.length c, .slice b ws.length d, .slice e0 ms.length f, .int .i64 q]) (by simp [results, Try.results92, go_sem, r0, r1, r2, r3]) rfl ⟨_, _, _, _, _, _, _, _, _, _, rfl, HFIN.out⟩
end Go.Proofs.Ytelbannfbglgcaa

namespace Go.Proofs.Ytelbannfbglgcaa
open Go.RowKit Go.Deep

/-- The variable at block p holds the cells xs, and may be written. -/
def CV (u : World) (p : Nat) (xs : List Value) : Prop := p < u.heap.size ∧ (∀ i v, xs[i]? = some v → u.cell? ⟨p, i, none⟩ = some v) ∧ ∀ j, u.frozen? ⟨p, j, none⟩ = false
theorem cv_new (u : World) (xs : List Value) (t : TypeId) : CV (u.alloc (.cells xs.toArray t)) u.heap.size xs :=
  ⟨by simp, fun i v h => by rw [World.cell?_alloc_new]; simpa using h, fun j => by simp⟩
theorem CV.below {u u' : World} {p : Nat} {xs : List Value} (h : CV u p xs) (hb : Below u.heap.size u u') : CV u' p xs :=
  ⟨Nat.lt_of_lt_of_le h.1 hb.size, fun i v hv => (hb.cell (p := ⟨p, i, none⟩) h.1).trans (h.2.1 i v hv), fun j => (hb.frozen (p := ⟨p, j, none⟩) h.1).trans (h.2.2 j)⟩

theorem madeRows (z : Array Value) (m : Nat) : (madeCells z (m * z.size)).toList = (List.replicate m z.toList).flatten := by
  induction m with
  | zero => simp [madeCells]
  | succ m ih =>
    have e : (m + 1) * z.size = m * z.size + z.size := by rw [Nat.succ_mul]
    rw [List.replicate_succ', List.flatten_append, ← ih]
    simp only [madeCells, Array.toList_map, Array.toList_range, e, List.range_add, List.map_append, List.map_map]
    congr 1
    apply List.ext_getElem?
    intro j
    by_cases hj : j < z.size
    · have hm : (m * z.size + j) % z.size = j := by rw [Nat.add_comm, Nat.add_mul_mod_self_right]; exact Nat.mod_eq_of_lt hj
      simp [hj, hm]
    · simp [hj]

/-- What is stored in a row, one element of it. -/
theorem half_set {X : Type} {xs : List X} {z x : X} {k : Nat} (h : xs[k]? = some x) : (xs.take k ++ List.replicate (xs.length - k) z).set k x = xs.take (k + 1) ++ List.replicate (xs.length - (k + 1)) z := by
  have hk : k < xs.length := by
    rcases Nat.lt_or_ge k xs.length with h' | h'
    · exact h'
    · simp [h'] at h
  have hr : xs.length - k = (xs.length - (k + 1)) + 1 := by omega
  have hl : (xs.take k).length = k := by rw [List.length_take]; omega
  rw [hr, List.replicate_succ, List.set_append_right _ _ (by omega), hl, Nat.sub_self, List.set_cons_zero, List.take_add_one, h]
  simp

/-- A row of structs that came in: of each element what its cells are. -/
theorem rdRows_of {H : Type} {enc : TypeId × Value → H} {P : Program} {W : World} {fuel : Nat} {t e : TypeId} {v : Value} {y : DataW H × List MemPlace} {X : Type} (n : Nat) (cf : X → List Value) (good : X → Prop) (hn : ∀ x, (cf x).length = n) (h0 : 0 < n)
    (ht : P.underlying t = some (.slice e)) (hc : P.cellsOf e = n) (h : DataW.trod enc P W 0 (fun _ => true) true fuel t [v] = some y)
    (hel : ∀ (m : Nat) (cs : List Value) (z : DataW H × List MemPlace), cs.length = n → DataW.trod enc P W 0 (fun _ => true) true m e cs = some z → ∃ x, cs = cf x ∧ good x) :
    ∃ (a : Option Addr) (xs : List X) (c : Nat), v = .slice a xs.length c ∧ Rd W a (xs.flatMap cf) ∧ xs.length ≤ maxLen ∧ ∀ x ∈ xs, good x := by
  rcases open_slice ht h with ⟨hcs, _⟩ | ⟨a, len, cap, m, fu, D, Pl, hcs, hb, hl, hm, hmm, _, hx⟩
  · simp at hcs; subst hcs
    exact ⟨none, [], 0, rfl, .inl rfl, by simp, by simp⟩
  · simp at hcs; subst hcs
    have hlm : len ≤ m := by rw [hmm]; split <;> omega
    have each : ∀ i, i < len → ∃ q : X, W.cells? 0 (a.add (i * n)) n = some (cf q) ∧ good q := by
      intro i hi
      obtain ⟨cs', h1, h2⟩ := hx i (by omega)
      rw [hc] at h1
      obtain ⟨_, hlen, _⟩ := World.cells?_some h1
      obtain ⟨x, rfl, hg⟩ := hel _ cs' _ hlen h2
      exact ⟨x, h1, hg⟩
    by_cases hlen0 : len = 0
    · subst hlen0
      exact ⟨some a, [], cap, rfl, .inl rfl, by simp, by simp⟩
    · obtain ⟨x0, -⟩ := each 0 (by omega)
      haveI : Inhabited X := ⟨x0⟩
      obtain ⟨q, hq⟩ := choose_lt each
      have hlen : ((List.range len).map q).length = len := by simp
      refine ⟨some a, (List.range len).map q, cap, by rw [hlen], ?_, by omega, fun x hx => ?_⟩
      · obtain ⟨b, off, spot⟩ := a
        have hcell : ∀ i, i < len → ∀ j v, (cf (q i))[j]? = some v → W.cell? ((⟨b, off, spot⟩ : Addr).add (i * n + j)) = some v := by
          intro i hi j v hv
          obtain ⟨_, hl1, hcl⟩ := World.cells?_some (hq i hi).1
          have hj : j < n := by
            rcases Nat.lt_or_ge j (cf (q i)).length with h' | h'
            · rw [hn] at h'; exact h'
            · simp [h'] at hv
          have := hcl j hj
          rw [add_add] at this
          rw [this]; exact hv
        have hspot : spot = none := by
          have hp : 0 < (cf (q 0)).length := by rw [hn]; exact h0
          have := hcell 0 (by omega) 0 _ (List.getElem?_eq_getElem hp)
          simp only [Nat.zero_mul, Nat.add_zero] at this
          simpa [Addr.add] using World.cell?_spot this
        subst hspot
        refine .inr ⟨b, off, rfl, fun i v hv => ?_⟩
        have hfl : ∀ (L : List Nat), (L.flatMap fun r => cf (q r)).length = L.length * n := by
          intro L
          induction L with
          | nil => simp
          | cons r L ih => rw [List.flatMap_cons, List.length_append, ih, hn, List.length_cons, Nat.succ_mul]; omega
        have hat : ∀ (k : Nat), ∀ i v, (((List.range k).map q).flatMap cf)[i]? = some v → i / n < k ∧ (cf (q (i / n)))[i % n]? = some v := by
          intro k
          induction k with
          | zero => intro i v hv; simp at hv
          | succ k ih =>
            intro i v hv
            rw [List.range_succ, List.map_append, List.flatMap_append, List.map_cons, List.map_nil, List.flatMap_cons, List.flatMap_nil, List.append_nil] at hv
            have hlk : (((List.range k).map q).flatMap cf).length = k * n := by
              have := hfl (List.range k)
              rw [List.length_range] at this
              rw [← this, List.flatMap_map]
            by_cases hi : i < k * n
            · rw [List.getElem?_append_left (by omega)] at hv
              obtain ⟨h1, h2⟩ := ih i v hv
              exact ⟨by omega, h2⟩
            · rw [List.getElem?_append_right (by omega), hlk] at hv
              have hlt : i - k * n < n := by
                rcases Nat.lt_or_ge (i - k * n) (cf (q k)).length with h' | h'
                · rw [hn] at h'; exact h'
                · simp [h'] at hv
              have hd : i / n = k := by
                have : i = (i - k * n) + k * n := by omega
                rw [this, Nat.add_mul_div_right _ _ h0, Nat.div_eq_of_lt hlt]; omega
              have hm' : i % n = i - k * n := by
                have : i = (i - k * n) + k * n := by omega
                rw [this, Nat.add_mul_mod_self_right, Nat.mod_eq_of_lt hlt]; omega
              rw [hd, hm']
              exact ⟨by omega, hv⟩
        obtain ⟨h1, h2⟩ := hat len i v hv
        have h3 := hcell (i / n) h1 (i % n) v h2
        have h4 : i / n * n + i % n = i := Nat.div_add_mod' i n
        rw [h4] at h3
        have ea : (⟨b, off, none⟩ : Addr).add i = ⟨b, off + i, none⟩ := by
          by_cases h0 : i = 0
          · subst h0; simp [Addr.add]
          · simp [Addr.add, h0]
        rw [ea] at h3
        exact h3
      · obtain ⟨i, hi, rfl⟩ := List.mem_map.1 hx
        exact (hq i (List.mem_range.1 hi)).2

theorem ownsN_shape {w : World} {base n size : Nat} {e : TypeId} {v : Value} {xs : List Value} (h : w.ownsRow base e size v n xs) : ∃ a c, v = .slice a n c := by
  rcases h with ⟨_, ⟨rfl, rfl⟩ | ⟨g, cap, cur, rfl, -⟩⟩
  · exact ⟨_, _, rfl⟩
  · exact ⟨_, _, rfl⟩
theorem ownsN_cap {w : World} {base size : Nat} {e : TypeId} {a : Option Addr} {n c m : Nat} {xs : List Value} (h : w.ownsRow base e size (.slice a n c) m xs) : n ≤ c := by
  rcases h with ⟨_, ⟨h, rfl⟩ | ⟨g, cap, cur, h, _, _, h', _⟩⟩
  · simp at h; omega
  · simp at h; omega
theorem rd_of_ownN {w : World} {base size : Nat} {e : TypeId} {a : Option Addr} {n c : Nat} {xs : List Value} (h : w.ownsRow base e size (.slice a n c) n xs) : Rd w a xs := by
  rcases id h with ⟨hl, ⟨_, rfl⟩ | ⟨g, cap, cur, he, -⟩⟩
  · left; simpa using hl
  · simp at he
    obtain ⟨rfl, rfl⟩ := he
    refine .inr ⟨g, 0, rfl, fun i v hv => ?_⟩
    have hi : i < n * size := by
      rcases Nat.lt_or_ge i xs.length with h' | h'
      · omega
      · simp [h'] at hv
    rw [Nat.zero_add, h.cellAt i (by omega)]
    exact hv
theorem grown_of_below {w w' : World} {row : Option Nat} (hb : Below w.heap.size w w') : w.grownBy w' row := ⟨hb.os, hb.tape, hb.output, hb.size, fun i hi _ => hb.block i hi⟩

end Go.Proofs.Ytelbannfbglgcaa

namespace Go.Proofs.Ytelbannfbglgcaa
open Go.RowKit

/-- A chip that was drawn: its rows lie above lo. -/
def DChip (w : World) (lo : Nat) (a : Option Addr) (c : Nat) (b : Option Addr) (d : Nat) (ps : List ByteArray) (ws : List Int) : Prop :=
  (Rd w a (vsString ps) ∧ Rd w b (vsInt ws)) ∧ (∀ x, a = some x → lo ≤ x.block) ∧ (∀ x, b = some x → lo ≤ x.block) ∧ (ps.length ≤ c ∧ ws.length ≤ d) ∧ (ps.length ≤ 60 ∧ ws.length ≤ 10) ∧ ∀ s ∈ ps, s.size ≤ 1048576
theorem DChip.grown {w w' : World} {lo p : Nat} {a : Option Addr} {c : Nat} {b : Option Addr} {d : Nat} {ps : List ByteArray} {ws : List Int} (h : DChip w lo a c b d ps ws) (hg : w.grownBy w' (some p)) (hp : p < lo) : DChip w' lo a c b d ps ws :=
  ⟨⟨h.1.1.grown hg (fun x hx => by have := h.2.1 x hx; omega), h.1.2.grown hg (fun x hx => by have := h.2.2.1 x hx; omega)⟩, h.2⟩
theorem DChip.below {w w' : World} {lo : Nat} {a : Option Addr} {c : Nat} {b : Option Addr} {d : Nat} {ps : List ByteArray} {ws : List Int} (h : DChip w lo a c b d ps ws) (hb : Below w.heap.size w w') : DChip w' lo a c b d ps ws :=
  ⟨⟨h.1.1.below hb, h.1.2.below hb⟩, h.2⟩
theorem dchip_of {w : World} {lo c d : Nat} {a b : Option Addr} {ps : List ByteArray} {ws : List Int} (h : ChipOwn w lo (.agg #[.slice a ps.length c, .slice b ws.length d]) ps ws) (hok : chipOkP ps ws) : DChip w lo a c b d ps ws := by
  obtain ⟨v1, v2, hv, o1, o2, hne⟩ := h
  injection hv with hv
  simp at hv
  obtain ⟨rfl, rfl⟩ := hv
  refine ⟨⟨rd_of_own o1, rd_of_own o2⟩, fun x hx => ?_, fun x hx => ?_, ⟨owns_cap o1, owns_cap o2⟩, ⟨by rw [hok.1]; decide, by rw [hok.2.1]; decide⟩, fun s hs => by have := hok.2.2.1 s hs; omega⟩
  · subst hx; exact (o1.lt x.block rfl).1
  · subst hx; exact (o2.lt x.block rfl).1

/-- A result of two slices, still empty, in block r. -/
def Z2 (u : World) (r : Nat) : Prop := (u.cell? ⟨r, 0, none⟩ = some (.slice none 0 0) ∧ u.cell? ⟨r, 1, none⟩ = some (.slice none 0 0)) ∧ ∀ j, u.frozen? ⟨r, j, none⟩ = false
theorem z2_new (w : World) (t : TypeId) : Z2 (w.alloc (Obj.cells #[.slice none 0 0, .slice none 0 0] t)) w.heap.size := ⟨⟨by simp, by simp⟩, fun j => by simp⟩
theorem Z2.grown {u u' : World} {r p : Nat} (h : Z2 u r) (hg : u.grownBy u' (some p)) (hne : r ≠ p) : Z2 u' r := by
  have hn : ∀ j, some (⟨r, j, none⟩ : Addr).block ≠ some p := fun j e => hne (Option.some.inj e)
  exact ⟨⟨hg.cell h.1.1 (hn 0), hg.cell h.1.2 (hn 1)⟩, fun j => (frozen_far hg ⟨r, j, none⟩ (lt_of_cell h.1.1) (hn j)).trans (h.2 j)⟩
theorem Z2.below {u u' : World} {r : Nat} (h : Z2 u r) (hb : Below u.heap.size u u') : Z2 u' r := by
  have hl := lt_of_cell h.1.1
  exact ⟨⟨(hb.cell (p := ⟨r, 0, none⟩) hl).trans h.1.1, (hb.cell (p := ⟨r, 1, none⟩) hl).trans h.1.2⟩, fun j => (hb.frozen (p := ⟨r, j, none⟩) hl).trans (h.2 j)⟩

set_option maxHeartbeats 1600000 in
theorem draw2R_any (p : Nat) (w : World) (hc : Cur w p) (hp : p < w.heap.size) :
    Calls Try.prog 100 #[.pointer (some ⟨p, 0, none⟩)] w fun e w' => ∃ a c b d ps ws, e = .returned (.agg #[.slice a (List.length ps) c, .slice b (List.length ws) d]) ∧ ChipOwn w' w.heap.size (.agg #[.slice a ps.length c, .slice b ws.length d]) ps ws ∧ chipOkP ps ws ∧ Cur w' p ∧ w.grownBy w' (some p) := by
  obtain ⟨A, hA⟩ : ∃ A, A = w.alloc (Obj.cells #[.slice none 0 0, .slice none 0 0] 27) := ⟨_, rfl⟩
  have hbA : Below w.heap.size w A := by rw [hA]; exact (Below.refl _ _).alloc (Nat.le_refl _) _
  have hsA : A.heap.size = w.heap.size + 1 := by rw [hA]; simp
  have hz : Z2 A w.heap.size := by rw [hA]; exact z2_new _ _
  have HDR := hide (drawRight_any p A (hc.kept (hbA.mono (show p + 1 ≤ w.heap.size from hp))) (by omega))
  have HGA := hide (grown_then (World.grownBy.refl w (some p)) hbA (Nat.le_refl _))
  have HZ := hide hz
  have HSA := hide hsA
  clear hc hbA hsA hz
  go_enter Try.func100, Try.ntmps100
  go_wp2_with fail
  rw [← hA]
  clear hA
  refine HDR.out.mono ?_
  rintro e w1 ⟨a, c, b, d, e0, f, ps, ws, ms, q, rfl, hf, hok, hc1, hg1⟩
  obtain ⟨W, hW⟩ : ∃ W, W = w1.alloc (Obj.cells #[.slice a ps.length c, .slice b ws.length d, .slice e0 ms.length f, .int .i64 q] 47) := ⟨_, rfl⟩
  have hb : Below w1.heap.size w1 W := by rw [hW]; exact (Below.refl _ _).alloc (Nat.le_refl _) _
  have x0 : W.cell? ⟨w1.heap.size, 0, none⟩ = some (.slice a ps.length c) := by rw [hW]; simp
  have x1 : W.cell? ⟨w1.heap.size, 1, none⟩ = some (.slice b ws.length d) := by rw [hW]; simp
  have HCH : Hid (ChipOwn W A.heap.size (.agg #[.slice a ps.length c, .slice b ws.length d]) ps ws) := by
    obtain ⟨v1, v2, v3, hv, o1, o2, o3, h12, h13, h23⟩ := hf
    injection hv with hv
    simp at hv
    obtain ⟨rfl, rfl, rfl, rfl⟩ := hv
    exact ⟨_, _, rfl, owns_below o1 hb, owns_below o2 hb, h12⟩
  have HOK := hide (ftlOk_parts hok).1
  have hs := hg1.size
  have HC := hide (hc1.kept (hb.mono (show p + 1 ≤ w1.heap.size by have := HSA.out; omega)))
  have HG := hide (grown_then (grown_trans HGA.out hg1) hb (by have := HSA.out; omega))
  obtain ⟨⟨z0, z1⟩, zf⟩ := (HZ.out.grown hg1 (by omega)).below hb
  have zf0 := zf 0
  have zf1 := zf 1
  have hne : ¬ w.heap.size = w1.heap.size := by have := HSA.out; omega
  clear hf hok hc1 hg1 HDR hb hs zf HZ HGA
  go_wp2_with (rw [← hW]; clear hW)
  have hbS : Below w.heap.size W ((W.setCell ⟨w.heap.size, 0, none⟩ (.slice a ps.length c)).setCell ⟨w.heap.size, 1, none⟩ (.slice b ws.length d)) := ((Below.refl _ _).setCell (p := ⟨w.heap.size, 0, none⟩) (Nat.le_refl _) _).setCell (p := ⟨w.heap.size, 1, none⟩) (Nat.le_refl _) _
  refine bodyPost_ret (v := .agg #[.slice a ps.length c, .slice b ws.length d]) (by simp [results, Try.results100, go_sem, z0, z1]) rfl ⟨_, _, _, _, _, _, rfl, own_mono (own_set (own_set HCH.out (a := ⟨w.heap.size, 0, none⟩) (show w.heap.size < _ by have := HSA.out; omega) _) (a := ⟨w.heap.size, 1, none⟩) (show w.heap.size < _ by have := HSA.out; omega) _) (by have := HSA.out; omega), HOK.out, HC.out.kept (hbS.mono (show p + 1 ≤ w.heap.size from hp)), grown_then HG.out hbS (Nat.le_refl _)⟩

theorem rd_set {w : World} {a : Option Addr} {vs : List Value} {B : Nat} (h : Rd w a vs) (hne : ∀ x, a = some x → x.block ≠ B) (j : Nat) (v : Value) : Rd (w.setCell ⟨B, j, none⟩ v) a vs := by
  rcases h with h | ⟨b, off, ha, hc⟩
  · exact .inl h
  · refine .inr ⟨b, off, ha, fun i u hu => ?_⟩
    have := hne _ ha
    exact cell_other (hc i u hu) (fun e => this e.symm)
theorem DChip.set {w : World} {lo c d B : Nat} {a b : Option Addr} {ps : List ByteArray} {ws : List Int} (h : DChip w lo a c b d ps ws) (hB : B < lo) (j : Nat) (v : Value) : DChip (w.setCell ⟨B, j, none⟩ v) lo a c b d ps ws :=
  ⟨⟨rd_set h.1.1 (fun x hx => by have := h.2.1 x hx; omega) j v, rd_set h.1.2 (fun x hx => by have := h.2.2.1 x hx; omega) j v⟩, h.2⟩
theorem DChip.lower {w : World} {lo lo' c d : Nat} {a b : Option Addr} {ps : List ByteArray} {ws : List Int} (h : DChip w lo a c b d ps ws) (hl : lo' ≤ lo) : DChip w lo' a c b d ps ws :=
  ⟨h.1, fun x hx => Nat.le_trans hl (h.2.1 x hx), fun x hx => Nat.le_trans hl (h.2.2.1 x hx), h.2.2.2⟩
/-- A chip whose variable in block X is written. -/
theorem DChip.aside {w : World} {lo c d X : Nat} {a b : Option Addr} {ps : List ByteArray} {ws : List Int} (h : DChip w lo a c b d ps ws) (ha : ∀ x, a = some x → x.block ≠ X) (hb : ∀ x, b = some x → x.block ≠ X) (j : Nat) (v : Value) : DChip (w.setCell ⟨X, j, none⟩ v) lo a c b d ps ws :=
  ⟨⟨rd_set h.1.1 ha j v, rd_set h.1.2 hb j v⟩, h.2⟩
theorem d2_fin {w wx : World} {p c d : Nat} {a b : Option Addr} {ps : List ByteArray} {ws : List Int} (h : DChip wx (w.heap.size + 1) a c b d ps ws) (hc : Cur wx p) (hg : w.grownBy wx (some p)) (hp : p < w.heap.size) (x y : Value) :
    DChip ((wx.setCell ⟨w.heap.size, 0, none⟩ x).setCell ⟨w.heap.size, 1, none⟩ y) w.heap.size a c b d ps ws ∧ Cur ((wx.setCell ⟨w.heap.size, 0, none⟩ x).setCell ⟨w.heap.size, 1, none⟩ y) p ∧ w.grownBy ((wx.setCell ⟨w.heap.size, 0, none⟩ x).setCell ⟨w.heap.size, 1, none⟩ y) (some p) := by
  have hbS : Below w.heap.size wx ((wx.setCell ⟨w.heap.size, 0, none⟩ x).setCell ⟨w.heap.size, 1, none⟩ y) := ((Below.refl _ _).setCell (p := ⟨w.heap.size, 0, none⟩) (Nat.le_refl _) _).setCell (p := ⟨w.heap.size, 1, none⟩) (Nat.le_refl _) _
  exact ⟨((h.set (Nat.lt_succ_self _) 0 x).set (Nat.lt_succ_self _) 1 y).lower (Nat.le_succ _), hc.kept (hbS.mono (show p + 1 ≤ w.heap.size from hp)), grown_then hg hbS (Nat.le_refl _)⟩
theorem rd_dropd {w : World} {g off : Nat} {vs : List Value} (h : Rd w (some ⟨g, off, none⟩) vs) (k : Nat) : Rd w (some ⟨g, off + k, none⟩) (vs.drop k) := by
  rcases h with h | ⟨b, o, ha, hc⟩
  · subst h; exact .inl (by simp)
  · injection ha with ha
    injection ha with h1 h2
    subst h1 h2
    refine .inr ⟨g, off + k, rfl, fun i v hv => ?_⟩
    rw [List.getElem?_drop] at hv
    rw [Nat.add_assoc]
    exact hc _ _ hv
theorem CV.grown {u u' : World} {X p : Nat} {xs : List Value} (h : CV u X xs) (hg : u.grownBy u' (some p)) (hne : X ≠ p) : CV u' X xs := by
  have hn : ∀ j, some (⟨X, j, none⟩ : Addr).block ≠ some p := fun j e => hne (Option.some.inj e)
  exact ⟨Nat.lt_of_lt_of_le h.1 hg.size, fun i v hv => hg.cell (h.2.1 i v hv) (hn i), fun j => (frozen_far hg ⟨X, j, none⟩ h.1 (hn j)).trans (h.2.2 j)⟩

set_option maxHeartbeats 3200000 in
theorem draw2_any (p : Nat) (w : World) (hc : Cur w p) (hp : p < w.heap.size) :
    Calls Try.prog 57 #[.pointer (some ⟨p, 0, none⟩)] w fun e w' => ∃ a c b d ps ws, e = .returned (.agg #[.slice a (List.length ps) c, .slice b (List.length ws) d]) ∧ DChip w' w.heap.size a c b d ps ws ∧ Cur w' p ∧ w.grownBy w' (some p) := by
  obtain ⟨A, hA⟩ : ∃ A, A = w.alloc (Obj.cells #[.slice none 0 0, .slice none 0 0] 27) := ⟨_, rfl⟩
  have hbA : Below w.heap.size w A := by rw [hA]; exact (Below.refl _ _).alloc (Nat.le_refl _) _
  have hsA : A.heap.size = w.heap.size + 1 := by rw [hA]; simp
  have hz : Z2 A w.heap.size := by rw [hA]; exact z2_new _ _
  have HDR := hide (draw2R_any p A (hc.kept (hbA.mono (show p + 1 ≤ w.heap.size from hp))) (by omega))
  have HGA := hide (grown_then (World.grownBy.refl w (some p)) hbA (Nat.le_refl _))
  have HZ := hide hz
  have HSA := hide hsA
  clear hc hbA hsA hz
  go_enter Try.func57, Try.ntmps57
  go_wp2_with fail
  rw [← hA]
  clear hA
  refine HDR.out.mono ?_
  rintro e w1 ⟨a, c, b, d, ps, ws, rfl, ho, hok, hc1, hg1⟩
  obtain ⟨V, hV⟩ : ∃ V, V = w1.alloc (Obj.cells #[.slice a ps.length c, .slice b ws.length d] 27) := ⟨_, rfl⟩
  have hbV : Below w1.heap.size w1 V := by rw [hV]; exact (Below.refl _ _).alloc (Nat.le_refl _) _
  have hcx : CV V w1.heap.size [.slice a ps.length c, .slice b ws.length d] := by rw [hV]; exact cv_new _ _ _
  have hs1 := hg1.size
  have hcV := hc1.kept (hbV.mono (show p + 1 ≤ w1.heap.size by have := HSA.out; omega))
  have HBL := hide (below_any p 15 V hcV (by omega))
  have HOV := hide (ho.below hbV)
  have HOK := hide hok
  have HGV := hide (grown_then (grown_trans HGA.out hg1) hbV (by have := HSA.out; omega))
  have HZV := hide ((HZ.out.grown hg1 (by omega)).below hbV)
  have HX := hide hcx
  have HBX : Hid ((∀ x, a = some x → x.block < w1.heap.size) ∧ ∀ x, b = some x → x.block < w1.heap.size) := by
    obtain ⟨v1, v2, hv, o1, o2, hne⟩ := ho
    injection hv with hv
    simp at hv
    obtain ⟨rfl, rfl⟩ := hv
    exact ⟨fun x hx => by subst hx; exact (o1.lt x.block rfl).2, fun x hx => by subst hx; exact (o2.lt x.block rfl).2⟩
  clear ho hok hc1 hg1 HDR HZ HGA hbV hcx hcV
  go_wp2_with fail
  rw [← hV]
  clear hV
  have HXL : Hid (w.heap.size < w1.heap.size) := by show _ < _; have := HSA.out; omega
  generalize w1.heap.size = X at HX HXL HBX ⊢
  refine HBL.out.mono ?_
  rintro e w2 ⟨n, rfl, hn0, hn1, -, hc2, hg2⟩
  have hn1 := hn1 (by omega)
  have HG2 := hide (grown_trans HGV.out hg2)
  have HC2 := hide hc2
  have hpX : X ≠ p := by have := HXL.out; omega
  have hcx := HX.out.grown hg2 hpX
  have x0 := hcx.2.1 0 _ rfl
  have x1 := hcx.2.1 1 _ rfl
  have xf0 := hcx.2.2 0
  have xf1 := hcx.2.2 1
  obtain ⟨⟨z0, z1⟩, zf⟩ := HZV.out.grown hg2 (show w.heap.size ≠ p by omega)
  have zf0 := zf 0
  have zf1 := zf 1
  have HZF := hide zf
  have hXw : ¬ X = w.heap.size := by have := HXL.out; omega
  have hwX : ¬ w.heap.size = X := by have := HXL.out; omega
  have hown2 : ChipOwn w2 A.heap.size (.agg #[.slice a ps.length c, .slice b ws.length d]) ps ws := by
    obtain ⟨v1, v2, hv, o1, o2, hne⟩ := HOV.out
    exact ⟨v1, v2, hv, owns_grown o1 hg2 (by have := HSA.out; omega), owns_grown o2 hg2 (by have := HSA.out; omega), hne⟩
  have hdc := dchip_of hown2 HOK.out
  rw [HSA.out] at hdc
  have hab : (∀ x, a = some x → x.block ≠ X) ∧ ∀ x, b = some x → x.block ≠ X := ⟨fun x hx => by have := HBX.out.1 x hx; omega, fun x hx => by have := HBX.out.2 x hx; omega⟩
  have HDC := hide hdc
  have HOW2 := hide hown2
  have HAB := hide hab
  clear hn0 hcx zf HX HZV HOV hdc hown2 hab hc2 hg2 HGV HBL
  by_cases n0 : n = 0
  · subst n0
    obtain ⟨v1, v2, hv, o1, o2, hne⟩ := id HOW2.out
    injection hv with hv
    simp at hv
    obtain ⟨rfl, rfl⟩ := hv
    obtain ⟨g, kg, hg, -, -⟩ := owns_form o1 (by have := HOK.out.1; omega)
    injection hg with hg1 _ hg2
    subst hg1 hg2
    have hl60 : 60 ≤ ps.length ∧ ps.length ≤ 60 := by have := HOK.out.1; omega
    have hcap := owns_cap o1
    have h1l : (1 : Int) ≤ (ps.length : Int) := by omega
    have h1c : (1 : Int) ≤ (c : Int) := by omega
    have h1n : 1 ≤ ps.length := by omega
    have hD0 : DChip (w2.setCell ⟨X, 0, none⟩ (.slice (some ⟨g, 1, none⟩) (ps.length - 1) (c - 1))) (w.heap.size + 1) (some ⟨g, 1, none⟩) (c - 1) b d (ps.drop 1) ws := by
      obtain ⟨⟨r1, r2⟩, l1, l2, c1, n1, s1⟩ := HDC.out.aside HAB.out.1 HAB.out.2 0 (.slice (some ⟨g, 1, none⟩) (ps.length - 1) (c - 1))
      refine ⟨⟨?_, r2⟩, fun x hx => ?_, l2, ⟨by rw [List.length_drop]; omega, c1.2⟩, ⟨by rw [List.length_drop]; omega, n1.2⟩, fun s hs => s1 s (List.mem_of_mem_drop hs)⟩
      · have h := rd_dropd r1 1
        have e : vsString (ps.drop 1) = (vsString ps).drop 1 := List.map_drop
        rw [e]
        simpa using h
      · cases hx; exact l1 ⟨g, 0, none⟩ rfl
    have hGX : w.grownBy (w2.setCell ⟨X, 0, none⟩ (.slice (some ⟨g, 1, none⟩) (ps.length - 1) (c - 1))) (some p) := grown_then HG2.out ((Below.refl w.heap.size w2).setCell (p := ⟨X, 0, none⟩) (Nat.le_of_lt HXL.out) _) (Nat.le_refl _)
    have hCX : Cur (w2.setCell ⟨X, 0, none⟩ (.slice (some ⟨g, 1, none⟩) (ps.length - 1) (c - 1))) p := HC2.out.kept (((Below.refl w.heap.size w2).setCell (p := ⟨X, 0, none⟩) (Nat.le_of_lt HXL.out) _).mono (show p + 1 ≤ w.heap.size from hp))
    have HFI := hide (d2_fin hD0 hCX hGX hp (.slice (some ⟨g, 1, none⟩) (ps.length - 1) (c - 1)) (.slice b ws.length d))
    clear hD0 hGX hCX o1 o2 hne
    go_wp2_with fail
    exact bodyPost_ret (v := .agg #[.slice (some ⟨g, 1, none⟩) (ps.length - 1) (c - 1), .slice b ws.length d]) (by simp [results, Try.results57, go_sem, z0, z1]) rfl ⟨_, _, _, _, ps.drop 1, _, (by rw [List.length_drop]), HFI.out⟩
  by_cases n1 : n = 1
  · subst n1
    obtain ⟨v1, v2, hv, o1, o2, hne⟩ := id HOW2.out
    injection hv with hv
    simp at hv
    obtain ⟨rfl, rfl⟩ := hv
    obtain ⟨g, kg, hg, -, -⟩ := owns_form o2 (by have := HOK.out.2.1; omega)
    injection hg with hg1 _ hg2
    subst hg1 hg2
    have hlo : w.heap.size < g := by have := (o2.lt g rfl).1; have := HSA.out; omega
    have hgX : g ≠ X := HAB.out.2 ⟨g, 0, none⟩ rfl
    have HO2 := hide o2
    have HST : Hid (∀ (u : World) (k : Nat) (y : Int), w2.grownBy u (some p) → k < 10 → (∃ x, u.cell? ⟨g, k, none⟩ = some x) ∧ u.frozen? ⟨g, k, none⟩ = false ∧ DChip (u.setCell ⟨g, k, none⟩ (.int .i64 y)) (w.heap.size + 1) a c (some ⟨g, 0, none⟩) d ps (ws.set k y)) := by
      intro u k y hu hk
      have hou := owns_grown o2 hu (by have := HSA.out; omega)
      have hoa := owns_grown o1 hu (by have := HSA.out; omega)
      have hst := hou.stored k (.int .i64 y)
      have hll : (vsInt ws).length = ws.length := by simp
      refine ⟨⟨(vsInt ws)[k]'(by rw [hll, HOK.out.2.1]; exact hk), by rw [hou.cellAt k (by rw [HOK.out.2.1]; omega)]; exact List.getElem?_eq_getElem _⟩, hou.frozenAt k, ?_⟩
      have e : (vsInt ws).set k (.int .i64 y) = vsInt (ws.set k y) := by simp [vsInt, List.map_set]
      rw [e] at hst
      have hD := HDC.out.grown hu (by omega)
      obtain ⟨⟨r1, r2⟩, l1, l2, c1, n1, s1⟩ := hD
      refine ⟨⟨?_, ?_⟩, l1, l2, ⟨c1.1, by rw [List.length_set]; exact c1.2⟩, ⟨n1.1, by rw [List.length_set]; exact n1.2⟩, s1⟩
      · exact rd_set r1 (fun x hx => by intro e; subst hx; exact hne x.block rfl (by rw [e]; rfl)) k _
      · have h2 : World.ownsRow (u.setCell ⟨g, k, none⟩ (.int .i64 y)) A.heap.size 3 1 (.slice (some ⟨g, 0, none⟩) (ws.set k y).length d) (ws.set k y).length (vsInt (ws.set k y)) := by rw [List.length_set]; exact hst.1
        exact rd_of_own h2
    have hlw : 10 ≤ ws.length ∧ ws.length ≤ 10 := by have := HOK.out.2.1; omega
    have HKX : Hid (∀ u, w2.grownBy u (some p) → u.cell? ⟨X, 0, none⟩ = some (.slice a ps.length c) ∧ u.cell? ⟨X, 1, none⟩ = some (.slice (some ⟨g, 0, none⟩) ws.length d)) := fun u hu =>
      ⟨hu.cell x0 (fun e => hpX (Option.some.inj e)), hu.cell x1 (fun e => hpX (Option.some.inj e))⟩
    have hpw : p < w2.heap.size := by have := HG2.out.size; omega
    clear o1 o2 hne
    go_wp2_with fail
    go_region_held (fun u => u.cell? ⟨X, 0, none⟩ = some (.slice a ps.length c) ∧ u.cell? ⟨X, 1, none⟩ = some (.slice (some ⟨g, 0, none⟩) ws.length d)) (first | assumption | go_keep | exact ⟨cell_other hS4.1 hgX, cell_other hS4.2 hgX⟩)
      ((first
        | (go_at_call 64; refine (below_any p 10 (w2.alloc (Obj.cells #[.int .i64 (-1), .int .i64 1000000000, .int .i64 1000000001] 3)).drew (HC2.out.kept ((((Below.refl _ _).alloc (Nat.le_refl _) _).drew).mono (B := w2.heap.size) (by omega))) (by omega)).mono ?_; rintro e w3 ⟨x, rfl, hx0, hx1, -, hc3, hg3⟩; have hx1 := hx1 (by omega); obtain ⟨k, rfl⟩ : ∃ k : Nat, x = k := ⟨x.toNat, by omega⟩; have HG3 : Hid (w2.grownBy w3 (some p)) := grown_trans (grown_then (World.grownBy.refl w2 (some p)) (B := w2.heap.size) (((Below.refl _ _).alloc (Nat.le_refl _) _).drew) (Nat.le_refl _)) hg3; have HC3 := hide hc3; have hS3 := HKX.out w3 HG3.out; have hkI : (k : Int) < 10 := hx1; have RL : Hid (Rd w3 (some ⟨w2.heap.size, 0, none⟩) (([-1, 1000000000, 1000000001] : List Int).map (Value.int .i64))) := (show Rd (w2.alloc (Obj.cells #[.int .i64 (-1), .int .i64 1000000000, .int .i64 1000000001] 3)).drew _ _ from rd_lit w2 #[.int .i64 (-1), .int .i64 1000000000, .int .i64 1000000001] 3).grown hg3 (by intro x hx; cases hx; show w2.heap.size ≠ p; omega); clear hc3 hg3 hx0 hx1)
        | (go_at_call 64; refine (below_any p 10 w2.drew (HC2.out.drewN 1) (by omega)).mono ?_; rintro e w3 ⟨x, rfl, hx0, hx1, -, hc3, hg3⟩; have hx1 := hx1 (by omega); obtain ⟨k, rfl⟩ : ∃ k : Nat, x = k := ⟨x.toNat, by omega⟩; have HG3 : Hid (w2.grownBy w3 (some p)) := grown_trans (grown_then (World.grownBy.refl w2 (some p)) (B := w2.heap.size) (after_drew (Below.refl _ _) 1) (Nat.le_refl _)) hg3; have HC3 := hide hc3; have hS3 := HKX.out w3 HG3.out; have hkI : (k : Int) < 10 := hx1; clear hc3 hg3 hx0 hx1)
        | (go_at_call_of 68 (Value.slice (some ⟨w2.heap.size, 0, none⟩) 3 3); refine (pickInt_any p (some ⟨w2.heap.size, 0, none⟩) ([-1, 1000000000, 1000000001] : List Int) 3 3 w3 rfl HC3.out RL.out (by intro x hx; cases hx; show w2.heap.size ≠ p; omega) (by decide) (by decide)).mono ?_; rintro e w4 ⟨y, rfl, -, hc4, hg4⟩; have HG4 := hide (grown_trans HG3.out hg4); have HC4 := hide hc4; have hS4 := HKX.out w4 HG4.out; obtain ⟨⟨old, hold⟩, hfz4, hD4⟩ := HST.out w4 k y HG4.out (by omega); have HD4 := hide hD4; clear hc4 hg4 hD4)
        | (go_at_call_of 68 (Value.slice (some ⟨w3.heap.size, 0, none⟩) 3 3); refine (pickInt_any p (some ⟨w3.heap.size, 0, none⟩) ([-1, 1000000000, 1000000001] : List Int) 3 3 (w3.alloc (Obj.cells #[.int .i64 (-1), .int .i64 1000000000, .int .i64 1000000001] 3)) rfl (HC3.out.kept (((Below.refl w3.heap.size w3).alloc (Nat.le_refl _) _).mono (by have := HG3.out.size; omega))) (rd_lit w3 #[.int .i64 (-1), .int .i64 1000000000, .int .i64 1000000001] 3) (by intro x hx; cases hx; have := HG3.out.size; show w3.heap.size ≠ p; omega) (by decide) (by decide)).mono ?_; rintro e w4 ⟨y, rfl, -, hc4, hg4⟩; have HG4 := hide (grown_trans (grown_then HG3.out (B := w3.heap.size) ((Below.refl _ _).alloc (Nat.le_refl _) _) HG3.out.size) hg4); have HC4 := hide hc4; have hS4 := HKX.out w4 HG4.out; obtain ⟨⟨old, hold⟩, hfz4, hD4⟩ := HST.out w4 k y HG4.out (by omega); have HD4 := hide hD4; clear hc4 hg4 hD4)))
    all_goals
      have hgw4 := grown_trans HG2.out HG4.out
      have hbS : Below w.heap.size w4 (w4.setCell ⟨g, k, none⟩ (.int .i64 y)) := (Below.refl _ _).setCell (p := ⟨g, k, none⟩) (Nat.le_of_lt hlo) _
      have hGX : w.grownBy (w4.setCell ⟨g, k, none⟩ (.int .i64 y)) (some p) := grown_then hgw4 hbS (Nat.le_refl _)
      have hCX : Cur (w4.setCell ⟨g, k, none⟩ (.int .i64 y)) p := HC4.out.kept (hbS.mono (show p + 1 ≤ w.heap.size from hp))
      have HFI := hide (d2_fin HD4.out hCX hGX hp (.slice a ps.length c) (.slice (some ⟨g, 0, none⟩) ws.length d))
      obtain ⟨⟨z0, z1⟩, zf⟩ := (show Z2 w2 w.heap.size from ⟨⟨z0, z1⟩, HZF.out⟩).grown HG4.out (show w.heap.size ≠ p by omega)
      have zf0 := zf 0
      have zf1 := zf 1
      obtain ⟨x0, x1⟩ := hS4
      have hgw : ¬ g = w.heap.size := by omega
      have hwg : ¬ w.heap.size = g := by omega
      clear hGX hCX hbS hgw4 zf
      go_wp2
      exact bodyPost_ret (v := .agg #[.slice a ps.length c, .slice (some ⟨g, 0, none⟩) ws.length d]) (by simp [results, Try.results57, go_sem, z0, z1]) rfl ⟨_, _, _, _, _, ws.set k y, (by rw [List.length_set]), HFI.out⟩
  by_cases n2 : n = 2
  · subst n2
    obtain ⟨v1, v2, hv, o1, o2, hne⟩ := id HOW2.out
    injection hv with hv
    simp at hv
    obtain ⟨rfl, rfl⟩ := hv
    obtain ⟨g, kg, hg, -, -⟩ := owns_form o1 (by have := HOK.out.1; omega)
    injection hg with hg1 _ hg2
    subst hg1 hg2
    have hlo : w.heap.size < g := by have := (o1.lt g rfl).1; have := HSA.out; omega
    have hgX : g ≠ X := HAB.out.1 ⟨g, 0, none⟩ rfl
    have HST : Hid (∀ (u : World) (k : Nat) (y : ByteArray), w2.grownBy u (some p) → k < 60 → y.size ≤ 401 → (∃ x, u.cell? ⟨g, k, none⟩ = some x) ∧ u.frozen? ⟨g, k, none⟩ = false ∧ DChip (u.setCell ⟨g, k, none⟩ (.string y)) (w.heap.size + 1) (some ⟨g, 0, none⟩) c b d (ps.set k y) ws) := by
      intro u k y hu hk hy
      have hou := owns_grown o1 hu (by have := HSA.out; omega)
      have hst := hou.stored k (.string y)
      have hll : (vsString ps).length = ps.length := by simp
      refine ⟨⟨(vsString ps)[k]'(by rw [hll, HOK.out.1]; exact hk), by rw [hou.cellAt k (by rw [HOK.out.1]; omega)]; exact List.getElem?_eq_getElem _⟩, hou.frozenAt k, ?_⟩
      have e : (vsString ps).set k (.string y) = vsString (ps.set k y) := by simp [vsString, List.map_set]
      rw [e] at hst
      have hD := HDC.out.grown hu (by omega)
      obtain ⟨⟨r1, r2⟩, l1, l2, c1, n1, s1⟩ := hD
      refine ⟨⟨?_, ?_⟩, l1, l2, ⟨by rw [List.length_set]; exact c1.1, c1.2⟩, ⟨by rw [List.length_set]; exact n1.1, n1.2⟩, fun z hz => ?_⟩
      · have h2 : World.ownsRow (u.setCell ⟨g, k, none⟩ (.string y)) A.heap.size 9 1 (.slice (some ⟨g, 0, none⟩) (ps.set k y).length c) (ps.set k y).length (vsString (ps.set k y)) := by rw [List.length_set]; exact hst.1
        exact rd_of_own h2
      · exact rd_set r2 (fun x hx => by intro e; subst hx; exact hne g rfl (by show some x.block = some g; rw [e])) k _
      · rcases List.mem_or_eq_of_mem_set hz with h | rfl
        · exact s1 z h
        · omega
    have hlw : 60 ≤ ps.length ∧ ps.length ≤ 60 := by have := HOK.out.1; omega
    have HKX : Hid (∀ u, w2.grownBy u (some p) → u.cell? ⟨X, 0, none⟩ = some (.slice (some ⟨g, 0, none⟩) ps.length c) ∧ u.cell? ⟨X, 1, none⟩ = some (.slice b ws.length d)) := fun u hu =>
      ⟨hu.cell x0 (fun e => hpX (Option.some.inj e)), hu.cell x1 (fun e => hpX (Option.some.inj e))⟩
    have hpw : p < w2.heap.size := by have := HG2.out.size; omega
    clear o1 o2 hne
    go_wp2_with fail
    go_region_held (fun u => u.cell? ⟨X, 0, none⟩ = some (.slice (some ⟨g, 0, none⟩) ps.length c) ∧ u.cell? ⟨X, 1, none⟩ = some (.slice b ws.length d)) (first | assumption | go_keep | exact ⟨cell_other hS4.1 hgX, cell_other hS4.2 hgX⟩)
      ((first
        | (go_at_call 64; refine (below_any p 60 w2.drew (HC2.out.drewN 1) (by omega)).mono ?_; rintro e w3 ⟨x, rfl, hx0, hx1, -, hc3, hg3⟩; have hx1 := hx1 (by omega); obtain ⟨k, rfl⟩ : ∃ k : Nat, x = k := ⟨x.toNat, by omega⟩; have HG3 : Hid (w2.grownBy w3 (some p)) := grown_trans (grown_then (World.grownBy.refl w2 (some p)) (B := w2.heap.size) (after_drew (Below.refl _ _) 1) (Nat.le_refl _)) hg3; have HC3 := hide hc3; have hS3 := HKX.out w3 HG3.out; have hkI : (k : Int) < 60 := hx1; clear hc3 hg3 hx0 hx1)
        | (go_at_call 59; refine (drawText_any p w3 HC3.out (by have := HG3.out.size; omega)).mono ?_; rintro e w4 ⟨y, rfl, hy, hc4, hg4⟩; have HG4 := hide (grown_trans HG3.out hg4); have HC4 := hide hc4; have hS4 := HKX.out w4 HG4.out; obtain ⟨⟨old, hold⟩, hfz4, hD4⟩ := HST.out w4 k y HG4.out (by omega) hy; have HD4 := hide hD4; clear hc4 hg4 hD4 hy)))
    have hgw4 := grown_trans HG2.out HG4.out
    have hbS : Below w.heap.size w4 (w4.setCell ⟨g, k, none⟩ (.string y)) := (Below.refl _ _).setCell (p := ⟨g, k, none⟩) (Nat.le_of_lt hlo) _
    have hGX : w.grownBy (w4.setCell ⟨g, k, none⟩ (.string y)) (some p) := grown_then hgw4 hbS (Nat.le_refl _)
    have hCX : Cur (w4.setCell ⟨g, k, none⟩ (.string y)) p := HC4.out.kept (hbS.mono (show p + 1 ≤ w.heap.size from hp))
    have HFI := hide (d2_fin HD4.out hCX hGX hp (.slice (some ⟨g, 0, none⟩) ps.length c) (.slice b ws.length d))
    obtain ⟨⟨z0, z1⟩, zf⟩ := (show Z2 w2 w.heap.size from ⟨⟨z0, z1⟩, HZF.out⟩).grown HG4.out (show w.heap.size ≠ p by omega)
    have zf0 := zf 0
    have zf1 := zf 1
    obtain ⟨x0, x1⟩ := hS4
    have hgw : ¬ g = w.heap.size := by omega
    have hwg : ¬ w.heap.size = g := by omega
    clear hGX hCX hbS hgw4 zf
    go_wp2
    exact bodyPost_ret (v := .agg #[.slice (some ⟨g, 0, none⟩) ps.length c, .slice b ws.length d]) (by simp [results, Try.results57, go_sem, z0, z1]) rfl ⟨_, _, _, _, ps.set k y, _, (by rw [List.length_set]), HFI.out⟩
  by_cases n3 : n = 3
  · subst n3
    have hD0 : DChip (w2.setCell ⟨X, 1, none⟩ (.slice none 0 0)) (w.heap.size + 1) a c none 0 ps [] := by
      obtain ⟨⟨r1, r2⟩, l1, l2, c1, n1, s1⟩ := HDC.out.aside HAB.out.1 HAB.out.2 1 (.slice none 0 0)
      exact ⟨⟨r1, .inl rfl⟩, l1, fun x hx => (by cases hx), ⟨c1.1, Nat.le_refl _⟩, ⟨n1.1, Nat.zero_le _⟩, s1⟩
    have hGX : w.grownBy (w2.setCell ⟨X, 1, none⟩ (.slice none 0 0)) (some p) := grown_then HG2.out ((Below.refl w.heap.size w2).setCell (p := ⟨X, 1, none⟩) (Nat.le_of_lt HXL.out) _) (Nat.le_refl _)
    have hCX : Cur (w2.setCell ⟨X, 1, none⟩ (.slice none 0 0)) p := HC2.out.kept (((Below.refl w.heap.size w2).setCell (p := ⟨X, 1, none⟩) (Nat.le_of_lt HXL.out) _).mono (show p + 1 ≤ w.heap.size from hp))
    have HFI := hide (d2_fin hD0 hCX hGX hp (.slice a ps.length c) (.slice none 0 0))
    clear hD0 hGX hCX
    go_wp2_with fail
    exact bodyPost_ret (v := .agg #[.slice a ps.length c, .slice none 0 0]) (by simp [results, Try.results57, go_sem, z0, z1]) rfl ⟨_, _, _, _, _, [], rfl, HFI.out⟩
  have HFI := hide (d2_fin HDC.out HC2.out HG2.out hp (.slice a ps.length c) (.slice b ws.length d))
  go_wp2_with fail
  exact bodyPost_ret (v := .agg #[.slice a ps.length c, .slice b ws.length d]) (by simp [results, Try.results57, go_sem, z0, z1]) rfl ⟨_, _, _, _, _, _, rfl, HFI.out⟩

end Go.Proofs.Ytelbannfbglgcaa
