/-
  For the walk of FnMounted: sameTexts of equal rows; what Mount, RecRead, FtlOk and View answer of what was drawn.
  The walk of the law FnMounted.
-/
import Derived.Test.YtelbannfbglgcaaJMounted34
import Derived.Test.YtelbannfbglgcaaJMounted35
import Derived.Test.YtelbannfbglgcaaJMounted31
import Derived.Test.YtelbannfbglgcaaJMounted33
import Derived.Deep.DeepCutAuto
namespace Go.Proofs.Ytelbannfbglgcaa
open Go.RowKit

set_option maxHeartbeats 400000 in
theorem sameTexts_any (a b : Option Addr) (xs : List ByteArray) (c d : Nat) (w : World) (hr : Rd w a (vsString xs)) (hs : Rd w b (vsString xs)) (hm : xs.length ≤ 1048576) :
    Calls Try.prog 20 #[.slice a xs.length c, .slice b xs.length d] w fun e w' => e = .returned (.bool true) ∧ Below w.heap.size w w' := by
  have HR := hide hr
  have HS := hide hs
  clear hr hs
  go_enter Try.func20, Try.ntmps20
  go_wp2
  go_loopw [5] (fun i wr => ∃ k : Nat, k ≤ xs.length ∧ i = .int .i64 k ∧ ∃ n, wr = w.drewN n) (fun i _ => xs.length - (intOf i).toNat)
  case atStart => exact ⟨0, Nat.zero_le _, rfl, 0, rfl⟩
  case round =>
    obtain ⟨k, hk, rfl, n, rfl⟩ := hrel
    by_cases hlt : k < xs.length
    · obtain ⟨ba, oa, z, rfl, hck, HZ⟩ := rdString_at HR.out hlt
      obtain ⟨bb, ob, y, rfl, hcy, HY⟩ := rdString_at HS.out hlt
      have hzy : z = y := by have h := HZ.out; rw [HY.out] at h; exact (Option.some.inj h).symm
      subst hzy
      have hki : (k : Int) < (xs.length : Int) := by omega
      have ht : (z.toList != z.toList) = false := by simp
      go_wp2
      go_quiet (fail)
      go_wp2
      go_roundw
      case rel => exact ⟨k + 1, by omega, by go_num, _, rfl⟩
      case measure => simp [intOf]; omega
    · have hkl : k = xs.length := by omega
      subst hkl
      go_wp2
      go_ret
      exact ⟨rfl, after_drew (Below.refl _ _) n⟩

/-- A record of a page: its sector's page has one of its sector, no smaller; and the chip's number is no smaller. -/
theorem mounted_best {ps : List ByteArray} {p : Nat} (hp : p < 60) {s q : Int} {d : ByteArray} (h : recR (ps[p]?.getD ByteArray.empty) = some (s, q, d)) :
    ∃ (S P : Nat) (b : Int) (d' : ByteArray), s = (S : Int) ∧ S < 26 ∧ (mMap ps)[S]? = some (P : Int) ∧ P < 60 ∧ recR (ps[P]?.getD ByteArray.empty) = some ((S : Int), b, d') ∧ q ≤ b ∧ q ≤ mSeq ps := by
  have hr := recR_sector h
  obtain ⟨S, rfl⟩ : ∃ S : Nat, s = S := ⟨s.toNat, by omega⟩
  have hS : S < 26 := by omega
  obtain ⟨o, b, h1, h2⟩ := map_best ps hS
  have hq : q ≤ mSeq ps := by
    have h3 := seqIs_last ps
    rw [mSeq_is ps h3]
    have := h3.2.1 p hp _ _ _ h
    omega
  rcases h2 with ⟨-, -, h3⟩ | ⟨P, d', hP, rfl, h4, h5⟩
  · exact absurd h (h3 p hp q d)
  · refine ⟨S, P, b, d', rfl, hS, h1, hP, h4, ?_, hq⟩
    have := h5 p hp q d h
    omega

/-- Mount of a drawn chip: both answer it. -/
theorem mount_law (ps : List ByteArray) (ws : List Int) (hk0 : ps.length ≤ 60) (hk1 : ws.length ≤ 10) (hs : ∀ s ∈ ps, s.size ≤ 1048576) :
    ∃ (PS : List ByteArray) (WS MS : List Int) (Q : Int), (PS.length ≤ 60 ∧ WS.length ≤ 10 ∧ MS.length ≤ 26) ∧ (chipOkP ps ws → PS = ps ∧ WS = ws ∧ MS = mMap ps ∧ Q = mSeq ps) ∧ (¬ chipOkP ps ws → MS = []) ∧
      Hid (∀ (u : World) (v : Value), ChipRd u v ps ws → Calls Try.prog 28 #[v] u fun e w' => ∃ a b e0 c d f, e = .returned (.agg #[.slice a PS.length c, .slice b WS.length d, .slice e0 MS.length f, .int .i64 Q]) ∧ (Rd w' a (vsString PS) ∧ Rd w' b (vsInt WS) ∧ Rd w' e0 (vsInt MS)) ∧ Below u.heap.size u w') ∧
      Hid (∀ (u : World) (v : Value), ChipRd u v ps ws → Calls Try.prog 27 #[v] u fun e w' => ∃ a b e0 c d f, e = .returned (.agg #[.slice a PS.length c, .slice b WS.length d, .slice e0 MS.length f, .int .i64 Q]) ∧ (Rd w' a (vsString PS) ∧ Rd w' b (vsInt WS) ∧ Rd w' e0 (vsInt MS)) ∧ Below u.heap.size u w') := by
  have hop : ∀ {w' : World} {n : Nat} {v : Value} {PS : List ByteArray} {WS MS : List Int} {Q : Int}, FtlOwn w' n v PS WS MS Q → ∃ a b e0 c d f, v = .agg #[.slice a PS.length c, .slice b WS.length d, .slice e0 MS.length f, .int .i64 Q] ∧ (Rd w' a (vsString PS) ∧ Rd w' b (vsInt WS) ∧ Rd w' e0 (vsInt MS)) := by
    intro w' n v PS WS MS Q h
    obtain ⟨a, c, b, d, e, f, rfl, h1, h2, h3⟩ := h.rd
    exact ⟨a, b, e, c, d, f, rfl, h1, h2, h3⟩
  by_cases hok : chipOkP ps ws
  · refine ⟨ps, ws, mMap ps, mSeq ps, ⟨hk0, hk1, by rw [mMap_len]; decide⟩, fun _ => ⟨rfl, rfl, rfl, rfl⟩, fun h => absurd hok h, ?_, ?_⟩
    · rintro u v ⟨a, c, b, d, rfl, h1, h2⟩
      refine (specMount_ok a b ps ws c d u h1 h2 hok).mono ?_
      rintro e w' ⟨v, rfl, h, hb⟩
      obtain ⟨a, b, e0, c, d, f, rfl, h3⟩ := hop h
      exact ⟨a, b, e0, c, d, f, rfl, h3, hb⟩
    · rintro u v ⟨a, c, b, d, rfl, h1, h2⟩
      refine (implMount_ok a b ps ws c d u h1 h2 hok).mono ?_
      rintro e w' ⟨v, rfl, h, hb⟩
      obtain ⟨a, b, e0, c, d, f, rfl, h3⟩ := hop h
      exact ⟨a, b, e0, c, d, f, rfl, h3, hb⟩
  · refine ⟨[], [], [], 0, ⟨by decide, by decide, by decide⟩, fun h => absurd h hok, fun _ => rfl, ?_, ?_⟩
    · rintro u v ⟨a, c, b, d, rfl, h1, h2⟩
      refine (specMount_bad a b ps ws c d u h1 h2 (by omega) (by omega) hs hok).mono ?_
      rintro e w' ⟨v, rfl, h, hb⟩
      obtain ⟨a, b, e0, c, d, f, rfl, h3⟩ := hop h
      exact ⟨a, b, e0, c, d, f, rfl, h3, hb⟩
    · rintro u v ⟨a, c, b, d, rfl, h1, h2⟩
      refine (implMount_bad a b ps ws c d u h1 h2 (by omega) (by omega) hs hok).mono ?_
      rintro e w' ⟨v, rfl, h, hb⟩
      obtain ⟨a, b, e0, c, d, f, rfl, h3⟩ := hop h
      exact ⟨a, b, e0, c, d, f, rfl, h3, hb⟩

/-- A record's variable that a drawn region makes: early (and stores into it) or late. -/
def RVar (A u : World) (B : Nat) (s q : Int) (d : ByteArray) : Prop :=
  (u.cell? ⟨B, 0, none⟩ = some (.int .i64 s) ∧ u.cell? ⟨B, 1, none⟩ = some (.int .i64 q) ∧ u.cell? ⟨B, 2, none⟩ = some (.string d)) ∧ Below A.heap.size A u
theorem rvar_late {A u : World} {s q : Int} {d : ByteArray} {t : TypeId} (hb : Below A.heap.size A u) :
    RVar A (u.alloc (Obj.cells #[.int .i64 s, .int .i64 q, .string d] t)) u.heap.size s q d :=
  ⟨⟨by simp, by simp, by simp⟩, hb.alloc hb.size _⟩
theorem rvar_aux {A w1 : World} (hb : Below (A.alloc (Obj.cells #[.int .i64 0, .int .i64 0, .string ⟨#[]⟩] 50)).drew.heap.size (A.alloc (Obj.cells #[.int .i64 0, .int .i64 0, .string ⟨#[]⟩] 50)).drew w1) :
    Hid (Below A.heap.size A.drew w1) ∧ (w1.cell? ⟨A.heap.size, 0, none⟩ = some (.int .i64 0) ∧ w1.cell? ⟨A.heap.size, 1, none⟩ = some (.int .i64 0) ∧ w1.cell? ⟨A.heap.size, 2, none⟩ = some (.string ⟨#[]⟩)) ∧ ∀ j, w1.frozen? ⟨A.heap.size, j, none⟩ = false := by
  have hsz : (A.alloc (Obj.cells #[.int .i64 0, .int .i64 0, .string ⟨#[]⟩] 50)).drew.heap.size = A.heap.size + 1 := by simp
  refine ⟨(show Below A.heap.size A.drew (A.alloc (Obj.cells #[.int .i64 0, .int .i64 0, .string ⟨#[]⟩] 50)).drew from ?_).trans (hb.mono (by omega)), ⟨?_, ?_, ?_⟩, fun j => ?_⟩
  · have : Below A.heap.size A (A.alloc (Obj.cells #[.int .i64 0, .int .i64 0, .string ⟨#[]⟩] 50)) := (Below.refl _ A).alloc (Nat.le_refl _) _
    exact ⟨this.os, this.tape, this.output, this.size, this.block⟩
  · exact (hb.cell (p := ⟨A.heap.size, 0, none⟩) (by show A.heap.size < _; omega)).trans (by simp)
  · exact (hb.cell (p := ⟨A.heap.size, 1, none⟩) (by show A.heap.size < _; omega)).trans (by simp)
  · exact (hb.cell (p := ⟨A.heap.size, 2, none⟩) (by show A.heap.size < _; omega)).trans (by simp)
  · exact (hb.frozen (p := ⟨A.heap.size, j, none⟩) (by show A.heap.size < _; omega)).trans (by simp)
theorem rvar_early {A u : World} {x y z : Value} {s q : Int} {d : ByteArray} (hb : Below A.heap.size A u) (h0 : u.cell? ⟨A.heap.size, 0, none⟩ = some x) (h1 : u.cell? ⟨A.heap.size, 1, none⟩ = some y) (h2 : u.cell? ⟨A.heap.size, 2, none⟩ = some z) :
    RVar A (((u.setCell ⟨A.heap.size, 0, none⟩ (.int .i64 s)).setCell ⟨A.heap.size, 1, none⟩ (.int .i64 q)).setCell ⟨A.heap.size, 2, none⟩ (.string d)) A.heap.size s q d := by
  have k1 : (u.setCell ⟨A.heap.size, 0, none⟩ (.int .i64 s)).cell? ⟨A.heap.size, 1, none⟩ = some y := by simpa [go_sem] using h1
  have k2 : ((u.setCell ⟨A.heap.size, 0, none⟩ (.int .i64 s)).setCell ⟨A.heap.size, 1, none⟩ (.int .i64 q)).cell? ⟨A.heap.size, 2, none⟩ = some z := by simpa [go_sem] using h2
  refine ⟨⟨?_, ?_, World.cell?_setCell_same _ _ _ k2⟩, ((hb.setCell (Nat.le_refl _) _).setCell (Nat.le_refl _) _).setCell (Nat.le_refl _) _⟩
  · have := World.cell?_setCell_same _ _ (.int .i64 s) h0
    simpa [go_sem] using this
  · have := World.cell?_setCell_same _ _ (.int .i64 q) k1
    simpa [go_sem] using this
end Go.Proofs.Ytelbannfbglgcaa

namespace Go.Proofs.Ytelbannfbglgcaa
open Go.RowKit

set_option maxRecDepth 100000 in
set_option maxHeartbeats 12800000 in
theorem mounted_walk (la : Option Addr) (zs : List Int) (cap : Nat) (w : World) (hr : Rd w la (u8s zs)) (hb : IsBytes zs) (hm : zs.length ≤ 1048576) :
    Calls Try.prog 5 #[.slice la zs.length cap] w fun e w' => e = .returned (.bool true) ∧ Below w.heap.size w w' := by
  have hd : decide ((1048576 : Int) < zs.length) = false := by simp; omega
  have HR := hide hr
  have HBY := hide hb
  clear hr hb
  go_enter Try.func5, Try.ntmps5
  go_wp2_with fail
  refine (big_any _ _ _ _).mono ?_
  rw [hd]
  rintro e u ⟨rfl, hu⟩
  have hu' := hu.symm
  subst hu'
  clear hd hu
  go_wp2_with fail
  refine (DrawMount_any la zs cap w HR.out HBY.out hm).mono ?_
  rintro e w1 ⟨a, c, b, d, ps, ws, rfl, hd1, hb1⟩
  obtain ⟨W1, hW1⟩ : ∃ W1, W1 = w1.alloc (Obj.cells #[.slice a ps.length c, .slice b ws.length d] 27) := ⟨_, rfl⟩
  have hbW1 : Below w1.heap.size w1 W1 := by rw [hW1]; exact (Below.refl _ _).alloc (Nat.le_refl _) _
  have xC : At W1 w1.heap.size [.slice a ps.length c, .slice b ws.length d] := by rw [hW1]; exact at_new w1 [.slice a ps.length c, .slice b ws.length d] _
  have HD1 := hide (hd1.below hbW1)
  have HB1 := hide (after hb1 hbW1)
  have HXC := hide xC
  have HSZ := hide hd1.2.2.2.2.2
  have hln := hd1.2.2.2.2.1
  obtain ⟨PS, WS, MS, Q, hLN, hOK, hNO, HMS, HMI⟩ := mount_law ps ws hln.1 hln.2 HSZ.out
  have HOKM := hide hOK
  have HNOM := hide hNO
  have x0 : W1.cell? ⟨w1.heap.size, 0, none⟩ = some (.slice a ps.length c) := xC.2 0 (by simp)
  have x1 : W1.cell? ⟨w1.heap.size, 1, none⟩ = some (.slice b ws.length d) := xC.2 1 (by simp)
  clear hd1 hb1 hbW1 xC hOK hNO
  go_wp2_with fail
  rw [← hW1]
  clear hW1
  generalize w1.heap.size = C at HXC x0 x1 ⊢
  refine (HMI.out W1 _ HD1.out.chipRd).mono ?_
  rintro e w2 ⟨a2, b2, e2, c2, d2, f2, rfl, hr2, hb2⟩
  obtain ⟨W2, hW2⟩ : ∃ W2, W2 = w2.alloc (Obj.cells #[.slice a2 PS.length c2, .slice b2 WS.length d2, .slice e2 MS.length f2, .int .i64 Q] 47) := ⟨_, rfl⟩
  have hbW2 : Below w2.heap.size w2 W2 := by rw [hW2]; exact (Below.refl _ _).alloc (Nat.le_refl _) _
  have xE : At W2 w2.heap.size [.slice a2 PS.length c2, .slice b2 WS.length d2, .slice e2 MS.length f2, .int .i64 Q] := by rw [hW2]; exact at_new w2 [.slice a2 PS.length c2, .slice b2 WS.length d2, .slice e2 MS.length f2, .int .i64 Q] _
  have HD2 := hide (HD1.out.below (after hb2 hbW2))
  have HXC2 := hide (HXC.out.below (after hb2 hbW2))
  have HB2 := hide (after HB1.out (after hb2 hbW2))
  have HR2 := hide (And.intro (hr2.1.below hbW2) (And.intro (hr2.2.1.below hbW2) (hr2.2.2.below hbW2)))
  have HXE := hide xE
  have x0 : W2.cell? ⟨C, 0, none⟩ = some (.slice a ps.length c) := HXC2.out.2 0 (by simp)
  have x1 : W2.cell? ⟨C, 1, none⟩ = some (.slice b ws.length d) := HXC2.out.2 1 (by simp)
  clear hr2 hb2 hbW2 xE HD1 HXC HB1 HMI
  rw [hW2] at x0 x1
  go_wp2_with fail
  rw [← hW2]
  clear hW2
  generalize w2.heap.size = E at HXE ⊢
  refine (HMS.out W2 _ HD2.out.chipRd).mono ?_
  rintro e w3 ⟨a3, b3, e3, c3, d3, f3, rfl, hr3, hb3⟩
  obtain ⟨W3, hW3⟩ : ∃ W3, W3 = w3.alloc (Obj.cells #[.slice a3 PS.length c3, .slice b3 WS.length d3, .slice e3 MS.length f3, .int .i64 Q] 47) := ⟨_, rfl⟩
  have hbW3 : Below w3.heap.size w3 W3 := by rw [hW3]; exact (Below.refl _ _).alloc (Nat.le_refl _) _
  have xH : At W3 w3.heap.size [.slice a3 PS.length c3, .slice b3 WS.length d3, .slice e3 MS.length f3, .int .i64 Q] := by rw [hW3]; exact at_new w3 [.slice a3 PS.length c3, .slice b3 WS.length d3, .slice e3 MS.length f3, .int .i64 Q] _
  have hb23 := after hb3 hbW3
  have HD3 := hide (HD2.out.below hb23)
  have HXC3 := hide (HXC2.out.below hb23)
  have HXE3 := hide (HXE.out.below hb23)
  have HXH := hide xH
  have HB3 := hide (after HB2.out hb23)
  have HR3 := hide (And.intro (HR2.out.1.below hb23) (And.intro (HR2.out.2.1.below hb23) (HR2.out.2.2.below hb23)))
  have HSI := hide (sameInts_any e2 e3 MS f2 f3 W3 HR3.out.2.2 (hr3.2.2.below hbW3) (by omega))
  have y0 : W3.cell? ⟨E, 2, none⟩ = some (.slice e2 MS.length f2) := HXE3.out.2 2 (by simp)
  have z0 : W3.cell? ⟨w3.heap.size, 2, none⟩ = some (.slice e3 MS.length f3) := HXH.out.2 2 (by simp)
  clear hr3 hb3 hbW3 xH hb23 HD2 HXC2 HB2 HR2 HXE HMS x0 x1 z0
  rw [hW3] at y0
  go_wp2_with fail
  rw [← hW3]
  clear hW3
  generalize w3.heap.size = H at HXH ⊢
  refine HSI.out.mono ?_
  rintro e w4 ⟨rfl, hb4⟩
  have HD4 := hide (HD3.out.below hb4)
  have HXC4 := hide (HXC3.out.below hb4)
  have HXE4 := hide (HXE3.out.below hb4)
  have HXH4 := hide (HXH.out.below hb4)
  have HB4 := hide (after HB3.out hb4)
  have HR4 := hide (And.intro (HR3.out.1.below hb4) (And.intro (HR3.out.2.1.below hb4) (HR3.out.2.2.below hb4)))
  have x0 : w4.cell? ⟨C, 0, none⟩ = some (.slice a ps.length c) := HXC4.out.2 0 (by simp)
  have x1 : w4.cell? ⟨C, 1, none⟩ = some (.slice b ws.length d) := HXC4.out.2 1 (by simp)
  have y1 : w4.cell? ⟨E, 3, none⟩ = some (.int .i64 Q) := HXE4.out.2 3 (by simp)
  have y2 : w4.cell? ⟨E, 0, none⟩ = some (.slice a2 PS.length c2) := HXE4.out.2 0 (by simp)
  have z1 : w4.cell? ⟨H, 3, none⟩ = some (.int .i64 Q) := HXH4.out.2 3 (by simp)
  have z2 : w4.cell? ⟨H, 0, none⟩ = some (.slice a3 PS.length c3) := HXH4.out.2 0 (by simp)
  have hqq : (Q != Q) = false := by simp
  have hll : ((PS.length : Int) != (PS.length : Int)) = false := by simp
  clear hb4 HSI y0 HD3 HXC3 HXE3 HXH HB3 HR3
  go_wp2_with fail
  refine (specChipOk_any a b ps ws c d w4 HD4.out.1.1 HD4.out.1.2 (by omega) (by omega) HSZ.out).mono ?_
  rintro e w5 ⟨rfl, hb5⟩
  have HD5 := hide (HD4.out.below hb5)
  have HXC5 := hide (HXC4.out.below hb5)
  have HXE5 := hide (HXE4.out.below hb5)
  have HB5 := hide (after HB4.out hb5)
  have HR5 := hide (And.intro (HR4.out.1.below hb5) (And.intro (HR4.out.2.1.below hb5) (HR4.out.2.2.below hb5)))
  clear hb5 x0 x1 y1 y2 z1 z2 hqq hll HD4 HXC4 HXE4 HXH4 HB4 HR4
  cases hok : chipOkB ps ws with
  | false =>
    have hno : ¬ chipOkP ps ws := fun h => by rw [chipOkB_iff.2 h] at hok; cases hok
    have hms := HNOM.out hno
    have y0 : w5.cell? ⟨E, 2, none⟩ = some (.slice e2 0 f2) := by have h := HXE5.out.2 2 (by simp); simpa [hms] using h
    clear hok hno hms HOKM HNOM
    go_wp2
    go_ret
    exact ⟨rfl, HB5.out⟩
  | true =>
    have hcp := chipOkB_iff.1 hok
    obtain ⟨h1, h2, h3, h4⟩ := HOKM.out hcp
    have h1' := h1.symm
    have h2' := h2.symm
    subst h1' h2'
    have HMM := hide h3
    have HQQ := hide h4
    have HCP := hide hcp
    have HL60 : Hid (ps.length = 60) := hcp.1
    clear hok h1 h2 h3 h4 hcp HOKM HNOM
    have HT : Hid (∀ u, Below w5.heap.size w5 u → (u.cell? ⟨C, 0, none⟩ = some (.slice a ps.length c) ∧ u.cell? ⟨C, 1, none⟩ = some (.slice b ws.length d)) ∧ (u.cell? ⟨E, 0, none⟩ = some (.slice a2 ps.length c2) ∧ u.cell? ⟨E, 1, none⟩ = some (.slice b2 ws.length d2) ∧ u.cell? ⟨E, 2, none⟩ = some (.slice e2 MS.length f2) ∧ u.cell? ⟨E, 3, none⟩ = some (.int .i64 Q))) := fun u hu =>
      ⟨⟨(HXC5.out.below hu).2 0 (by simp), (HXC5.out.below hu).2 1 (by simp)⟩, (HXE5.out.below hu).2 0 (by simp), (HXE5.out.below hu).2 1 (by simp), (HXE5.out.below hu).2 2 (by simp), (HXE5.out.below hu).2 3 (by simp)⟩
    have HRW : Hid (∀ u, Below w5.heap.size w5 u → Rd u a (vsString ps) ∧ Rd u a2 (vsString ps) ∧ Rd u b2 (vsInt ws) ∧ Rd u e2 (vsInt MS)) := fun u hu =>
      ⟨HD5.out.1.1.below hu, HR5.out.1.below hu, HR5.out.2.1.below hu, HR5.out.2.2.below hu⟩
    clear HD5 HXC5 HXE5 HR5
    go_wp2_with fail
    go_loopw [6] (fun i wr => ∃ k : Nat, k ≤ ps.length ∧ i = .int .i64 k ∧ Hid (Below w5.heap.size w5 wr)) (fun i _ => ps.length - (intOf i).toNat)
    case atStart => exact ⟨0, Nat.zero_le _, rfl, Below.refl _ _⟩
    case round =>
      obtain ⟨k, hk, rfl, hbi⟩ := hrel
      obtain ⟨⟨x0, x1⟩, y0, y1, y2, y3⟩ := HT.out wr hbi.out
      by_cases hlt : k < ps.length
      · have hkI : (k : Int) < (ps.length : Int) := by omega
        obtain ⟨ba, oa, t, hae, hct, HTX⟩ := rdString_at (HRW.out wr hbi.out).1 hlt
        have HTS : Hid (t.size ≤ 1048576) := HSZ.out t (List.mem_of_getElem? HTX.out)
        have htd : ps[k]?.getD ByteArray.empty = t := by rw [HTX.out]; rfl
        subst hae
        cases hrr : recR t with
        | none =>
          have HRN := hide hrr
          clear hrr htd HTX
          go_wp2_with fail
          refine (implRecRead_any t wr HTS.out).mono ?_
          rintro e w6 ⟨-, h2, hb6⟩
          obtain rfl := h2 HRN.out
          have HB6 := hide (after hbi.out hb6)
          clear h2 hb6 x0 x1 y0 y1 y2 y3 hct
          go_wp2
          go_roundw
          case rel => exact ⟨k + 1, by omega, by go_num, HB6.out.alloc HB6.out.size _⟩
          case measure => simp [intOf]; omega
        | some r =>
          obtain ⟨s, q, d0⟩ := r
          obtain ⟨S, P, b', d', rfl, hS, hMP, hP, hrP, hqb, hqs⟩ := mounted_best (p := k) (by have := HL60.out; omega) (by rw [htd]; exact hrr)
          have HRN := hide hrr
          have HML : Hid (MS.length = 26) := by show MS.length = 26; rw [HMM.out, mMap_len]
          clear hrr htd HTX
          go_wp2_with fail
          refine (implRecRead_any t wr HTS.out).mono ?_
          rintro e w6 ⟨h2, -, hb6⟩
          obtain rfl := h2 _ _ _ HRN.out
          obtain ⟨A, hA⟩ : ∃ A, A = w6.alloc (Obj.cells #[.int .i64 S, .int .i64 q, .string d0] 50) := ⟨_, rfl⟩
          have hbA : Below w6.heap.size w6 A := by rw [hA]; exact (Below.refl _ _).alloc (Nat.le_refl _) _
          have k0 : A.cell? ⟨w6.heap.size, 0, none⟩ = some (.int .i64 S) := by rw [hA]; simp
          have k1 : A.cell? ⟨w6.heap.size, 1, none⟩ = some (.int .i64 q) := by rw [hA]; simp
          have HB6 := hide (after hbi.out (after hb6 hbA))
          clear h2 hb6 hbA x0 x1 y0 y1 y2 y3 hct
          go_wp2_with fail
          rw [← hA]
          clear hA
          generalize w6.heap.size = K at k0 k1 ⊢
          obtain ⟨⟨x0, x1⟩, y0, y1, y2, y3⟩ := HT.out A HB6.out
          obtain ⟨be, oe, z, hee, hce, HZ⟩ := rdInt_at (HRW.out A HB6.out).2.2.2 (k := S) (by have := HML.out; omega)
          obtain rfl : z = (P : Int) := by have h := HZ.out; rw [HMM.out, hMP] at h; exact (Option.some.inj h).symm
          obtain ⟨bp, op, t', hap, hcp, HTP⟩ := rdString_at (HRW.out A HB6.out).1 (k := P) (by have := HL60.out; omega)
          have HPS : Hid (t'.size ≤ 1048576) := HSZ.out t' (List.mem_of_getElem? HTP.out)
          have hrP' : recR t' = some ((S : Int), b', d') := by rw [HTP.out] at hrP; exact hrP
          have HCL : Hid (∀ u, Calls Try.prog 29 #[.string t'] u fun e w' => e = .returned (.tuple #[.agg #[.int .i64 S, .int .i64 b', .string d'], .bool true]) ∧ Below u.heap.size u w') := fun u => by
            refine (implRecRead_any t' u HPS.out).mono ?_
            rintro e w' ⟨h, -, hb⟩
            exact ⟨h _ _ _ hrP', hb⟩
          have hq1 : (S : Int) < (MS.length : Int) := by have := HML.out; omega
          have hq2 : (P : Int) < (ps.length : Int) := by have := HL60.out; omega
          subst hee
          injection hap with hap
          injection hap with e1 e2'
          subst e1 e2'
          have HK : Hid (∀ u, Below A.heap.size A.drew u → (u.cell? ⟨C, 0, none⟩ = some (.slice (some ⟨ba, oa, none⟩) ps.length c) ∧ u.cell? ⟨E, 2, none⟩ = some (.slice (some ⟨be, oe, none⟩) MS.length f2) ∧ u.cell? ⟨K, 0, none⟩ = some (.int .i64 S) ∧ u.cell? ⟨be, oe + S, none⟩ = some (.int .i64 P) ∧ u.cell? ⟨ba, oa + P, none⟩ = some (.string t'))) := fun u hu =>
            ⟨(hu.cell (p := ⟨C, 0, none⟩) (lt_of_cell x0)).trans (by simpa using x0), (hu.cell (p := ⟨E, 2, none⟩) (lt_of_cell y2)).trans (by simpa using y2), (hu.cell (p := ⟨K, 0, none⟩) (lt_of_cell k0)).trans (by simpa using k0), (hu.cell (p := ⟨be, oe + S, none⟩) (lt_of_cell hce)).trans (by simpa using hce), (hu.cell (p := ⟨ba, oa + P, none⟩) (lt_of_cell hcp)).trans (by simpa using hcp)⟩
          have m1 : A.heap.size ≠ C := by have := lt_of_cell x0; omega
          have m2 : A.heap.size ≠ E := by have := lt_of_cell y2; omega
          have m3 : A.heap.size ≠ K := by have := lt_of_cell k0; omega
          have m4 : A.heap.size ≠ be := by have := lt_of_cell hce; omega
          have m5 : A.heap.size ≠ ba := by have := lt_of_cell hcp; omega
          have HKK := hide (And.intro k0 k1)
          have HQS : Hid (q ≤ Q) := by show q ≤ Q; rw [HQQ.out]; exact hqs
          have HAL : Hid (Below A.heap.size A.drew (A.alloc (Obj.cells #[.int .i64 0, .int .i64 0, .string ⟨#[]⟩] 50)).drew) := by
            have : Below A.heap.size A (A.alloc (Obj.cells #[.int .i64 0, .int .i64 0, .string ⟨#[]⟩] 50)) := (Below.refl _ A).alloc (Nat.le_refl _) _
            exact ⟨this.os, this.tape, this.output, this.size, this.block⟩
          clear HZ HTP hrP hrP' hMP hqs k1 x1 y0 y1 y3
          go_cut [9, 10] from 51 to 105 (fun x y wx => ∃ B, x = .pointer (some ⟨B, 0, none⟩) ∧ y = .bool true ∧ Hid (RVar A wx B S b' d'))
          case first =>
            go_region_held (fun u => u.cell? ⟨C, 0, none⟩ = some (.slice (some ⟨ba, oa, none⟩) ps.length c) ∧ u.cell? ⟨E, 2, none⟩ = some (.slice (some ⟨be, oe, none⟩) MS.length f2) ∧ u.cell? ⟨K, 0, none⟩ = some (.int .i64 S) ∧ u.cell? ⟨be, oe + S, none⟩ = some (.int .i64 P) ∧ u.cell? ⟨ba, oa + P, none⟩ = some (.string t'))
              (first | assumption | go_keep | exact ⟨cell_other (cell_other (cell_other hK1.1 m1) m1) m1, cell_other (cell_other (cell_other hK1.2.1 m2) m2) m2, cell_other (cell_other (cell_other hK1.2.2.1 m3) m3) m3, cell_other (cell_other (cell_other hK1.2.2.2.1 m4) m4) m4, cell_other (cell_other (cell_other hK1.2.2.2.2 m5) m5) m5⟩)
              ((first
                | (go_at_call 29; refine (HCL.out (A.alloc (Obj.cells #[.int .i64 0, .int .i64 0, .string ⟨#[]⟩] 50)).drew).mono ?_; rintro e w7 ⟨rfl, hb7⟩; obtain ⟨HBX, ⟨v0, v1, v2⟩, vf⟩ := rvar_aux hb7; have hK1 := HK.out w7 HBX.out; have vf0 := vf 0; have vf1 := vf 1; have vf2 := vf 2; clear hb7 vf)
                | (go_at_call 29; refine (HCL.out A.drew).mono ?_; rintro e w7 ⟨rfl, hb7⟩; have hK1 := HK.out w7 hb7; have HBX : Hid (Below A.heap.size A.drew w7) := hb7; clear hb7)))
            all_goals first
              | (have HBX2 := hide (rvar_early (s := (S : Int)) (q := b') (d := d') (show Below A.heap.size A w7 from (after_drew (Below.refl _ _) 1).trans HBX.out) v0 v1 v2); clear HBX hK1 HK HCL v0 v1 v2; go_wp2_with fail; go_meet; exact ⟨_, rfl, rfl, HBX2⟩)
              | (have HBX2 := hide (rvar_late (s := (S : Int)) (q := b') (d := d') (t := 50) (show Below A.heap.size A w7 from (after_drew (Below.refl _ _) 1).trans HBX.out)); clear HBX hK1 HK HCL; go_wp2_with fail; go_meet; exact ⟨_, rfl, rfl, HBX2⟩)
          case rest =>
            obtain ⟨B, rfl, rfl, HV⟩ := hcut
            have HB7 := hide (after HB6.out HV.out.2)
            obtain ⟨v0, v1, -⟩ := HV.out.1
            have k0 := (HV.out.2.cell (p := ⟨K, 0, none⟩) (lt_of_cell HKK.out.1)).trans HKK.out.1
            have k1 := (HV.out.2.cell (p := ⟨K, 1, none⟩) (lt_of_cell HKK.out.2)).trans HKK.out.2
            have y3 := (HT.out wc HB7.out).2.2.2.2
            have hss : ((S : Int) != (S : Int)) = false := by simp
            have hn1 : ¬ b' < q := by omega
            have hn2 : ¬ Q < q := by have := HQS.out; omega
            clear HCL HK m1 m2 m3 m4 m5 x0 y2 hce hcp
            go_wp2
            go_roundw
            case rel => exact ⟨k + 1, by omega, by go_num, HB7⟩
            case measure => simp [intOf]; omega
      · have hkI : ¬ (k : Int) < (ps.length : Int) := by omega
        have HBE := hide (after HB5.out hbi.out)
        clear x1 y0 y1 y2 y3
        go_wp2_with fail
        refine (DrawFtlOk_any la zs cap wr (HR.out.below HBE.out) HBY.out hm).mono ?_
        rintro e w9 ⟨a9, c9, b9, d9, e9, f9, ps9, ws9, ms9, q9, rfl, hd9, hb9⟩
        obtain ⟨W9, hW9⟩ : ∃ W9, W9 = w9.alloc (Obj.cells #[.slice a9 ps9.length c9, .slice b9 ws9.length d9, .slice e9 ms9.length f9, .int .i64 q9] 47) := ⟨_, rfl⟩
        have hbW9 : Below w9.heap.size w9 W9 := by rw [hW9]; exact (Below.refl _ _).alloc (Nat.le_refl _) _
        have xF : At W9 w9.heap.size [.slice a9 ps9.length c9, .slice b9 ws9.length d9, .slice e9 ms9.length f9, .int .i64 q9] := by rw [hW9]; exact at_new w9 [.slice a9 ps9.length c9, .slice b9 ws9.length d9, .slice e9 ms9.length f9, .int .i64 q9] _
        have HB9 := hide (after hbi.out (after hb9 hbW9))
        have HD9 := hide (hd9.below hbW9)
        have HXF := hide xF
        have hk0 : ps9.length ≤ 1048576 := by have := hd9.1.2.2.2.2.1; omega
        have hk1 : ws9.length ≤ 1048576 := by have := hd9.1.2.2.2.2.1; omega
        have hk2 : ms9.length ≤ 1048576 := by have := hd9.2.2.2.2; omega
        have HSZ9 := hide hd9.1.2.2.2.2.2
        have HFI : Hid (∀ u, Below W9.heap.size W9 u → Calls Try.prog 31 #[.agg #[.slice a9 ps9.length c9, .slice b9 ws9.length d9, .slice e9 ms9.length f9, .int .i64 q9]] u fun e w' => e = .returned (.bool (ftlOkB ps9 ws9 ms9 q9)) ∧ Below u.heap.size u w') := fun u hu =>
          implFtlOk_any a9 b9 e9 ps9 ws9 ms9 c9 d9 f9 q9 u (HD9.out.below hu).1.1.1 (HD9.out.below hu).1.1.2 (HD9.out.below hu).2.1 hk0 hk1 hk2 HSZ9.out
        have HFS : Hid (∀ u, Below W9.heap.size W9 u → Calls Try.prog 33 #[.agg #[.slice a9 ps9.length c9, .slice b9 ws9.length d9, .slice e9 ms9.length f9, .int .i64 q9]] u fun e w' => e = .returned (.bool (ftlOkB ps9 ws9 ms9 q9)) ∧ Below u.heap.size u w') := fun u hu =>
          specFtlOk_any a9 b9 e9 ps9 ws9 ms9 c9 d9 f9 q9 u (HD9.out.below hu).1.1.1 (HD9.out.below hu).1.1.2 (HD9.out.below hu).2.1 hk0 hk1 hk2 HSZ9.out
        obtain ⟨Z, hZ⟩ : ∃ Z, Z = ftlOkB ps9 ws9 ms9 q9 := ⟨_, rfl⟩
        rw [← hZ] at HFI HFS
        have HBN : Hid (ps.length ≤ 1048576 ∧ ws.length ≤ 1048576 ∧ MS.length ≤ 1048576) := ⟨by rw [HL60.out]; decide, by rw [HCP.out.2.1]; decide, by rw [HMM.out, mMap_len]; decide⟩
        have HFF : Hid (∀ u, Below W9.heap.size W9 u → Calls Try.prog 31 #[.agg #[.slice a2 ps.length c2, .slice b2 ws.length d2, .slice e2 MS.length f2, .int .i64 Q]] u fun e w' => e = .returned (.bool true) ∧ Below u.heap.size u w') := fun u hu => by
          have h := HRW.out u (after HB9.out hu)
          have h2 := implFtlOk_any a2 b2 e2 ps ws MS c2 d2 f2 Q u h.2.1 h.2.2.1 h.2.2.2 HBN.out.1 HBN.out.2.1 HBN.out.2.2 HSZ.out
          have h3 : ftlOkB ps ws MS Q = true := by rw [HMM.out, HQQ.out]; simp [ftlOkB, chipOkB_true HCP.out]
          rw [h3] at h2
          exact h2
        have HMO : Hid (∀ u, Below W9.heap.size W9 u → Calls Try.prog 27 #[.agg #[.slice a2 ps.length c2, .slice b2 ws.length d2]] u fun e w' => ∃ a b e0 c d f, e = .returned (.agg #[.slice a ps.length c, .slice b ws.length d, .slice e0 MS.length f, .int .i64 Q]) ∧ (Rd w' a (vsString ps) ∧ Rd w' b (vsInt ws) ∧ Rd w' e0 (vsInt MS)) ∧ Below u.heap.size u w') := fun u hu => by
          have h := HRW.out u (after HB9.out hu)
          refine (implMount_ok a2 b2 ps ws c2 d2 u h.2.1 h.2.2.1 HCP.out).mono ?_
          rintro e w' ⟨v, rfl, ho, hb⟩
          rw [← HMM.out, ← HQQ.out] at ho
          obtain ⟨a, c, b, d, e0, f, rfl, r1, r2, r3⟩ := ho.rd
          exact ⟨a, b, e0, c, d, f, rfl, ⟨r1, r2, r3⟩, hb⟩
        obtain ⟨VL, hVL⟩ : ∃ VL, VL = viewOf ps ws MS Q := ⟨_, rfl⟩
        have hvl : VL.length ≤ 1000 := by rw [hVL]; exact viewOf_len _ _ _ _
        have HVW : Hid (∀ (u : World) (a b e0 : Option Addr) (c d f : Nat), Rd u a (vsString ps) → Rd u b (vsInt ws) → Rd u e0 (vsInt MS) → Calls Try.prog 32 #[.agg #[.slice a ps.length c, .slice b ws.length d, .slice e0 MS.length f, .int .i64 Q]] u fun e w' => ∃ a c, e = .returned (.slice a VL.length c) ∧ Rd w' a (vsString VL) ∧ Below u.heap.size u w') := fun u a b e0 c d f h1 h2 h3 => by
          refine (implView_any a b e0 ps ws MS c d f Q u h1 h2 h3 HBN.out.1 HBN.out.2.1 HBN.out.2.2 HSZ.out).mono ?_
          rintro e w' ⟨v, rfl, ho, hb⟩
          rw [← hVL] at ho
          obtain ⟨a, c, rfl⟩ := ho.shape
          exact ⟨a, c, rfl, rd_of_own ho, hb⟩
        have x2 : W9.cell? ⟨w9.heap.size, 0, none⟩ = some (.slice a9 ps9.length c9) := xF.2 0 (by simp)
        have x3 : W9.cell? ⟨w9.heap.size, 1, none⟩ = some (.slice b9 ws9.length d9) := xF.2 1 (by simp)
        have x4 : W9.cell? ⟨w9.heap.size, 2, none⟩ = some (.slice e9 ms9.length f9) := xF.2 2 (by simp)
        have x5 : W9.cell? ⟨w9.heap.size, 3, none⟩ = some (.int .i64 q9) := xF.2 3 (by simp)
        have hzz : (Z == Z) = true := by simp
        have HBF := hide (after HB5.out HB9.out)
        clear hd9 hb9 hbW9 xF hZ hVL x0 HBE
        go_wp2_with fail
        rw [← hW9]
        clear hW9
        generalize w9.heap.size = F at HXF x2 x3 x4 x5 ⊢
        have HTT : Hid (∀ u, Below W9.heap.size W9 u → (u.cell? ⟨E, 0, none⟩ = some (.slice a2 ps.length c2) ∧ u.cell? ⟨E, 1, none⟩ = some (.slice b2 ws.length d2) ∧ u.cell? ⟨E, 2, none⟩ = some (.slice e2 MS.length f2) ∧ u.cell? ⟨E, 3, none⟩ = some (.int .i64 Q)) ∧ u.cell? ⟨F, 0, none⟩ = some (.slice a9 ps9.length c9) ∧ u.cell? ⟨F, 1, none⟩ = some (.slice b9 ws9.length d9) ∧ u.cell? ⟨F, 2, none⟩ = some (.slice e9 ms9.length f9) ∧ u.cell? ⟨F, 3, none⟩ = some (.int .i64 q9)) := fun u hu =>
          ⟨(HT.out u (after HB9.out hu)).2, (HXF.out.below hu).2 0 (by simp), (HXF.out.below hu).2 1 (by simp), (HXF.out.below hu).2 2 (by simp), (HXF.out.below hu).2 3 (by simp)⟩
        have hS0 := HTT.out W9 (Below.refl _ _)
        obtain ⟨⟨s0, s1, s2, s3⟩, -⟩ := id hS0
        go_region_held (fun u => (u.cell? ⟨E, 0, none⟩ = some (.slice a2 ps.length c2) ∧ u.cell? ⟨E, 1, none⟩ = some (.slice b2 ws.length d2) ∧ u.cell? ⟨E, 2, none⟩ = some (.slice e2 MS.length f2) ∧ u.cell? ⟨E, 3, none⟩ = some (.int .i64 Q)) ∧ u.cell? ⟨F, 0, none⟩ = some (.slice a9 ps9.length c9) ∧ u.cell? ⟨F, 1, none⟩ = some (.slice b9 ws9.length d9) ∧ u.cell? ⟨F, 2, none⟩ = some (.slice e9 ms9.length f9) ∧ u.cell? ⟨F, 3, none⟩ = some (.int .i64 q9)) (first | assumption | go_keep)
          ((first
            | (go_at_call 33; refine (HFS.out wl HE6.out).mono ?_; rintro e wm ⟨rfl, hbm⟩; have HE7 : Hid (Below W9.heap.size W9 wm) := after HE6.out hbm; have hSm := HTT.out wm HE7.out; clear hbm)
            | (go_at_call 31; refine (HFI.out wj HE5.out).mono ?_; rintro e wl ⟨rfl, hbl⟩; have HE6 : Hid (Below W9.heap.size W9 wl) := after HE5.out hbl; have hSl := HTT.out wl HE6.out; clear hbl)
            | (go_at_call 20; refine (sameTexts_any ah ai VL ch ci wi HRI.out.1 HRI.out.2 (by omega)).mono ?_; rintro e wj ⟨rfl, hbj⟩; have HE5 : Hid (Below W9.heap.size W9 wj) := after HE4.out hbj; have hSj := HTT.out wj HE5.out; clear hbj)
            | (go_at_call 32; refine (HVW.out wh a2 b2 e2 c2 d2 f2 (HRW.out wh (after HB9.out HE3.out)).2.1 (HRW.out wh (after HB9.out HE3.out)).2.2.1 (HRW.out wh (after HB9.out HE3.out)).2.2.2).mono ?_; rintro e wi ⟨ai, ci, rfl, hri, hbi2⟩; have HE4 : Hid (Below W9.heap.size W9 wi) := after HE3.out hbi2; have HRI := hide (And.intro (HRH.out.below hbi2) hri); have hSi := HTT.out wi HE4.out; clear hbi2 hri)
            | (go_at_call 32; refine (HVW.out wg ag bg eg cg dg fg HRG.out.1 HRG.out.2.1 HRG.out.2.2).mono ?_; rintro e wh ⟨ah, ch, rfl, hrh, hbh⟩; have HE3 : Hid (Below W9.heap.size W9 wh) := after HE2.out hbh; have HRH := hide hrh; have hSh := HTT.out wh HE3.out; clear hbh hrh)
            | (go_at_call 27; refine (HMO.out we HE1.out).mono ?_; rintro e wg ⟨ag, bg, eg, cg, dg, fg, rfl, hrg, hbg⟩; have HE2 : Hid (Below W9.heap.size W9 wg) := after HE1.out hbg; have HRG := hide hrg; have hSg := HTT.out wg HE2.out; clear hbg hrg)
            | (go_at_call 31; refine (HFF.out W9.drew (after_drew (Below.refl _ _) 1)).mono ?_; rintro e we ⟨rfl, hbe⟩; have HE1 : Hid (Below W9.heap.size W9 we) := after (after_drew (Below.refl _ _) 1) hbe; have hSe := HTT.out we HE1.out; clear hbe)))
        have HFN := hide (after HBF.out HE7.out)
        clear HTT HT HXF HFI HFS HFF HMO HVW HRW
        go_wp2
        go_ret
        exact ⟨by first | rfl | (rw [hzz]), HFN.out⟩

end Go.Proofs.Ytelbannfbglgcaa
