/-
  Contracts of both Volumes.
-/
import Derived.Test.YtdicjbabnknjhaaView
namespace Go.Proofs.Ytdicjbabnknjhaa
open Go.RowKit

/-- What each sector of a volume has, of a chip that is right. -/
def volU (ps : List ByteArray) (v : Nat) : List ByteArray := (List.range 12).map fun (k : Nat) => secD ps ((v : Int) * 12 + (k : Nat))
theorem volU_len (ps : List ByteArray) (v : Nat) : (volU ps v).length = 12 := by simp [volU]
theorem volU_at (ps : List ByteArray) (v : Nat) {k : Nat} (h : k < 12) : (volU ps v)[k]? = some (secD ps ((v : Int) * 12 + (k : Nat))) := by simp [volU, h]
/-- Volume of whatever came in. -/
def volOf (ps : List ByteArray) (ws ms : List Int) (q v : Int) : List ByteArray := if (0 ≤ v ∧ v ≤ 1) ∧ ftlOkB ps ws ms q = true then volU ps v.toNat else []
theorem volOf_len (ps : List ByteArray) (ws ms : List Int) (q v : Int) : (volOf ps ws ms q v).length ≤ 1000 := by
  unfold volOf
  split
  · rw [volU_len]; decide
  · simp

set_option maxRecDepth 100000 in
set_option maxHeartbeats 3200000 in
theorem implVolIn_any (a b e0 : Option Addr) (ps : List ByteArray) (ws ms : List Int) (c d f v : Nat) (q : Int) (w : World) (hv : v ≤ 1) (hp : Rd w a (vsString ps)) (hw : Rd w b (vsInt ws)) (hms : Rd w e0 (vsInt ms)) (hl : ps.length ≤ 1048576) (hm : ws.length ≤ 1048576) (hn : ms.length ≤ 1048576) (hs : ∀ s ∈ ps, s.size ≤ 1048576) :
    Calls Try.prog 18 #[.agg #[.slice a ps.length c, .slice b ws.length d, .slice e0 ms.length f, .int .i64 q], .int .i64 v] w fun e w' => ∃ v', e = .returned v' ∧ StrsOwn w' w.heap.size v' (volOf ps ws ms q v) ∧ Below w.heap.size w w' := by
  obtain ⟨R, hR⟩ : ∃ R, R = volOf ps ws ms q v := ⟨_, rfl⟩
  rw [← hR]
  obtain ⟨i0, hi, hz0, hz1, hz2⟩ := info_parts infoString
  obtain ⟨A, hA⟩ : ∃ A, A = w.alloc (Obj.cells #[.slice a ps.length c, .slice b ws.length d, .slice e0 ms.length f, .int .i64 q] 43) := ⟨_, rfl⟩
  have hbA : Below w.heap.size w A := by rw [hA]; exact (Below.refl _ _).alloc (Nat.le_refl _) _
  have xA : At A w.heap.size [.slice a ps.length c, .slice b ws.length d, .slice e0 ms.length f, .int .i64 q] := by rw [hA]; exact at_new w [.slice a ps.length c, .slice b ws.length d, .slice e0 ms.length f, .int .i64 q] _
  have x0 : A.cell? ⟨w.heap.size, 0, none⟩ = some (.slice a ps.length c) := xA.2 0 (by simp)
  have x1 : A.cell? ⟨w.heap.size, 1, none⟩ = some (.slice b ws.length d) := xA.2 1 (by simp)
  have x2 : A.cell? ⟨w.heap.size, 2, none⟩ = some (.slice e0 ms.length f) := xA.2 2 (by simp)
  have x3 : A.cell? ⟨w.heap.size, 3, none⟩ = some (.int .i64 q) := xA.2 3 (by simp)
  have HF := hide (implFtlOk_any a b e0 ps ws ms c d f q A (hp.below hbA) (hw.below hbA) (hms.below hbA) hl hm hn hs)
  cases hok : ftlOkB ps ws ms q with
  | false =>
    have HR : Hid (R = []) := by show _ = _; rw [hR, volOf, if_neg (by simp [hok])]
    rw [hok] at HF
    clear hR hp hw hms hs hok
    go_enter Try.func18, Try.ntmps18
    go_wp2_with (first | (rw [← hA]; clear hA) | (go_at_call 46; refine HF.out.mono ?_; rintro e w1 ⟨rfl, hb1⟩; have HB1 := hide hb1; clear hb1))
    go_ret
    exact ⟨_, rfl, by rw [HR.out]; exact World.ownsRow_nil _ _ _ _, after hbA HB1.out⟩
  | true =>
    have HR : Hid (R = volU ps v) := by show _ = _; rw [hR, volOf, if_pos ⟨by omega, hok⟩, Int.toNat_natCast]
    obtain ⟨hch, rfl, rfl⟩ := ftlOk_parts hok
    rw [hok] at HF
    have HSC : Hid (∀ (u : World) (k : Nat), Below A.heap.size A u → k < 12 → Calls Try.prog 47 #[.agg #[.slice a ps.length c, .slice b ws.length d, .slice e0 (mMap ps).length f, .int .i64 (mSeq ps)], .int .i64 ((v : Int) * 12 + k)] u fun e w' => ∃ z, e = .returned (.string z) ∧ Hid ((volU ps v)[k]? = some z) ∧ Below u.heap.size u w') := by
      intro u k hu hk
      have hbu := after hbA hu
      exact (implSectorOf_any a e0 _ ps c f _ ((v : Int) * 12 + k) u (hp.below hbu) (hms.below hbu) hch.1 hs).mono fun e w' h => ⟨_, h.1, volU_at ps v hk, h.2⟩
    have HVL : Hid ((volU ps v).length = 12) := volU_len ps v
    obtain ⟨V, hV⟩ : ∃ V, V = volU ps v := ⟨_, rfl⟩
    have hv0 : (0 : Int) ≤ (v : Int) ∧ (v : Int) ≤ 1 := by omega
    rw [← hV] at HR HSC HVL
    obtain ⟨M, hM⟩ : ∃ M, M = mMap ps := ⟨_, rfl⟩
    rw [← hM] at HF HSC xA x2 hA hn
    obtain ⟨Q, hQ⟩ : ∃ Q, Q = mSeq ps := ⟨_, rfl⟩
    rw [← hQ] at HF HSC xA x3 hA
    rw [← hM, ← hQ]
    have hv1 : 12 ≤ V.length ∧ V.length ≤ 12 := by have := HVL.out; omega
    clear hR hp hw hms hs hok hch hV hM hQ
    go_enter Try.func18, Try.ntmps18
    go_wp2_with fail
    rw [← hA]
    clear hA
    refine HF.out.mono ?_
    rintro e w1 ⟨rfl, hb1⟩
    have HB1 := hide hb1
    clear hb1 x0 x1 x2 x3
    go_wp2_with (at_make; refine wpList_make_full _ rfl _ _ 33 rfl w1.heap.size 9 i0 (Value.string ⟨#[]⟩) 1 Try.underlying33 hi hz0 hz1 .i64 .i64 12 12 12 rfl rfl rfl rfl (by rw [hz2]; decide) (by decide) (Nat.le_refl _) ?_; intro w2 hown hgrow)
    have hb2 : Below w1.heap.size w1 w2 := (Below.refl _ _).grown hgrow (Nat.le_refl _) (by simp)
    have hown1 : w2.ownsRow w1.heap.size 9 1 (.slice (some ⟨w1.heap.size, 0, none⟩) 12 12) 12 (halfString V 0) := by
      have e : (madeCells (Value.string ⟨#[]⟩).cells (12 * 1)).toList = halfString V 0 := by
        show (madeCells #[Value.string ⟨#[]⟩] (12 * 1)).toList = _
        rw [toList_madeCells_one]; simp [halfString, HVL.out]
      rw [← e]; exact hown
    clear hown hgrow
    go_loopw [21] (fun i wr => ∃ k : Nat, k ≤ 12 ∧ i = .int .i64 k ∧ wr.ownsRow w1.heap.size 9 1 (.slice (some ⟨w1.heap.size, 0, none⟩) 12 12) 12 (halfString V k) ∧ Below w1.heap.size w1 wr) (fun i _ => 12 - (intOf i).toNat)
    case atStart => exact ⟨0, Nat.zero_le _, rfl, hown1, hb2⟩
    case round =>
      obtain ⟨k, hk, rfl, hown, hbr⟩ := hrel
      have hbA1 := after HB1.out hbr
      by_cases hlt : k < 12
      · have y0 : wr.cell? ⟨w.heap.size, 0, none⟩ = some (.slice a ps.length c) := (xA.below hbA1).2 0 (by simp)
        have y1 : wr.cell? ⟨w.heap.size, 1, none⟩ = some (.slice b ws.length d) := (xA.below hbA1).2 1 (by simp)
        have y2 : wr.cell? ⟨w.heap.size, 2, none⟩ = some (.slice e0 M.length f) := (xA.below hbA1).2 2 (by simp)
        have y3 : wr.cell? ⟨w.heap.size, 3, none⟩ = some (.int .i64 Q) := (xA.below hbA1).2 3 (by simp)
        have hki : (k : Int) < 12 := by omega
        have HC := hide (HSC.out wr k hbA1 hlt)
        clear hbA1 hown1 hb2
        go_wp2_with fail
        refine HC.out.mono ?_
        rintro e u ⟨z, rfl, HZ, hbu⟩
        have hown1 := owns_below hown hbu
        have hbu1 := after hbr hbu
        have hfz := hown1.frozenAt k
        have hst := hown1.stored k (Value.string z)
        have hcell : ∃ x, u.cell? ⟨w1.heap.size, k, none⟩ = some x := by
          have h1 := hown1.cellAt k (by omega)
          have h2 : k < (halfString V k).length := by rw [hown1.1]; omega
          exact ⟨(halfString V k)[k], by rw [h1]; simp [h2]⟩
        obtain ⟨x, hcell⟩ := hcell
        have HO : Hid ((u.setCell ⟨w1.heap.size, k, none⟩ (Value.string z)).ownsRow w1.heap.size 9 1 (.slice (some ⟨w1.heap.size, 0, none⟩) 12 12) 12 (halfString V (k + 1)) ∧ Below w1.heap.size w1 (u.setCell ⟨w1.heap.size, k, none⟩ (Value.string z))) := by
          refine ⟨?_, hbu1.setCell (Nat.le_refl _) _⟩
          rw [← halfString_step HZ.out]
          exact hst.1
        clear hst hown hown1 hbr hbu hbu1 HC
        go_wp2
        go_roundw
        case rel => exact ⟨k + 1, by omega, by go_num, HO.out.1, HO.out.2⟩
        case measure => simp [intOf]; omega
      · obtain rfl : k = 12 := by omega
        have hki : ¬ ((12 : Nat) : Int) < 12 := by omega
        have HO : Hid (wr.ownsRow w1.heap.size 9 1 (.slice (some ⟨w1.heap.size, 0, none⟩) 12 12) V.length (vsString V)) := by
          have h : wr.ownsRow w1.heap.size 9 1 (.slice (some ⟨w1.heap.size, 0, none⟩) 12 12) 12 (halfString V 12) := hown
          have e1 : halfString V 12 = vsString V := by have := halfString_all V; rwa [HVL.out] at this
          rw [e1] at h
          rw [HVL.out]; exact h
        have HB := hide hbr
        clear hown hbr hbA1 hown1 hb2
        go_wp2
        go_ret
        exact ⟨_, rfl, by rw [HR.out]; exact owns_mono HO.out (by have := hbA.size; have := HB1.out.size; omega), after (after hbA HB1.out) HB.out⟩

set_option maxRecDepth 100000 in
set_option maxHeartbeats 3200000 in
theorem specVolIn_any (a b e0 : Option Addr) (ps : List ByteArray) (ws ms : List Int) (c d f v : Nat) (q : Int) (w : World) (hv : v ≤ 1) (hp : Rd w a (vsString ps)) (hw : Rd w b (vsInt ws)) (hms : Rd w e0 (vsInt ms)) (hl : ps.length ≤ 1048576) (hm : ws.length ≤ 1048576) (hn : ms.length ≤ 1048576) (hs : ∀ s ∈ ps, s.size ≤ 1048576) :
    Calls Try.prog 16 #[.agg #[.slice a ps.length c, .slice b ws.length d, .slice e0 ms.length f, .int .i64 q], .int .i64 v] w fun e w' => ∃ v', e = .returned v' ∧ StrsOwn w' w.heap.size v' (volOf ps ws ms q v) ∧ Below w.heap.size w w' := by
  obtain ⟨R, hR⟩ : ∃ R, R = volOf ps ws ms q v := ⟨_, rfl⟩
  rw [← hR]
  obtain ⟨i0, hi, hz0, hz1, hz2⟩ := info_parts infoString
  obtain ⟨A, hA⟩ : ∃ A, A = w.alloc (Obj.cells #[.slice a ps.length c, .slice b ws.length d, .slice e0 ms.length f, .int .i64 q] 43) := ⟨_, rfl⟩
  have hbA : Below w.heap.size w A := by rw [hA]; exact (Below.refl _ _).alloc (Nat.le_refl _) _
  have xA : At A w.heap.size [.slice a ps.length c, .slice b ws.length d, .slice e0 ms.length f, .int .i64 q] := by rw [hA]; exact at_new w [.slice a ps.length c, .slice b ws.length d, .slice e0 ms.length f, .int .i64 q] _
  obtain ⟨n1, hn1⟩ : ∃ n1, n1 = A.heap.size := ⟨_, rfl⟩
  have hn1' : n1 = w.heap.size + 1 := by rw [hn1, hA]; simp
  have hd : decide (0 ≤ (v : Int) ∧ (v : Int) ≤ 1) = true := by simp; omega
  obtain ⟨W, hW⟩ : ∃ W, W = A.alloc (Obj.cells #[] 9) := ⟨_, rfl⟩
  have hbW : Below A.heap.size A W := by rw [hW]; exact (Below.refl _ _).alloc (Nat.le_refl _) _
  have hW0 : W.ownsRow n1 9 1 (.slice (some ⟨n1, 0, none⟩) 0 0) 0 [] := by rw [hW, hn1]; exact World.ownsRow_made A #[] 0 (Nat.le_refl _) (Nat.zero_le _) rfl
  have HN1 := hide (And.intro hn1 hn1')
  have HF : Hid (∀ u, Below A.heap.size A u → Calls Try.prog 42 #[.agg #[.slice a ps.length c, .slice b ws.length d, .slice e0 ms.length f, .int .i64 q]] u fun e w' => e = .returned (.bool (ftlOkB ps ws ms q)) ∧ Below u.heap.size u w') := fun u hu =>
    specFtlOk_any a b e0 ps ws ms c d f q u (hp.below (after hbA hu)) (hw.below (after hbA hu)) (hms.below (after hbA hu)) hl hm hn hs
  cases hok : ftlOkB ps ws ms q with
  | false =>
    have HR : Hid (R = []) := by show _ = _; rw [hR, volOf, if_neg (by simp [hok])]
    rw [hok] at HF
    have x0 : W.cell? ⟨w.heap.size, 0, none⟩ = some (.slice a ps.length c) := (xA.below hbW).2 0 (by simp)
    have x1 : W.cell? ⟨w.heap.size, 1, none⟩ = some (.slice b ws.length d) := (xA.below hbW).2 1 (by simp)
    have x2 : W.cell? ⟨w.heap.size, 2, none⟩ = some (.slice e0 ms.length f) := (xA.below hbW).2 2 (by simp)
    have x3 : W.cell? ⟨w.heap.size, 3, none⟩ = some (.int .i64 q) := (xA.below hbW).2 3 (by simp)
    have HC := hide (HF.out _ hbW)
    have HW0 := hide hW0
    clear hR hp hw hms hs hok hn1 hn1' hW0
    go_enter Try.func16, Try.ntmps16
    go_wp2_with (first | (go_at_call 41; refine (in_any _ _ _ _).mono ?_; rw [hd]; rw [← hA, ← hW, ← HN1.out.2]; clear hA hW; rintro e u ⟨rfl, hu⟩; have hu' := hu.symm; subst hu') | (go_at_call 42; refine HC.out.mono ?_; rintro e u ⟨rfl, hu⟩; have HU := hide hu; clear hu))
    go_ret
    exact ⟨_, rfl, by rw [HR.out]; exact owns_mono (owns_below HW0.out HU.out) (by have := HN1.out.2; omega), after (after hbA hbW) HU.out⟩
  | true =>
    have HR : Hid (R = volU ps v) := by show _ = _; rw [hR, volOf, if_pos ⟨by omega, hok⟩, Int.toNat_natCast]
    rw [hok] at HF
    obtain ⟨hch, rfl, rfl⟩ := ftlOk_parts hok
    have HSC : Hid (∀ (u : World) (k : Nat), Below A.heap.size A u → k < 12 → Calls Try.prog 43 #[.agg #[.slice a ps.length c, .slice b ws.length d, .slice e0 (mMap ps).length f, .int .i64 (mSeq ps)], .int .i64 ((v : Int) * 12 + k)] u fun e w' => ∃ z, e = .returned (.string z) ∧ Hid ((volU ps v).take (k + 1) = (volU ps v).take k ++ [z]) ∧ Below u.heap.size u w') := by
      intro u k hu hk
      have hbu := after hbA hu
      have := specSec_any a e0 (.slice b ws.length d) ps c f (v * 12 + k) (mSeq ps) u (hp.below hbu) (hms.below hbu) hch.1 (by omega) hs
      rw [show ((v * 12 + k : Nat) : Int) = (v : Int) * 12 + k by omega] at this
      refine this.mono fun e w' h => ⟨_, h.1, ?_, h.2⟩
      show _ = _
      rw [List.take_add_one, volU_at ps v hk]; rfl
    have HVL : Hid ((volU ps v).length = 12) := volU_len ps v
    have hv0 : (0 : Int) ≤ (v : Int) ∧ (v : Int) ≤ 1 := by omega
    obtain ⟨V, hV⟩ : ∃ V, V = volU ps v := ⟨_, rfl⟩
    rw [← hV] at HR HSC HVL
    obtain ⟨M, hM⟩ : ∃ M, M = mMap ps := ⟨_, rfl⟩
    rw [← hM] at HF HSC xA hA hn
    obtain ⟨Q, hQ⟩ : ∃ Q, Q = mSeq ps := ⟨_, rfl⟩
    rw [← hQ] at HF HSC xA hA
    rw [← hM, ← hQ]
    have x0 : W.cell? ⟨w.heap.size, 0, none⟩ = some (.slice a ps.length c) := (xA.below hbW).2 0 (by simp)
    have x1 : W.cell? ⟨w.heap.size, 1, none⟩ = some (.slice b ws.length d) := (xA.below hbW).2 1 (by simp)
    have x2 : W.cell? ⟨w.heap.size, 2, none⟩ = some (.slice e0 M.length f) := (xA.below hbW).2 2 (by simp)
    have x3 : W.cell? ⟨w.heap.size, 3, none⟩ = some (.int .i64 Q) := (xA.below hbW).2 3 (by simp)
    have HC := hide (HF.out _ hbW)
    clear hR hp hw hms hs hok hch hV hM hQ hn1 hn1' hd
    have hd : decide (0 ≤ (v : Int) ∧ (v : Int) ≤ 1) = true := by simp; omega
    go_enter Try.func16, Try.ntmps16
    go_wp2_with (first | (go_at_call 41; refine (in_any _ _ _ _).mono ?_; rw [hd]; rw [← hA, ← hW, ← HN1.out.2]; clear hA hW; rintro e u ⟨rfl, hu⟩; have hu' := hu.symm; subst hu') | (go_at_call 42; refine HC.out.mono ?_; rintro e u0 ⟨rfl, hu⟩; have HU := hide hu; clear hu))
    have HBU : Hid (Below A.heap.size A u0) := after hbW HU.out
    have hU0 := owns_below hW0 HU.out
    clear x0 x1 x2 x3 hd
    go_loopw [5, 6] (fun v' i wr => ∃ k : Nat, k ≤ 12 ∧ i = .int .i64 k ∧ wr.ownsRow n1 9 1 v' k (vsString (V.take k)) ∧ Below n1 A wr) (fun _ i _ => 12 - (intOf i).toNat)
    case atStart => exact ⟨0, Nat.zero_le _, rfl, hU0, by rw [HN1.out.1]; exact HBU.out⟩
    case round =>
      obtain ⟨k, hk, rfl, hown, hbr⟩ := hrel
      have hbr' : Below A.heap.size A wr := by rw [← HN1.out.1]; exact hbr
      have hsr : n1 ≤ wr.heap.size := by have := hbr'.size; have := HN1.out.1; omega
      by_cases hlt : k < 12
      · have q1 : (k : Int) < 12 := by omega
        have y0 : wr.cell? ⟨w.heap.size, 0, none⟩ = some (.slice a ps.length c) := (xA.below hbr').2 0 (by simp)
        have y1 : wr.cell? ⟨w.heap.size, 1, none⟩ = some (.slice b ws.length d) := (xA.below hbr').2 1 (by simp)
        have y2 : wr.cell? ⟨w.heap.size, 2, none⟩ = some (.slice e0 M.length f) := (xA.below hbr').2 2 (by simp)
        have y3 : wr.cell? ⟨w.heap.size, 3, none⟩ = some (.int .i64 Q) := (xA.below hbr').2 3 (by simp)
        have HCS := hide (HSC.out wr k hbr' hlt)
        have HBR := hide hbr'
        clear hbr' hW0 hbW hU0
        go_wp2_with fail
        refine HCS.out.mono ?_
        rintro e u2 ⟨z, rfl, HZ, hb2⟩
        have hown2 := owns_below hown hb2
        have HB2 := hide (after HBR.out hb2)
        have hs2 : n1 ≤ u2.heap.size := by have := HB2.out.size; have := HN1.out.1; omega
        clear hown hb2 HCS y0 y1 y2 y3
        go_wp2_with (at_builtin; go_must (refine wpList_append_one rfl _ _ 33 rfl n1 9 i0 (.string ⟨#[]⟩) 16 Try.underlying33 hi hz0 hz1 hz2 rfl _ _ _ (.string z) rfl hown2 rfl rfl (by omega) (by omega) hs2 rfl ?_); intro v' u3 hown' hb'; have HO := hide hown'; have HB := hide hb'; clear hown' hb')
        go_roundw
        case rel =>
          refine ⟨k + 1, by omega, by go_num, ?_, ?_⟩
          · have h := HO.out
            rw [HZ.out]; simpa [vsString] using h
          · have h := HB2.out
            rw [← HN1.out.1] at h
            exact h.trans HB.out
        case measure => simp [intOf]; omega
      · obtain rfl : k = 12 := by omega
        have q1 : ¬ ((12 : Nat) : Int) < 12 := by omega
        have HOWN := hide hown
        clear hown
        go_wp2
        go_ret
        refine ⟨_, rfl, ?_, hbA.trans (hbr'.mono hbA.size)⟩
        have h := HOWN.out
        have e1 : V.take 12 = V := List.take_of_length_le (by have := HVL.out; omega)
        rw [e1] at h
        rw [HR.out]
        show World.ownsRow _ _ _ _ _ V.length _
        rw [HVL.out]
        exact owns_mono h (by have := HN1.out.2; omega)

end Go.Proofs.Ytdicjbabnknjhaa
