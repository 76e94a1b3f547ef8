/-
  Contracts of the specification's and the program's Lives; what the two answer: the same.
  Contract of the program's Sector; what the two Sectors answer: the same.
  For the walk of FnPlaces: sameInts of equal rows, within; what NextPage, FreeBlocks and Lives answer of what was drawn.
-/
import Derived.Test.YtelbannfbglgcaaJMounted12
import Derived.Test.YtelbannfbglgcaaJMounted11
import Derived.Test.YtelbannfbglgcaaJMounted33
import Derived.Test.YtelbannfbglgcaaJMounted29
import Derived.Test.YtelbannfbglgcaaJMounted30
import Derived.Test.YtelbannfbglgcaaJMounted21
namespace Go.Proofs.Ytelbannfbglgcaa
open Go.RowKit

theorem filter_one {xs : List Int} {p : Int} (h : ∀ i j : Nat, xs[i]? = some p → xs[j]? = some p → i = j) : xs.filter (fun x => x == p) = if p ∈ xs then [p] else [] := by
  induction xs with
  | nil => simp
  | cons y ys ih =>
    by_cases hy : y = p
    · have hn : p ∉ ys := by
        intro hm
        obtain ⟨j, hj⟩ := List.mem_iff_getElem?.1 hm
        have := h 0 (j + 1) (by simp [hy]) (by simpa using hj)
        omega
      have hf : ys.filter (fun x => x == p) = [] := by
        rw [List.filter_eq_nil_iff]
        intro x hx he
        exact hn ((by simpa using he) ▸ hx)
      rw [List.filter_cons, if_pos (by simpa using hy), hf, if_pos (by simp [hy]), hy]
    · rw [List.filter_cons, if_neg (by simpa using hy), ih (fun i j hi hj => by have := h (i + 1) (j + 1) (by simpa using hi) (by simpa using hj); omega)]
      have : (p ∈ y :: ys) ↔ p ∈ ys := by simp [Ne.symm hy]
      simp only [this]

theorem map_one (ps : List ByteArray) (p : Nat) : ∀ i j : Nat, (mMap ps)[i]? = some (p : Int) → (mMap ps)[j]? = some (p : Int) → i = j := by
  intro i j hi hj
  have hb : ∀ s : Nat, (mMap ps)[s]? = some (p : Int) → ∃ q d, recR (ps[p]?.getD ByteArray.empty) = some ((s : Int), q, d) := by
    intro s hs
    have hlt : s < 26 := by
      have := mMap_len ps
      rcases Nat.lt_or_ge s 26 with h' | h'
      · exact h'
      · rw [List.getElem?_eq_none (by omega)] at hs; cases hs
    rcases mUpto_inv ps 60 s hlt with ⟨h1, -⟩ | ⟨p', q, d, -, h2, -, h4⟩
    · have h1' : (mMap ps)[s]? = some (-1) := h1
      rw [h1'] at hs; injection hs with hs; omega
    · have h2' : (mMap ps)[s]? = some (p' : Int) := h2
      rw [h2'] at hs; injection hs with hs
      have : p' = p := by omega
      subst this
      exact ⟨q, d, h4⟩
  obtain ⟨q, d, h1⟩ := hb i hi
  obtain ⟨q', d', h2⟩ := hb j hj
  rw [h1] at h2
  simp at h2
  omega

theorem lives_in {ps : List ByteArray} {B i : Nat} (h : (B : Int) * 6 + i ∈ mMap ps) : livesU (mMap ps) B (i + 1) = livesU (mMap ps) B i ++ [(B : Int) * 6 + i] := by
  have e : ((B * 6 + i : Nat) : Int) = (B : Int) * 6 + i := by omega
  have := filter_one (map_one ps (B * 6 + i))
  rw [e, if_pos h] at this
  rw [livesU, this]
theorem lives_out {ps : List ByteArray} {B i : Nat} (h : (B : Int) * 6 + i ∉ mMap ps) : livesU (mMap ps) B (i + 1) = livesU (mMap ps) B i := by
  have e : ((B * 6 + i : Nat) : Int) = (B : Int) * 6 + i := by omega
  have := filter_one (map_one ps (B * 6 + i))
  rw [e, if_neg h] at this
  rw [livesU, this, List.append_nil]

/-- Lives of whatever came in. -/
def livesOf (ps : List ByteArray) (ws ms : List Int) (q b : Int) : List Int := if ftlOkB ps ws ms q = true ∧ 0 ≤ b ∧ b ≤ 9 then livesU ms b.toNat 6 else []
theorem livesOf_len (ps : List ByteArray) (ws ms : List Int) (q b : Int) : (livesOf ps ws ms q b).length ≤ 1000 := by
  unfold livesOf
  split
  · rename_i h
    obtain ⟨-, rfl, -⟩ := ftlOk_parts h.1
    have := livesU_len (mMap ps) b.toNat 6
    rw [mMap_len] at this
    omega
  · simp

set_option maxHeartbeats 1600000 in
theorem specLives_any (a b e0 : Option Addr) (ps : List ByteArray) (ws ms : List Int) (c d f : Nat) (q s : Int) (w : World) (hp : Rd w a (vsString ps)) (hw : Rd w b (vsInt ws)) (hms : Rd w e0 (vsInt ms)) (hl : ps.length ≤ 1048576) (hm : ws.length ≤ 1048576) (hn : ms.length ≤ 1048576) (hs : ∀ s ∈ ps, s.size ≤ 1048576) :
    Calls Try.prog 42 #[.agg #[.slice a ps.length c, .slice b ws.length d, .slice e0 ms.length f, .int .i64 q], .int .i64 s] w fun e w' => ∃ v, e = .returned v ∧ IntsOwn w' w.heap.size v (livesOf ps ws ms q s) ∧ Below w.heap.size w w' := by
  obtain ⟨R, hR⟩ : ∃ R, R = livesOf ps ws ms q s := ⟨_, rfl⟩
  rw [← hR]
  obtain ⟨A, hA⟩ : ∃ A, A = w.alloc (Obj.cells #[.slice a ps.length c, .slice b ws.length d, .slice e0 ms.length f, .int .i64 q] 47) := ⟨_, rfl⟩
  have hbA : Below w.heap.size w A := by rw [hA]; exact (Below.refl _ _).alloc (Nat.le_refl _) _
  have xA : At A w.heap.size [.slice a ps.length c, .slice b ws.length d, .slice e0 ms.length f, .int .i64 q] := by rw [hA]; exact at_new w [.slice a ps.length c, .slice b ws.length d, .slice e0 ms.length f, .int .i64 q] _
  have x0 : A.cell? ⟨w.heap.size, 0, none⟩ = some (.slice a ps.length c) := xA.2 0 (by simp)
  have x1 : A.cell? ⟨w.heap.size, 1, none⟩ = some (.slice b ws.length d) := xA.2 1 (by simp)
  have x2 : A.cell? ⟨w.heap.size, 2, none⟩ = some (.slice e0 ms.length f) := xA.2 2 (by simp)
  have x3 : A.cell? ⟨w.heap.size, 3, none⟩ = some (.int .i64 q) := xA.2 3 (by simp)
  by_cases hin : 0 ≤ s ∧ s ≤ 9
  · have hd : decide (0 ≤ s ∧ s ≤ 9) = true := by simpa using hin
    have HF := hide (specFtlOk_any a b e0 ps ws ms c d f q A (hp.below hbA) (hw.below hbA) (hms.below hbA) hl hm hn hs)
    cases hok : ftlOkB ps ws ms q with
    | false =>
      have HR : Hid (R = []) := by show _ = _; rw [hR, livesOf, if_neg (by simp [hok])]
      rw [hok] at HF
      clear hR hp hw hms hs hok
      go_enter Try.func42, Try.ntmps42
      go_wp2_with (first | (go_at_call 63; refine (in_any _ _ _ _).mono ?_; rw [hd]; rintro e u ⟨rfl, hu⟩; have hu' := hu.symm; subst hu') | (rw [← hA]; clear hA) | (go_at_call 33; refine HF.out.mono ?_; rintro e w1 ⟨rfl, hb1⟩; have HB1 := hide hb1; clear hb1))
      go_ret
      have hb := after hbA HB1.out
      refine ⟨_, rfl, ?_, hb.alloc hb.size _⟩
      rw [HR.out]
      exact World.ownsRow_made w1 #[] 0 hb.size (Nat.zero_le _) rfl
    | true =>
      obtain ⟨B, rfl⟩ : ∃ B : Nat, s = B := ⟨s.toNat, by omega⟩
      have HR : Hid (R = livesU ms B 6) := by show _ = _; rw [hR, livesOf, if_pos ⟨hok, hin⟩, Int.toNat_natCast]
      have HLV : Hid (∀ u, Below A.heap.size A u → Calls Try.prog 90 #[.agg #[.slice a ps.length c, .slice b ws.length d, .slice e0 ms.length f, .int .i64 q], .int .i64 B] u fun e w' => ∃ v, e = .returned v ∧ w'.ownsRow u.heap.size 3 1 v (livesU ms B 6).length (vsInt (livesU ms B 6)) ∧ Below u.heap.size u w') := fun u hu =>
        lives_any _ _ e0 ms f B q u (hms.below (after hbA hu)) hn (by omega)
      rw [hok] at HF
      clear hR hp hw hms hs hok hin
      go_enter Try.func42, Try.ntmps42
      go_wp2_with (first | (go_at_call 63; refine (in_any _ _ _ _).mono ?_; rw [hd]; rintro e u ⟨rfl, hu⟩; have hu' := hu.symm; subst hu') | (rw [← hA]; clear hA) | (go_at_call 33; refine HF.out.mono ?_; rintro e w1 ⟨rfl, hb1⟩; have HB1 := hide hb1; have x0 : w1.cell? ⟨w.heap.size, 0, none⟩ = some (.slice a ps.length c) := (xA.below hb1).2 0 (by simp); have x1 : w1.cell? ⟨w.heap.size, 1, none⟩ = some (.slice b ws.length d) := (xA.below hb1).2 1 (by simp); have x2 : w1.cell? ⟨w.heap.size, 2, none⟩ = some (.slice e0 ms.length f) := (xA.below hb1).2 2 (by simp); have x3 : w1.cell? ⟨w.heap.size, 3, none⟩ = some (.int .i64 q) := (xA.below hb1).2 3 (by simp); clear hb1) | (go_at_call 90; refine (HLV.out _ HB1.out).mono ?_; rintro e w2 ⟨v2, rfl, ho2, hb2⟩; have HB2 := hide hb2; have HO2 := hide ho2; clear hb2 ho2))
      go_ret
      have hb := after hbA HB1.out
      refine ⟨_, rfl, ?_, after hb HB2.out⟩
      rw [HR.out]
      exact owns_mono HO2.out hb.size
  · have hd : decide (0 ≤ s ∧ s ≤ 9) = false := by simpa using hin
    have HR : Hid (R = []) := by show _ = _; rw [hR, livesOf, if_neg (fun h => hin h.2)]
    clear hR hp hw hms hs hin
    go_enter Try.func42, Try.ntmps42
    go_wp2_with (first | (go_at_call 63; refine (in_any _ _ _ _).mono ?_; rw [hd]; rintro e u ⟨rfl, hu⟩; have hu' := hu.symm; subst hu') | (rw [← hA]; clear hA))
    go_ret
    refine ⟨_, rfl, ?_, hbA.alloc hbA.size _⟩
    rw [HR.out]
    exact World.ownsRow_made A #[] 0 hbA.size (Nat.zero_le _) rfl

set_option maxRecDepth 100000 in
set_option maxHeartbeats 3200000 in
theorem livesIn_any (e0 : Option Addr) (ps : List ByteArray) (f B : Nat) (w : World) (hms : Rd w e0 (vsInt (mMap ps))) (hB10 : B < 10) :
    Calls Try.prog 89 #[.slice e0 (mMap ps).length f, .int .i64 B] w fun e w' => ∃ v, e = .returned v ∧ IntsOwn w' w.heap.size v (livesU (mMap ps) B 6) ∧ Below w.heap.size w w' := by
  obtain ⟨i2, hi2, hz0, hz1, hz2⟩ := info_parts infoInt
  have HMS := hide hms
  clear hms
  go_enter Try.func89, Try.ntmps89
  go_wp2
  go_loopw [5, 8] (fun v i wr => ∃ k : Nat, k ≤ 6 ∧ i = .int .i64 k ∧ wr.ownsRow w.heap.size 3 1 v (livesU (mMap ps) B k).length (vsInt (livesU (mMap ps) B k)) ∧ Below w.heap.size w wr) (fun _ i _ => 6 - (intOf i).toNat)
  case atStart => exact ⟨0, Nat.zero_le _, rfl, World.ownsRow_nil _ _ _ _, Below.refl _ _⟩
  case round =>
    obtain ⟨k, hk, rfl, hown, hbr⟩ := hrel
    have hsr := hbr.size
    by_cases hlt : k < 6
    · have hll : (livesU (mMap ps) B k).length ≤ 156 := by
        have := livesU_len (mMap ps) B k
        rw [mMap_len] at this
        omega
      have HC := hide (containsInt_any e0 (mMap ps) f ((B : Int) * 6 + k) wr (HMS.out.below hbr) (by rw [mMap_len]; decide))
      by_cases hmem : (B : Int) * 6 + k ∈ mMap ps
      · rw [show decide ((B : Int) * 6 + k ∈ mMap ps) = true by simpa using hmem] at HC
        have HE := hide (lives_in hmem)
        clear hmem
        go_wp2_with (first | (go_at_call 118; refine HC.out.mono ?_; rintro e u ⟨rfl, hu⟩; have hu' := hu.symm; subst hu'; clear HC hu) | (at_builtin; go_must (refine wpList_append_one rfl _ _ 25 rfl w.heap.size 3 i2 (.int .i64 0) 8 Try.underlying25 hi2 hz0 hz1 hz2 rfl _ _ _ (.int .i64 ((B : Int) * 6 + k)) rfl hown rfl rfl (by omega) (by omega) hsr rfl ?_); intro v' u3 hown' hb'))
        go_roundw
        case rel => exact ⟨k + 1, by omega, by go_num, by rw [HE.out]; simpa using hown', hbr.trans hb'⟩
        case measure => simp [intOf]; omega
      · rw [show decide ((B : Int) * 6 + k ∈ mMap ps) = false by simpa using hmem] at HC
        have HE := hide (lives_out hmem)
        have HOWN := hide hown
        clear hmem hown
        go_wp2_with (first | (go_at_call 118; refine HC.out.mono ?_; rintro e u ⟨rfl, hu⟩; have hu' := hu.symm; subst hu'; clear HC hu))
        go_roundw
        case rel => exact ⟨k + 1, by omega, by go_num, by rw [HE.out]; exact HOWN.out, hbr⟩
        case measure => simp [intOf]; omega
    · obtain rfl : k = 6 := by omega
      have HOWN := hide hown
      clear hown
      go_wp2
      go_ret
      exact ⟨_, rfl, HOWN.out, hbr⟩

set_option maxRecDepth 100000 in
set_option maxHeartbeats 3200000 in
theorem implLives_any (a b e0 : Option Addr) (ps : List ByteArray) (ws ms : List Int) (c d f : Nat) (q s : Int) (w : World) (hp : Rd w a (vsString ps)) (hw : Rd w b (vsInt ws)) (hms : Rd w e0 (vsInt ms)) (hl : ps.length ≤ 1048576) (hm : ws.length ≤ 1048576) (hn : ms.length ≤ 1048576) (hs : ∀ s ∈ ps, s.size ≤ 1048576) :
    Calls Try.prog 41 #[.agg #[.slice a ps.length c, .slice b ws.length d, .slice e0 ms.length f, .int .i64 q], .int .i64 s] w fun e w' => ∃ v, e = .returned v ∧ IntsOwn w' w.heap.size v (livesOf ps ws ms q s) ∧ Below w.heap.size w w' := by
  obtain ⟨i2, hi2, hz0, hz1, hz2⟩ := info_parts infoInt
  obtain ⟨R, hR⟩ : ∃ R, R = livesOf ps ws ms q s := ⟨_, rfl⟩
  rw [← hR]
  obtain ⟨A, hA⟩ : ∃ A, A = w.alloc (Obj.cells #[.slice a ps.length c, .slice b ws.length d, .slice e0 ms.length f, .int .i64 q] 47) := ⟨_, rfl⟩
  have hbA : Below w.heap.size w A := by rw [hA]; exact (Below.refl _ _).alloc (Nat.le_refl _) _
  have xA : At A w.heap.size [.slice a ps.length c, .slice b ws.length d, .slice e0 ms.length f, .int .i64 q] := by rw [hA]; exact at_new w [.slice a ps.length c, .slice b ws.length d, .slice e0 ms.length f, .int .i64 q] _
  have x0 : A.cell? ⟨w.heap.size, 0, none⟩ = some (.slice a ps.length c) := xA.2 0 (by simp)
  have x1 : A.cell? ⟨w.heap.size, 1, none⟩ = some (.slice b ws.length d) := xA.2 1 (by simp)
  have x2 : A.cell? ⟨w.heap.size, 2, none⟩ = some (.slice e0 ms.length f) := xA.2 2 (by simp)
  have x3 : A.cell? ⟨w.heap.size, 3, none⟩ = some (.int .i64 q) := xA.2 3 (by simp)
  by_cases h0 : s < 0
  · have HR : Hid (R = []) := by show _ = _; rw [hR, livesOf, if_neg (by omega)]
    clear hR hp hw hms hs
    go_enter Try.func41, Try.ntmps41
    go_wp2_with (rw [← hA]; clear hA)
    go_ret
    exact ⟨_, rfl, by rw [HR.out]; exact World.ownsRow_nil _ _ _ _, hbA⟩
  by_cases h1 : 10 ≤ s
  · have HR : Hid (R = []) := by show _ = _; rw [hR, livesOf, if_neg (by omega)]
    clear hR hp hw hms hs
    go_enter Try.func41, Try.ntmps41
    go_wp2_with (rw [← hA]; clear hA)
    go_ret
    exact ⟨_, rfl, by rw [HR.out]; exact World.ownsRow_nil _ _ _ _, hbA⟩
  have HF := hide (implFtlOk_any a b e0 ps ws ms c d f q A (hp.below hbA) (hw.below hbA) (hms.below hbA) hl hm hn hs)
  cases hok : ftlOkB ps ws ms q with
  | false =>
    have HR : Hid (R = []) := by show _ = _; rw [hR, livesOf, if_neg (by simp [hok])]
    rw [hok] at HF
    clear hR hp hw hms hs hok
    go_enter Try.func41, Try.ntmps41
    go_wp2_with (first | (rw [← hA]; clear hA) | (go_at_call 31; refine HF.out.mono ?_; rintro e w1 ⟨rfl, hb1⟩; have HB1 := hide hb1; clear hb1))
    go_ret
    exact ⟨_, rfl, by rw [HR.out]; exact World.ownsRow_nil _ _ _ _, after hbA HB1.out⟩
  | true =>
    obtain ⟨-, rfl, rfl⟩ := ftlOk_parts hok
    obtain ⟨B, rfl⟩ : ∃ B : Nat, s = B := ⟨s.toNat, by omega⟩
    have hB10 : B < 10 := by omega
    have HR : Hid (R = livesU (mMap ps) B 6) := by show _ = _; rw [hR, livesOf, if_pos ⟨hok, by omega⟩, Int.toNat_natCast]
    rw [hok] at HF
    have HLV : Hid (∀ u, Below A.heap.size A u → Calls Try.prog 89 #[.slice e0 (mMap ps).length f, .int .i64 B] u fun e w' => ∃ v, e = .returned v ∧ IntsOwn w' u.heap.size v (livesU (mMap ps) B 6) ∧ Below u.heap.size u w') := fun u hu => livesIn_any e0 ps f B u (hms.below (after hbA hu)) hB10
    clear hR hp hw hms hs hok
    go_enter Try.func41, Try.ntmps41
    go_wp2_with (first | (rw [← hA]; clear hA) | (go_at_call 31; refine HF.out.mono ?_; rintro e w1 ⟨rfl, hb1⟩; have HB1 := hide hb1; have y2 : w1.cell? ⟨w.heap.size, 2, none⟩ = some (.slice e0 (mMap ps).length f) := (xA.below hb1).2 2 (by simp); clear hb1) | (go_at_call 89; refine (HLV.out w1 HB1.out).mono ?_; rintro e w2 ⟨v2, rfl, ho2, hb2⟩; have HB2 := hide hb2; have HO2 := hide ho2; clear hb2 ho2))
    go_ret
    have hb := after hbA HB1.out
    refine ⟨_, rfl, ?_, after hb HB2.out⟩
    rw [HR.out]
    exact owns_mono HO2.out hb.size

theorem fnExactLives_both (ps : List ByteArray) (ws : List Int) (ms : List Int) (q : Int) (block : Int) (hk0 : ps.length ≤ 1048576) (hk1 : ws.length ≤ 1048576) (hk2 : ms.length ≤ 1048576) (hs : ∀ s ∈ ps, s.size ≤ 1048576) (_hq : (Lit.int .i64 q).wf = true) (_hblock : (Lit.int .i64 block).wf = true) :
    ∃ (Gxs : List Int) , Gxs.length ≤ 1000 ∧ Hid (∀ (u : World) (v : Value), FtlRd u v ps ws ms q → Calls Try.prog 42 #[v, .int .i64 block] u fun e w' => ∃ v, e = .returned (v) ∧ IntsOwn w' u.heap.size v Gxs ∧ Below u.heap.size u w') ∧ Hid (∀ (u : World) (v : Value), FtlRd u v ps ws ms q → Calls Try.prog 41 #[v, .int .i64 block] u fun e w' => ∃ v, e = .returned (v) ∧ IntsOwn w' u.heap.size v Gxs ∧ Below u.heap.size u w') := by
  refine ⟨livesOf ps ws ms q block, livesOf_len _ _ _ _ _, ?_, ?_⟩
  · rintro u v ⟨a, c, b, d, e, f, rfl, h1, h2, h3⟩
    exact specLives_any a b e ps ws ms c d f q block u h1 h2 h3 hk0 hk1 hk2 hs
  · rintro u v ⟨a, c, b, d, e, f, rfl, h1, h2, h3⟩
    exact implLives_any a b e ps ws ms c d f q block u h1 h2 h3 hk0 hk1 hk2 hs

end Go.Proofs.Ytelbannfbglgcaa

namespace Go.Proofs.Ytelbannfbglgcaa
open Go.RowKit

theorem implRec_fn (ps : List ByteArray) (p : Nat) (t : ByteArray) (ht : ps[p]? = some t) (hs : t.size ≤ 1048576) : ∃ (s q : Int) (d : ByteArray) (B : Bool), recC ps p = (s, q, d) ∧ ∀ u, Calls Try.prog 29 #[.string t] u fun e w' => e = .returned (.tuple #[.agg #[.int .i64 s, .int .i64 q, .string d], .bool B]) ∧ Below u.heap.size u w' := by
  have he : ps[p]?.getD ByteArray.empty = t := by rw [ht]; rfl
  cases hr : recR t with
  | none => exact ⟨0, 0, ByteArray.empty, false, recC_none (by rw [he]; exact hr), fun u => (implRecRead_any t u hs).mono fun e w' h => ⟨h.2.1 hr, h.2.2⟩⟩
  | some r => obtain ⟨s, q, d⟩ := r; exact ⟨s, q, d, true, recC_some (by rw [he]; exact hr), fun u => (implRecRead_any t u hs).mono fun e w' h => ⟨h.1 s q d hr, h.2.2⟩⟩

/-- What sector s of a chip that is right has. -/
def secD (ps : List ByteArray) (s : Int) : ByteArray := if 0 ≤ s ∧ s ≤ 25 then dataAt ps ((mMap ps)[s.toNat]?.getD (-1)) else ByteArray.empty
theorem sectOf_eq {ps : List ByteArray} {ws ms : List Int} {q : Int} (s : Int) (h : ftlOkB ps ws ms q = true) : sectOf ps ws ms q s = secD ps s := by
  unfold sectOf secD
  simp [h]

set_option maxRecDepth 100000 in
set_option maxHeartbeats 3200000 in
theorem implSectorOf_any (a e0 : Option Addr) (p1 : Value) (ps : List ByteArray) (c f : Nat) (q s : Int) (w : World) (hp : Rd w a (vsString ps)) (hms : Rd w e0 (vsInt (mMap ps))) (hch : ps.length = 60) (hs : ∀ s ∈ ps, s.size ≤ 1048576) :
    Calls Try.prog 79 #[.agg #[.slice a ps.length c, p1, .slice e0 (mMap ps).length f, .int .i64 q], .int .i64 s] w fun e w' => e = .returned (.string (secD ps s)) ∧ Below w.heap.size w w' := by
  obtain ⟨R, hR⟩ : ∃ R, R = secD ps s := ⟨_, rfl⟩
  rw [← hR]
  obtain ⟨A, hA⟩ : ∃ A, A = w.alloc (Obj.cells #[.slice a ps.length c, p1, .slice e0 (mMap ps).length f, .int .i64 q] 47) := ⟨_, rfl⟩
  have hbA : Below w.heap.size w A := by rw [hA]; exact (Below.refl _ _).alloc (Nat.le_refl _) _
  have xA : At A w.heap.size [.slice a ps.length c, p1, .slice e0 (mMap ps).length f, .int .i64 q] := by rw [hA]; exact at_new w [.slice a ps.length c, p1, .slice e0 (mMap ps).length f, .int .i64 q] _
  have x0 : A.cell? ⟨w.heap.size, 0, none⟩ = some (.slice a ps.length c) := xA.2 0 (by simp)
  have x2 : A.cell? ⟨w.heap.size, 2, none⟩ = some (.slice e0 (mMap ps).length f) := xA.2 2 (by simp)
  obtain ⟨V, hV⟩ : ∃ V, V = A.alloc (Obj.cells #[.slice e0 (mMap ps).length f] 25) := ⟨_, rfl⟩
  have hbV : Below A.heap.size A V := by rw [hV]; exact (Below.refl _ _).alloc (Nat.le_refl _) _
  have cV : V.cell? ⟨A.heap.size, 0, none⟩ = some (.slice e0 (mMap ps).length f) := by rw [hV]; simp
  have hbwV := after hbA hbV
  have z0 := (hbV.cell (p := ⟨w.heap.size, 0, none⟩) (lt_of_cell x0)).trans x0
  have HPI := hide (placeIn_any e0 (mMap ps).length f A)
  rw [← hV] at HPI
  have HRV := hide (hms.below hbwV)
  have HPV := hide (hp.below hbwV)
  have HS := hide hs
  have HCH := hide hch
  have HR0 := hide hR
  clear hR hp hms hs hch xA hbV hV hbA
  go_enter Try.func79, Try.ntmps79
  go_wp2_with fail
  rw [← hA]
  clear hA
  refine HPI.out.mono ?_
  rintro e u ⟨rfl, hu⟩
  have hu' := hu.symm
  subst hu'
  clear HPI hu x0 x2
  by_cases hin : 0 ≤ s ∧ s ≤ 25
  · obtain ⟨S, rfl⟩ : ∃ S : Nat, s = S := ⟨s.toNat, by omega⟩
    obtain ⟨o, ho, ho1, ho2⟩ := map_old (ps := ps) (k := 60) (s := S) (by omega)
    have ho' : (mMap ps)[S]? = some o := ho
    have HR : Hid (R = dataAt ps o) := by show _ = _; rw [HR0.out, secD, if_pos hin, Int.toNat_natCast, ho']; rfl
    have HPL := hide (place_in A.heap.size e0 (mMap ps) f S o V cV HRV.out (by rw [mMap_len]; decide) ho')
    clear ho ho' HR0
    go_wp2_with fail
    refine HPL.out.mono ?_
    rintro e u ⟨rfl, hu⟩
    have hu' := hu.symm
    subst hu'
    clear HPL hu
    by_cases hneg : o = -1
    · have HR2 : Hid (R = ByteArray.empty) := by show _ = _; rw [HR.out, dataAt, if_pos (by omega)]
      subst hneg
      go_wp2
      go_ret
      exact ⟨by rw [HR2.out]; rfl, hbwV⟩
    · obtain ⟨p, rfl⟩ : ∃ p : Nat, o = p := ⟨o.toNat, by omega⟩
      have HR2 : Hid (R = (recC ps p).2.2) := by show _ = _; rw [HR.out, dataAt, if_neg (by omega), Int.toNat_natCast]
      have hp60 : p < ps.length := by have := HCH.out; omega
      have hpi : (p : Int) < (ps.length : Int) := by omega
      obtain ⟨bp, op, t, rfl, hct, HT⟩ := rdString_at HPV.out hp60
      obtain ⟨s1, q1, d1, B1, he1, hcall⟩ := implRec_fn ps p t HT.out (HS.out t (List.mem_of_getElem? HT.out))
      have HC := hide (hcall V)
      have HE := hide he1
      have ht : ((p : Int) == -1) = false := by simp
      clear hcall he1 hneg
      go_wp2_with fail
      refine HC.out.mono ?_
      rintro e w2 ⟨rfl, hb2⟩
      have hbw2 := after hbwV hb2
      clear hb2 HC z0 hct
      go_wp2
      go_ret
      exact ⟨by rw [HR2.out, HE.out]; rfl, hbw2.alloc hbw2.size _⟩
  · have HR : Hid (R = ByteArray.empty) := by show _ = _; rw [HR0.out, secD, if_neg hin]
    have HPL := hide (place_out A.heap.size e0 (mMap ps) f s V cV (by rw [mMap_len]; decide) (by rw [mMap_len]; omega))
    clear HR0
    go_wp2_with fail
    refine HPL.out.mono ?_
    rintro e u ⟨rfl, hu⟩
    have hu' := hu.symm
    subst hu'
    clear HPL hu hin
    go_wp2
    go_ret
    exact ⟨by rw [HR.out]; rfl, hbwV⟩

set_option maxRecDepth 100000 in
set_option maxHeartbeats 3200000 in
theorem implSector_any (a b e0 : Option Addr) (ps : List ByteArray) (ws ms : List Int) (c d f : Nat) (q s : Int) (w : World) (hp : Rd w a (vsString ps)) (hw : Rd w b (vsInt ws)) (hms : Rd w e0 (vsInt ms)) (hl : ps.length ≤ 1048576) (hm : ws.length ≤ 1048576) (hn : ms.length ≤ 1048576) (hs : ∀ s ∈ ps, s.size ≤ 1048576) :
    Calls Try.prog 45 #[.agg #[.slice a ps.length c, .slice b ws.length d, .slice e0 ms.length f, .int .i64 q], .int .i64 s] w fun e w' => e = .returned (.string (sectOf ps ws ms q s)) ∧ Below w.heap.size w w' := by
  obtain ⟨R, hR⟩ : ∃ R, R = sectOf ps ws ms q s := ⟨_, rfl⟩
  rw [← hR]
  obtain ⟨A, hA⟩ : ∃ A, A = w.alloc (Obj.cells #[.slice a ps.length c, .slice b ws.length d, .slice e0 ms.length f, .int .i64 q] 47) := ⟨_, rfl⟩
  have hbA : Below w.heap.size w A := by rw [hA]; exact (Below.refl _ _).alloc (Nat.le_refl _) _
  have xA : At A w.heap.size [.slice a ps.length c, .slice b ws.length d, .slice e0 ms.length f, .int .i64 q] := by rw [hA]; exact at_new w [.slice a ps.length c, .slice b ws.length d, .slice e0 ms.length f, .int .i64 q] _
  have x0 : A.cell? ⟨w.heap.size, 0, none⟩ = some (.slice a ps.length c) := xA.2 0 (by simp)
  have x1 : A.cell? ⟨w.heap.size, 1, none⟩ = some (.slice b ws.length d) := xA.2 1 (by simp)
  have x2 : A.cell? ⟨w.heap.size, 2, none⟩ = some (.slice e0 ms.length f) := xA.2 2 (by simp)
  have x3 : A.cell? ⟨w.heap.size, 3, none⟩ = some (.int .i64 q) := xA.2 3 (by simp)
  have HF := hide (implFtlOk_any a b e0 ps ws ms c d f q A (hp.below hbA) (hw.below hbA) (hms.below hbA) hl hm hn hs)
  cases hok : ftlOkB ps ws ms q with
  | false =>
    have HR : Hid (R = ByteArray.empty) := by show _ = _; rw [hR, sectOf, if_neg (by simp [hok])]
    rw [hok] at HF
    clear hR hp hw hms hs hok
    go_enter Try.func45, Try.ntmps45
    go_wp2_with (first | (rw [← hA]; clear hA) | (go_at_call 31; refine HF.out.mono ?_; rintro e w1 ⟨rfl, hb1⟩; have HB1 := hide hb1; clear hb1))
    go_ret
    exact ⟨by rw [HR.out]; rfl, after hbA HB1.out⟩
  | true =>
    have HR : Hid (R = secD ps s) := by show _ = _; rw [hR, sectOf_eq s hok]
    obtain ⟨hch, rfl, rfl⟩ := ftlOk_parts hok
    rw [hok] at HF
    have HSC : Hid (∀ u, Below A.heap.size A u → Calls Try.prog 79 #[.agg #[.slice a ps.length c, .slice b ws.length d, .slice e0 (mMap ps).length f, .int .i64 (mSeq ps)], .int .i64 s] u fun e w' => e = .returned (.string (secD ps s)) ∧ Below u.heap.size u w') := by
      intro u hu
      have hbu := after hbA hu
      exact implSectorOf_any a e0 _ ps c f _ s u (hp.below hbu) (hms.below hbu) hch.1 hs
    obtain ⟨D, hD⟩ : ∃ D, D = secD ps s := ⟨_, rfl⟩
    rw [← hD] at HR HSC
    clear hR hp hw hms hs hok hch hD
    go_enter Try.func45, Try.ntmps45
    go_wp2_with (first | (rw [← hA]; clear hA) | (go_at_call 31; refine HF.out.mono ?_; rintro e w1 ⟨rfl, hb1⟩; have HB1 := hide hb1; have x0 : w1.cell? ⟨w.heap.size, 0, none⟩ = some (.slice a ps.length c) := (xA.below hb1).2 0 (by simp); have x1 : w1.cell? ⟨w.heap.size, 1, none⟩ = some (.slice b ws.length d) := (xA.below hb1).2 1 (by simp); have x2 : w1.cell? ⟨w.heap.size, 2, none⟩ = some (.slice e0 (mMap ps).length f) := (xA.below hb1).2 2 (by simp); have x3 : w1.cell? ⟨w.heap.size, 3, none⟩ = some (.int .i64 (mSeq ps)) := (xA.below hb1).2 3 (by simp); clear hb1) | (go_at_call 79; refine (HSC.out _ HB1.out).mono ?_; rintro e w2 ⟨rfl, hb2⟩; have HB2 := hide hb2; clear hb2))
    go_ret
    exact ⟨by rw [HR.out]; rfl, after (after hbA HB1.out) HB2.out⟩

theorem fnExactSector_both (ps : List ByteArray) (ws : List Int) (ms : List Int) (q : Int) (sec : Int) (hk0 : ps.length ≤ 1048576) (hk1 : ws.length ≤ 1048576) (hk2 : ms.length ≤ 1048576) (hs : ∀ s ∈ ps, s.size ≤ 1048576) (_hq : (Lit.int .i64 q).wf = true) (_hsec : (Lit.int .i64 sec).wf = true) :
    ∃  (S0 : ByteArray), Hid (∀ (u : World) (v : Value), FtlRd u v ps ws ms q → Calls Try.prog 46 #[v, .int .i64 sec] u fun e w' => e = .returned (.string S0) ∧ Below u.heap.size u w') ∧ Hid (∀ (u : World) (v : Value), FtlRd u v ps ws ms q → Calls Try.prog 45 #[v, .int .i64 sec] u fun e w' => e = .returned (.string S0) ∧ Below u.heap.size u w') := by
  refine ⟨sectOf ps ws ms q sec, ?_, ?_⟩
  · rintro u v ⟨a, c, b, d, e, f, rfl, h1, h2, h3⟩
    exact specSector_any a b e ps ws ms c d f q sec u h1 h2 h3 hk0 hk1 hk2 hs
  · rintro u v ⟨a, c, b, d, e, f, rfl, h1, h2, h3⟩
    exact implSector_any a b e ps ws ms c d f q sec u h1 h2 h3 hk0 hk1 hk2 hs

end Go.Proofs.Ytelbannfbglgcaa

namespace Go.Proofs.Ytelbannfbglgcaa
open Go.RowKit

theorem DChip.chipRd {w : World} {lo c d : Nat} {a b : Option Addr} {ps : List ByteArray} {ws : List Int} (h : DChip w lo a c b d ps ws) : ChipRd w (.agg #[.slice a ps.length c, .slice b ws.length d]) ps ws := ⟨a, c, b, d, rfl, h.1.1, h.1.2⟩
theorem DChip.capOk {w : World} {lo c d : Nat} {a b : Option Addr} {ps : List ByteArray} {ws : List Int} (h : DChip w lo a c b d ps ws) : CapOk (.agg #[.slice a ps.length c, .slice b ws.length d]) := by
  intro x a' n c' hx hs
  subst hs
  simp only [Value.cells, List.mem_cons, List.not_mem_nil, or_false] at hx
  rcases hx with hx | hx
  · injection hx with h1 h2 h3
    subst h1 h2 h3; exact h.2.2.2.1.1
  · injection hx with h1 h2 h3
    subst h1 h2 h3; exact h.2.2.2.1.2
theorem DFtl.ftlRd {w : World} {lo c d f : Nat} {a b e : Option Addr} {ps : List ByteArray} {ws ms : List Int} (q : Int) (h : DFtl w lo a c b d e f ps ws ms) : FtlRd w (.agg #[.slice a ps.length c, .slice b ws.length d, .slice e ms.length f, .int .i64 q]) ps ws ms q := ⟨a, c, b, d, e, f, rfl, h.1.1.1, h.1.1.2, h.2.1⟩

theorem freeB_clr (ps : List ByteArray) : ∀ (k : Nat) (y : Int), y ∈ freeB ps k → ∃ c : Nat, y = c ∧ c < k ∧ (clr ps c 6).1 = 6 := by
  intro k
  induction k with
  | zero => intro y hy; simp [freeB] at hy
  | succ k ih =>
    intro y hy
    unfold freeB at hy
    split at hy
    · next h6 =>
      rcases List.mem_append.1 hy with h | h
      · obtain ⟨c, h1, h2, h3⟩ := ih y h
        exact ⟨c, h1, by omega, h3⟩
      · simp at h
        exact ⟨k, h, by omega, h6⟩
    · obtain ⟨c, h1, h2, h3⟩ := ih y hy
      exact ⟨c, h1, by omega, h3⟩

/-- NextPage of a drawn chip: both answer it, and that page is clear. -/
theorem next_law (ps : List ByteArray) (ws : List Int) (hk0 : ps.length ≤ 1048576) (hk1 : ws.length ≤ 1048576) (hs : ∀ s ∈ ps, s.size ≤ 1048576) :
    ∃ R : Int, (0 ≤ R → ∃ k : Nat, R = k ∧ k < ps.length ∧ ps[k]? = some ByteArray.empty) ∧
      Hid (∀ (u : World) (v : Value), ChipRd u v ps ws → CapOk v → Calls Try.prog 38 #[v] u fun e w' => e = .returned (.int .i64 R) ∧ Below u.heap.size u w') ∧ Hid (∀ (u : World) (v : Value), ChipRd u v ps ws → CapOk v → Calls Try.prog 35 #[v] u fun e w' => e = .returned (.int .i64 R) ∧ Below u.heap.size u w') := by
  by_cases hok : chipOkP ps ws
  · refine ⟨nextP ps ws, fun h => ?_, ?_, ?_⟩
    · obtain ⟨k, hk⟩ : ∃ k : Nat, nextP ps ws = k := ⟨(nextP ps ws).toNat, by omega⟩
      obtain ⟨h1, h2⟩ := next_clear hok.1 hk
      exact ⟨k, hk, by have := hok.1; omega, h2⟩
    · rintro u v ⟨a, c, b, d, rfl, h1, h2⟩ _
      exact specNext_any a b ps ws c d u h1 h2 hk0 hk1 hs _ (fun _ => rfl) (fun h => absurd hok h)
    · rintro u v ⟨a, c, b, d, rfl, h1, h2⟩ hcap
      exact implNext_ok a b ps ws c d u h1 h2 hok (by have := (chip_caps hcap).1; have := hok.1; omega)
  · refine ⟨-1, fun h => by omega, ?_, ?_⟩
    · rintro u v ⟨a, c, b, d, rfl, h1, h2⟩ _
      exact specNext_any a b ps ws c d u h1 h2 hk0 hk1 hs _ (fun h => absurd h hok) (fun _ => rfl)
    · rintro u v ⟨a, c, b, d, rfl, h1, h2⟩ _
      exact implNext_bad a b ps ws c d u h1 h2 hk0 hk1 hs hok
/-- FreeBlocks of a drawn chip: both answer it, and all pages of those blocks are clear. -/
theorem free_law (ps : List ByteArray) (ws : List Int) (hk0 : ps.length ≤ 1048576) (hk1 : ws.length ≤ 1048576) (hs : ∀ s ∈ ps, s.size ≤ 1048576) :
    ∃ fr : List Int, fr.length ≤ 10 ∧ (∀ x ∈ fr, ∃ B : Nat, x = B ∧ B < 10 ∧ ps.length = 60 ∧ ∀ j, j < 6 → ps[B * 6 + j]? = some ByteArray.empty) ∧
      Hid (∀ (u : World) (v : Value), ChipRd u v ps ws → CapOk v → Calls Try.prog 39 #[v] u fun e w' => ∃ v, e = .returned (v) ∧ IntsOwn w' u.heap.size v fr ∧ Below u.heap.size u w') ∧ Hid (∀ (u : World) (v : Value), ChipRd u v ps ws → CapOk v → Calls Try.prog 37 #[v] u fun e w' => ∃ v, e = .returned (v) ∧ IntsOwn w' u.heap.size v fr ∧ Below u.heap.size u w') := by
  by_cases hok : chipOkP ps ws
  · refine ⟨freeB ps 10, freeB_len ps 10, fun x hx => ?_, ?_, ?_⟩
    · obtain ⟨B, h1, h2, h3⟩ := freeB_clr ps 10 x hx
      refine ⟨B, h1, h2, hok.1, fun j hj => emp_at hok.1 (by omega) ?_⟩
      exact (clr_all ps B 6).1 h3 j hj
    · rintro u v ⟨a, c, b, d, rfl, h1, h2⟩ _
      exact specFree_ok a b ps ws c d u h1 h2 hok
    · rintro u v ⟨a, c, b, d, rfl, h1, h2⟩ hcap
      exact implFree_ok a b ps ws c d u h1 h2 hok (by have := (chip_caps hcap).1; have := hok.1; omega)
  · refine ⟨[], (by decide), (fun x hx => (by cases hx)), ?_, ?_⟩
    · rintro u v ⟨a, c, b, d, rfl, h1, h2⟩ _
      exact specFree_bad a b ps ws c d u h1 h2 hk0 hk1 hs hok
    · rintro u v ⟨a, c, b, d, rfl, h1, h2⟩ _
      exact implFree_bad a b ps ws c d u h1 h2 hk0 hk1 hs hok
/-- Lives of what was drawn: both answer it, each page is of that block and in the map. -/
theorem lives_law (ps : List ByteArray) (ws ms : List Int) (q s : Int) (hk0 : ps.length ≤ 1048576) (hk1 : ws.length ≤ 1048576) (hk2 : ms.length ≤ 1048576) (hs : ∀ s ∈ ps, s.size ≤ 1048576) :
    ∃ ls : List Int, ls.length ≤ 1000 ∧ (∀ x ∈ ls, 0 ≤ x ∧ x ≤ 1000 ∧ x / 6 = s ∧ x ∈ ms) ∧
      Hid (∀ (u : World) (v : Value), FtlRd u v ps ws ms q → Calls Try.prog 42 #[v, .int .i64 s] u fun e w' => ∃ v, e = .returned v ∧ IntsOwn w' u.heap.size v ls ∧ Below u.heap.size u w') ∧ Hid (∀ (u : World) (v : Value), FtlRd u v ps ws ms q → Calls Try.prog 41 #[v, .int .i64 s] u fun e w' => ∃ v, e = .returned v ∧ IntsOwn w' u.heap.size v ls ∧ Below u.heap.size u w') := by
  refine ⟨livesOf ps ws ms q s, livesOf_len _ _ _ _ _, fun x hx => ?_, ?_, ?_⟩
  · unfold livesOf at hx
    split at hx
    · next h =>
      have hm : ∀ i, ∀ x ∈ livesU ms s.toNat i, x ∈ ms := by
        intro i
        induction i with
        | zero => intro x hx; simp [livesU] at hx
        | succ i ih =>
          intro x hx
          unfold livesU at hx
          rcases List.mem_append.1 hx with h | h
          · exact ih x h
          · exact (List.mem_filter.1 h).1
      have hb := lives_bd (ms := ms) (B := s.toNat) 6 x hx
      refine ⟨by omega, by omega, by omega, hm 6 x hx⟩
    · cases hx
  · rintro u v ⟨a, c, b, d, e, f, rfl, h1, h2, h3⟩
    exact specLives_any a b e ps ws ms c d f q s u h1 h2 h3 hk0 hk1 hk2 hs
  · rintro u v ⟨a, c, b, d, e, f, rfl, h1, h2, h3⟩
    exact implLives_any a b e ps ws ms c d f q s u h1 h2 h3 hk0 hk1 hk2 hs

set_option maxHeartbeats 400000 in
theorem sameInts_any (a b : Option Addr) (xs : List Int) (c d : Nat) (w : World) (hr : Rd w a (vsInt xs)) (hs : Rd w b (vsInt xs)) (hm : xs.length ≤ 1048576) :
    Calls Try.prog 25 #[.slice a xs.length c, .slice b xs.length d] w fun e w' => e = .returned (.bool true) ∧ Below w.heap.size w w' := by
  have HR := hide hr
  have HS := hide hs
  clear hr hs
  go_enter Try.func25, Try.ntmps25
  go_wp2
  go_loopw [5] (fun i wr => ∃ k : Nat, k ≤ xs.length ∧ i = .int .i64 k ∧ ∃ n, wr = w.drewN n) (fun i _ => xs.length - (intOf i).toNat)
  case atStart => exact ⟨0, Nat.zero_le _, rfl, 0, rfl⟩
  case round =>
    obtain ⟨k, hk, rfl, n, rfl⟩ := hrel
    by_cases hlt : k < xs.length
    · obtain ⟨ba, oa, z, rfl, hck, HZ⟩ := rdInt_at HR.out hlt
      obtain ⟨bb, ob, y, rfl, hcy, HY⟩ := rdInt_at HS.out hlt
      have hzy : z = y := by have h := HZ.out; rw [HY.out] at h; exact (Option.some.inj h).symm
      subst hzy
      have hki : (k : Int) < (xs.length : Int) := by omega
      have ht : (z != z) = false := by simp
      go_wp2
      go_quiet (fail)
      go_wp2
      go_roundw
      case rel => exact ⟨k + 1, by omega, by go_num, _, rfl⟩
      case measure => simp [intOf]; omega
    · have hkl : k = xs.length := by omega
      subst hkl
      go_wp2
      go_ret
      exact ⟨rfl, after_drew (Below.refl _ _) n⟩

set_option maxHeartbeats 400000 in
theorem within_any (a : Option Addr) (xs : List Int) (c : Nat) (x : Int) (w : World) (hr : Rd w a (vsInt xs)) (hx : x ∈ xs) (hm : xs.length ≤ 1048576) :
    Calls Try.prog 43 #[.slice a xs.length c, .int .i64 x] w fun e w' => e = .returned (.bool true) ∧ w' = w := by
  have HR := hide hr
  obtain ⟨j, hj⟩ := List.mem_iff_getElem?.1 hx
  have HJ := hide hj
  have hjl : j < xs.length := by
    rcases Nat.lt_or_ge j xs.length with h' | h'
    · exact h'
    · simp [h'] at hj
  clear hr hx hj
  go_enter Try.func43, Try.ntmps43
  go_wp2
  go_loop [5] (fun i => ∃ k : Nat, k ≤ j ∧ i = .int .i64 k) (fun i => j + 1 - (intOf i).toNat)
  case atStart => exact ⟨0, Nat.zero_le _, rfl⟩
  case round =>
    obtain ⟨k, hk, rfl⟩ := hrel
    have hlt : k < xs.length := by omega
    obtain ⟨ba, oa, z, rfl, hck, HZ⟩ := rdInt_at HR.out hlt
    have hki : (k : Int) < (xs.length : Int) := by omega
    by_cases hzx : z = x
    · subst hzx
      have ht : (z == z) = true := by simp
      go_wp2
      go_ret
      exact ⟨rfl, rfl⟩
    · have ht : (z == x) = false := by simpa using hzx
      have hkj : k ≠ j := by
        intro e; subst e
        have h := HZ.out; rw [HJ.out] at h
        exact hzx (Option.some.inj h).symm
      go_wp2
      go_round
      case rel => exact ⟨k + 1, by omega, by go_num⟩
      case measure => simp [intOf]; omega

end Go.Proofs.Ytelbannfbglgcaa
