/-
  Contracts of math/bits.Mul and slices.Repeat at what the program hands them: one -1, 26 times.
  Contract of the program's Mount, of a chip that is right.
  Contract of the program's FtlOk; what the two FtlOks answer: the same.
-/
import Derived.Test.YtelbannfbglgcaaJMounted8
import Derived.Laws.MakeOwn
import Derived.Laws.CopyOwn
import Derived.Deep.RegionLaw
import Derived.Test.YtelbannfbglgcaaJMounted32
import Derived.Deep.QuietTactic
import Derived.BigQuiet
import Derived.Test.YtelbannfbglgcaaJMounted10
import Derived.Test.YtelbannfbglgcaaJMounted12
namespace Go.Proofs.Ytelbannfbglgcaa
open Go.RowKit

set_option maxHeartbeats 1600000 in
theorem mul64_any (w : World) : Calls Try.prog 127 #[.int .u64 1, .int .u64 26] w fun e w' => e = .returned (.tuple #[.int .u64 0, .int .u64 26]) ∧ w' = w := by
  go_enter Try.func127, Try.ntmps127
  go_wp2
  go_ret2
  exact ⟨rfl, rfl⟩

set_option maxHeartbeats 1600000 in
theorem mul_any (w : World) : Calls Try.prog 106 #[.int .u64 1, .int .u64 26] w fun e w' => e = .returned (.tuple #[.int .u64 0, .int .u64 26]) ∧ w' = w := by
  go_enter Try.func106, Try.ntmps106
  go_wp2_with fail
  refine (mul64_any _).mono ?_
  rintro e u ⟨rfl, hu⟩
  have hu' := hu.symm
  subst hu'
  go_wp2
  go_ret2
  exact ⟨rfl, rfl⟩

/-- The row that Repeat fills: n of them are there. -/
def repL (n : Nat) : List Value := vsInt (List.replicate n (-1)) ++ List.replicate (26 - n) (Value.int .i64 0)
theorem repL_len {n : Nat} (h : n ≤ 26) : (repL n).length = 26 := by simp [repL]; omega
theorem repL_splice (n m : Nat) : splice (repL n) n (vsInt (List.replicate m (-1))) = repL (n + m) := by
  have e1 : (repL n).take n = vsInt (List.replicate n (-1)) := by
    unfold repL; rw [List.take_left' (by simp)]
  have e2 : (repL n).drop (n + m) = List.replicate (26 - (n + m)) (Value.int .i64 0) := by
    unfold repL
    rw [List.drop_append, List.drop_eq_nil_of_le (by simp), List.nil_append, List.drop_replicate]
    congr 1
    simp; omega
  have e3 : vsInt (List.replicate (n + m) (-1)) = vsInt (List.replicate n (-1)) ++ vsInt (List.replicate m (-1)) := by
    rw [← List.map_append, List.replicate_append_replicate]
  simp only [splice, List.length_map, List.length_replicate, e1, e2]
  rw [repL, e3, List.append_assoc]
theorem szInt1 : (Try.prog.info? 3).map (·.size) = some 1 := by kernel_rfl
theorem made_n (n : Nat) : madeCells (Value.int .i64 0).cells n = (List.replicate n (Value.int .i64 0)).toArray :=
  Array.ext (by simp [madeCells]) (fun i h1 h2 => by simp [madeCells, Value.cells, Nat.mod_one])
theorem made26 : madeCells (Value.int .i64 0).cells 26 = (repL 0).toArray := by
  rw [made_n]; rfl
theorem repL_at {n j : Nat} {v : Value} {m : Nat} (hm : m ≤ n) (hv : (vsInt (List.replicate m (-1)))[j]? = some v) : (repL n).toArray[j]? = some v := by
  have hj : j < m := by
    rcases Nat.lt_or_ge j m with h' | h'
    · exact h'
    · simp [h'] at hv
  have e : v = .int .i64 (-1) := by
    rw [List.getElem?_map, List.getElem?_replicate_of_lt hj] at hv; simpa using hv.symm
  subst e
  simp only [List.getElem?_toArray, repL]
  rw [List.getElem?_append_left (by simp; omega), List.getElem?_map, List.getElem?_replicate_of_lt (by omega)]
  rfl

theorem heap_cell {w : World} {g j : Nat} {C : Array Value} {t : TypeId} {v : Value} (h : w.heap[g]? = some (.cells C t (0, 0))) (hv : C[j]? = some v) : w.cell? ⟨g, j, none⟩ = some v := by
  simp [World.cell?, h, hv]

set_option maxRecDepth 100000 in
set_option maxHeartbeats 3200000 in
theorem repeat_any (b o c : Nat) (w : World) (hc : w.cell? ⟨b, o, none⟩ = some (.int .i64 (-1))) :
    Calls Try.prog 72 #[.slice (some ⟨b, o, none⟩) 1 c, .int .i64 26] w fun e w' => e = .returned (.slice (some ⟨w.heap.size, 0, none⟩) 26 26) ∧ w'.heap[w.heap.size]? = some (.cells (vsInt (List.replicate 26 (-1))).toArray 3 (0, 0)) ∧ Below w.heap.size w w' := by
  obtain ⟨i2, hi2, hz0, hz1, hz2⟩ := info_parts infoInt
  have k26 : ∀ w, (Instr.makeSlice 25 (.int .i64 26) (.int .i64 26)).run Try.prog w = .ok (.slice (some ⟨w.heap.size, 0, none⟩) 26 26) (w.alloc (.cells (repL 0).toArray 3)) := by
    intro w
    have := run_make (P := Try.prog) w 25 3 i2 _ Try.underlying25 hi2 hz0 .i64 .i64 26 26 (by decide) (by decide) (by rw [hz2]; decide) (by decide)
    rw [hz1, show Int.toNat 26 * 1 = 26 from rfl, made26] at this
    exact this
  obtain ⟨Z, hZ⟩ : ∃ Z, Z = (repL 0).toArray := ⟨_, rfl⟩
  rw [← hZ] at k26
  obtain ⟨W, hW⟩ : ∃ W, W = w.alloc (.cells Z 3) := ⟨_, rfl⟩
  have hbW : Below w.heap.size w W := by rw [hW]; exact (Below.refl _ _).alloc (Nat.le_refl _) _
  have HG : Hid (W.heap[w.heap.size]? = some (.cells (repL 0).toArray 3 (0, 0))) := by show _ = _; rw [hW, hZ]; exact Go.heap_alloc_new w _
  have HC : Hid (W.cell? ⟨b, o, none⟩ = some (.int .i64 (-1))) := (hbW.cell (p := ⟨b, o, none⟩) (lt_of_cell hc)).trans hc
  have HB := hide hbW
  clear hZ hz0 hz1 hz2 hc hbW
  go_enter Try.func72, Try.ntmps72
  go_wp2_with fail
  refine (mul_any _).mono ?_
  rintro e u ⟨rfl, hu⟩
  have hu' := hu.symm
  subst hu'
  go_wp2_with (rw [← hW]; refine wpList_copy_splice rfl (.tmp 31) (.tmp 32) 25 25 rfl 3 Try.underlying25 szInt1 _ _ _ _ _ _ rfl rfl w.heap.size 0 (repL 0) 3 HG.out (vsInt (List.replicate 1 (-1))) rfl (fun _ => ⟨rfl, _, rfl, ?q1⟩) (by decide) ?q2 w.heap.size w HB.out (Nat.le_refl _) ?_)
  case q1 =>
    intro j v hv
    match j, hv with
    | 0, hv => simp at hv; subst hv; simpa [Addr.add] using HC.out
  case q2 => intro v hv; simp at hv; subst hv; rfl
  intro w1 HG1 hB1
  have hg1 : w1.heap[w.heap.size]? = some (.cells (repL 1).toArray 3 (0, 0)) := by
    have := HG1.out
    exact (repL_splice 0 1) ▸ this
  clear HG HC HB HG1 hW k26
  go_wp2_with fail
  go_loopw [8] (fun i wr => ∃ n : Nat, 1 ≤ n ∧ n ≤ 26 ∧ i = .int .i64 n ∧ wr.heap[w.heap.size]? = some (.cells (repL n).toArray 3 (0, 0)) ∧ Below w.heap.size w wr) (fun i _ => 26 - (intOf i).toNat)
  case atStart => exact ⟨1, by omega, by omega, rfl, hg1, hB1⟩
  case round =>
    obtain ⟨n, hn1, hn2, rfl, hg, hB⟩ := hrel
    clear hg1 hB1
    by_cases hlt : n < 26
    · have HG2 : Hid (wr.drew.heap[w.heap.size]? = some (.cells (repL n).toArray 3 (0, 0))) := hg
      have HB2 : Hid (Below w.heap.size w wr.drew) := after_drew hB 1
      obtain ⟨m, hm⟩ : ∃ m, m = Nat.min n (26 - n) := ⟨_, rfl⟩
      have HN : Hid ((vsInt (List.replicate m (-1))).length = Nat.min n (26 - n)) := by show _ = _; simp [hm]
      have hm1 : 1 ≤ m ∧ m ≤ n ∧ n + m ≤ 26 := by rw [hm]; have : Nat.min n (26 - n) = min n (26 - n) := rfl; omega
      have HF : Hid (n + (vsInt (List.replicate m (-1))).length ≤ (repL n).length) := by show _ ≤ _; rw [repL_len hn2]; simp; omega
      have HC2 : Hid (∀ j v, (vsInt (List.replicate m (-1)))[j]? = some v → wr.drew.cell? ((⟨w.heap.size, 0, none⟩ : Addr).add j) = some v) := fun j v hv => by
        rw [add_at, Nat.zero_add]
        exact heap_cell HG2.out (repL_at hm1.2.1 hv)
      have HO : Hid (∀ v ∈ vsInt (List.replicate m (-1)), v.oneCell' = true) := fun v hv => by
        simp at hv; obtain ⟨_, rfl⟩ := hv; rfl
      have m1 := hm1.1
      have m2 := hm1.2.1
      have m3 := hm1.2.2
      clear hm1
      have q1 : (n : Int) ≤ 26 := by omega
      have q2 : ¬ 26 = n := by omega
      have q3 : IntKind.i64.wrap ((n : Int) + m) = n + m := by rw [IntKind.wrap_i64]; omega
      clear hm hg hB
      go_wp2_with fail
      go_region_law (refine step_copy_splice rfl (.tmp 41) (.tmp 44) 25 25 rfl 3 Try.underlying25 szInt1 _ _ _ _ _ _ (by rfl) (by rfl) w.heap.size n (repL n) 3 HG2.out (vsInt (List.replicate m (-1))) HN.out (fun _ => ⟨rfl, _, rfl, HC2.out⟩) HF.out HO.out w.heap.size w HB2.out (Nat.le_refl _) ?_; intro w4 HG4 hB4)
      have hB5 := hB4
      have HG5 : Hid (w4.heap[w.heap.size]? = some (.cells (repL (n + m)).toArray 3 (0, 0))) := by
        have := HG4.out
        rw [repL_splice n m] at this
        exact this
      clear HG4 HG2 HC2 HB2 HF HO HN hB4
      go_simp
      go_wp2
      go_roundw
      case rel => exact ⟨n + m, by omega, by omega, by go_num, HG5.out, hB5⟩
      case measure => simp [intOf]; omega
    · obtain rfl : n = 26 := by omega
      have HE : Hid (wr.heap[w.heap.size]? = some (.cells (vsInt (List.replicate 26 (-1))).toArray 3 (0, 0))) := by
        show _ = _
        rw [hg]; simp [repL]
      clear hg
      go_wp2
      go_ret
      exact ⟨rfl, HE.out, hB⟩

end Go.Proofs.Ytelbannfbglgcaa

namespace Go.Proofs.Ytelbannfbglgcaa
open Go.RowKit

theorem MI.alloc {V : World} {gm : Nat} {ps : List ByteArray} {k : Nat} {wr : World} (h : MI V gm ps k wr) (he : (mUpto ps (k + 1)).2.1 = (mUpto ps k).2.1) (o : Obj) : MI V gm ps (k + 1) (wr.alloc o) := by
  have hb : Below wr.heap.size wr (wr.alloc o) := (Below.refl _ _).alloc (Nat.le_refl _) _
  refine ⟨h.1.keep (hb.mono h.1.size), ?_⟩
  rw [he]
  exact (hb.block gm (Array.getElem?_eq_some_iff.1 h.2).1).trans h.2

theorem MI.stored {V : World} {gm : Nat} {ps : List ByteArray} {k S : Nat} {wr U : World} (h : MI V gm ps k wr) (hb : Below wr.heap.size wr U) (he : (mUpto ps (k + 1)).2.1 = (mUpto ps k).2.1.set (S : Int).toNat (k : Int)) (n : Nat) : MI V gm ps (k + 1) ((U.drewN n).setCell ⟨gm, S, none⟩ (.int .i64 k)) := by
  have hb' := after_drew hb n
  refine ⟨(h.1.keep (hb'.mono h.1.size)).set (by simp) _ _, ?_⟩
  rw [he, Int.toNat_natCast]
  exact rowSet ((hb'.block gm (Array.getElem?_eq_some_iff.1 h.2).1).trans h.2)
theorem MI.kept {V : World} {gm : Nat} {ps : List ByteArray} {k : Nat} {wr U : World} (h : MI V gm ps k wr) (hb : Below wr.heap.size wr U) (he : (mUpto ps (k + 1)).2.1 = (mUpto ps k).2.1) (n : Nat) : MI V gm ps (k + 1) (U.drewN n) := by
  have hb' := after_drew hb n
  refine ⟨h.1.keep (hb'.mono h.1.size), ?_⟩
  rw [he]
  exact (hb'.block gm (Array.getElem?_eq_some_iff.1 h.2).1).trans h.2

set_option maxRecDepth 100000 in
set_option maxHeartbeats 6400000 in
theorem implMount_ok' (hrep : ∀ (b o c : Nat) (w : World), w.cell? ⟨b, o, none⟩ = some (.int .i64 (-1)) → Calls Try.prog 72 #[.slice (some ⟨b, o, none⟩) 1 c, .int .i64 26] w fun e w' => e = .returned (.slice (some ⟨w.heap.size, 0, none⟩) 26 26) ∧ w'.heap[w.heap.size]? = some (.cells (vsInt (List.replicate 26 (-1))).toArray 3 (0, 0)) ∧ Below w.heap.size w w')
    (a b : Option Addr) (ps : List ByteArray) (ws : List Int) (c d : Nat) (w : World) (hp : Rd w a (vsString ps)) (hw : Rd w b (vsInt ws)) (hok : chipOkP ps ws) :
    Calls Try.prog 27 #[.agg #[.slice a ps.length c, .slice b ws.length d]] w fun e w' => ∃ v, e = .returned v ∧ FtlOwn w' w.heap.size v ps ws (mMap ps) (mSeq ps) ∧ Below w.heap.size w w' := by
  obtain ⟨W, hW⟩ : ∃ W, W = (w.alloc (Obj.cells #[.slice a ps.length c, .slice b ws.length d] 27)).alloc (Obj.cells #[.slice none 0 0, .slice none 0 0, .slice none 0 0, .int .i64 0] 47) := ⟨_, rfl⟩
  have hbW : Below w.heap.size w W := by subst hW; exact ((Below.refl _ _).alloc (Nat.le_refl _) _).alloc (by simp) _
  have cW : W.cell? ⟨w.heap.size, 0, none⟩ = some (.slice a ps.length c) ∧ W.cell? ⟨w.heap.size, 1, none⟩ = some (.slice b ws.length d) ∧ W.cell? ⟨w.heap.size + 1, 0, none⟩ = some (.slice none 0 0) ∧ W.cell? ⟨w.heap.size + 1, 1, none⟩ = some (.slice none 0 0) ∧ W.cell? ⟨w.heap.size + 1, 2, none⟩ = some (.slice none 0 0) ∧ W.cell? ⟨w.heap.size + 1, 3, none⟩ = some (.int .i64 0) ∧ (∀ j, W.frozen? ⟨w.heap.size + 1, j, none⟩ = false) ∧ w.heap.size + 1 < W.heap.size := by
    subst hW; refine ⟨?_, ?_, ?_, ?_, ?_, ?_, fun j => ?_, ?_⟩ <;> simp [go_sem]
  obtain ⟨y0, y1, x0, x1, x2, x3, xf, hsz⟩ := cW
  have hmf : ∀ (fn : Fn) (first cap : Array Value) (w : World), (Instr.makeFunc fn first cap).run Try.prog w = .ok (.func fn first cap) w := fun _ _ _ _ => rfl
  have hB := chipOkB_true hok
  have HREP := hide hrep
  obtain ⟨hl, hm, hs8, hx⟩ := hok
  have HL : Hid (ps.length = 60 ∧ ws.length = 10) := ⟨hl, hm⟩
  have hs : Hid (∀ s ∈ ps, s.size ≤ 1048576) := fun s h => by have := hs8 s h; omega
  have hl1 : 60 ≤ ps.length ∧ ps.length ≤ 60 := by omega
  have hm1 : 10 ≤ ws.length ∧ ws.length ≤ 10 := by omega
  clear hrep hx hs8 hl hm
  go_enter Try.func27, Try.ntmps27
  go_wp2_with fail
  rw [← hW]
  clear hW
  refine (implChipOk_any a b ps ws c d _ (hp.below hbW) (hw.below hbW) (by omega) (by omega) hs.out).mono ?_
  rw [hB]
  rintro e w1 ⟨rfl, hb1⟩
  have hbw1 := after hbW hb1
  have k0 := (hb1.cell (p := ⟨w.heap.size, 0, none⟩) (show w.heap.size < W.heap.size by omega)).trans y0
  clear hB
  go_wp2_with fail
  refine (recsOf_any a ps c w1 (hp.below hbw1) HL.out.1 hs.out).mono ?_
  rintro e w2 ⟨rfl, hR2, hb2⟩
  obtain ⟨g, hg⟩ : ∃ g, g = w1.heap.size := ⟨_, rfl⟩
  rw [← hg] at hR2 ⊢
  have hs1 := hb1.size
  have hs2 := hb2.size
  have hbW2 := after hb1 hb2
  have hgW : w.heap.size + 1 < g := by omega
  have hgW2 : W.heap.size ≤ g := by omega
  have hg2 := hR2.lt
  obtain ⟨X, hX⟩ : ∃ X, X = w2.alloc (Obj.cells #[.int .i64 (-1)] 3) := ⟨_, rfl⟩
  have hbX : Below w2.heap.size w2 X := by rw [hX]; exact (Below.refl _ _).alloc (Nat.le_refl _) _
  have cX : X.cell? ⟨w2.heap.size, 0, none⟩ = some (.int .i64 (-1)) := by rw [hX]; simp
  have HRP := hide (HREP.out w2.heap.size 0 1 X cX)
  clear HREP k0 hg
  go_wp2_with fail
  rw [← hX]
  clear hX
  refine HRP.out.mono ?_
  rintro e w3 ⟨rfl, hrow, hb3⟩
  obtain ⟨gm, hgm⟩ : ∃ gm, gm = X.heap.size := ⟨_, rfl⟩
  rw [← hgm] at hrow ⊢
  have hsX := hbX.size
  have hs3 := hb3.size
  have hlX : w2.heap.size < X.heap.size := lt_of_cell cX
  have hggm : g < gm := by omega
  have hgm3 : gm < w3.heap.size := (Array.getElem?_eq_some_iff.1 hrow).1
  have hb23 := after hbX hb3
  obtain ⟨V, hV⟩ : ∃ V, V = w3.alloc (Obj.cells #[.slice (some ⟨gm, 0, none⟩) 26 26] 25) := ⟨_, rfl⟩
  have hb3V : Below w3.heap.size w3 V := by rw [hV]; exact (Below.refl _ _).alloc (Nat.le_refl _) _
  obtain ⟨pb, hpb⟩ : ∃ pb, pb = w3.heap.size := ⟨_, rfl⟩
  have cV : V.cell? ⟨pb, 0, none⟩ = some (.slice (some ⟨gm, 0, none⟩) 26 26) := by rw [hV, hpb]; simp
  have hrowV : V.heap[gm]? = some (.cells (vsInt (List.replicate 26 (-1))).toArray 3 (0, 0)) := (hb3V.block gm hgm3).trans hrow
  have hb2V := after hb23 hb3V
  have hRV := hR2.below hb2V
  have hbWV := after hbW2 hb2V
  have HPB := hide hpb
  have hpgm : gm < pb := by omega
  clear HRP hR2 hrow cX hb3 hbX hb23 hb3V hgm hpb
  go_wp2_with fail
  refine (placeIn_any (some ⟨gm, 0, none⟩) 26 26 w3).mono ?_
  rintro e u ⟨rfl, hu⟩
  rw [← hV] at hu
  have hu' := hu.symm
  subst hu'
  rw [← HPB.out]
  clear hV HPB
  have hsV := hbWV.size
  have HY := hide (And.intro (And.intro y0 y1) (And.intro x0 (And.intro x1 (And.intro x2 (And.intro x3 xf)))))
  have HRV := hide hRV
  have HCV := hide cV
  clear y0 y1 x0 x1 x2 x3 xf hRV cV hu
  go_wp2_with fail
  go_loopw [23, 6] (fun i l wr => ∃ k : Nat, k ≤ 60 ∧ i = .int .i64 k ∧ l = .int .i64 (lastU ps k) ∧ MI V gm ps k wr) (fun i _ _ => 60 - (intOf i).toNat)
  case atStart => exact ⟨0, by omega, rfl, rfl, OnlyIn.of_below (Below.refl _ _) _, hrowV⟩
  case round =>
    obtain ⟨k, hk, rfl, rfl, hO, hrw⟩ := hrel
    have hlast := lastU_bd ps k
    have hng : some g ∉ [some gm] := by simp; omega
    have hnp : some pb ∉ [some gm] := by simp; omega
    have hRr := HRV.out.only hO hng
    by_cases hlt : k < 60
    · obtain ⟨r0, r1, r2⟩ := hRr.1 k hlt
      rw [show recK ps 60 k = recC ps k by simp [recK, hlt]] at r0 r1 r2
      cases hr : recR (ps[k]?.getD ByteArray.empty) with
      | none =>
        rw [recC_none hr] at r0 r1 r2
        have HE := hide (map_no hr)
        have HE2 := hide (lastU_no hr)
        clear hrowV hr
        go_wp2_with fail
        refine ⟨⟨k + 1, by omega, by go_num, by rw [HE2.out], ?_⟩, by simp [intOf]; omega⟩
        exact MI.alloc ⟨hO, hrw⟩ HE.out _
      | some r =>
        obtain ⟨S', q, dd⟩ := r
        have hsec := recR_sector hr
        obtain ⟨S, rfl⟩ : ∃ S : Nat, S' = S := ⟨S'.toNat, by omega⟩
        rw [recC_some hr] at r0 r1 r2
        simp only [] at r0 r1 r2
        obtain ⟨o, ho, ho1, ho2⟩ := map_old (ps := ps) (k := k) (s := S) (by omega)
        have HRK := hide hr
        have HO := hide ho
        have hsb : S < 26 := by omega
        have hq1 : 1 ≤ q := hsec.2.2.1
        have hq2 : q ≤ 1000000000 := hsec.2.2.2
        have hq0 : (q == 0) = false := by simp; omega
        have HE2 := hide (lastU_some hr)
        obtain ⟨U, hU⟩ : ∃ U, U = wr.alloc (Obj.cells #[.int .i64 S, .int .i64 q, .string dd] 50) := ⟨_, rfl⟩
        have hbU : Below wr.heap.size wr U := by rw [hU]; exact (Below.refl _ _).alloc (Nat.le_refl _) _
        have c0 : U.cell? ⟨wr.heap.size, 0, none⟩ = some (.int .i64 S) := by rw [hU]; simp
        have c1 : U.cell? ⟨wr.heap.size, 1, none⟩ = some (.int .i64 q) := by rw [hU]; simp
        have c2 : U.cell? ⟨wr.heap.size, 2, none⟩ = some (.string dd) := by rw [hU]; simp
        have hcp := only_cell hO hnp HCV.out
        have hgmr : gm < wr.heap.size := (Array.getElem?_eq_some_iff.1 hrw).1
        have HPL := hide (place_in pb (some ⟨gm, 0, none⟩) (mUpto ps k).2.1 26 S o U (by rw [(mUpto_len ps k).2.1]; exact (hbU.cell (p := ⟨pb, 0, none⟩) (lt_of_cell hcp)).trans hcp) ((rowRd hrw).below hbU) (by rw [(mUpto_len ps k).2.1]; decide) ho)
        clear hrowV hr hsec ho
        have HMI := hide (And.intro hO hrw)
        have hRU := hRr.below hbU
        have fz := rowFrozen (k := S) ((hbU.block gm hgmr).trans hrw)
        have cz := rowInt ((hbU.block gm hgmr).trans hrw) HO.out
        have hone : ¬ gm = wr.heap.size := by omega
        go_wp2_with (rw [← hU]; clear hU)
        all_goals
          refine HPL.out.mono ?_
          rintro e u ⟨rfl, hu⟩
          have hu' := hu.symm
          subst hu'
          by_cases hom : o = -1
          · subst hom
            have HE := hide (map_new HRK.out (by rw [Int.toNat_natCast]; exact HO.out))
            clear HPL hRU hRr hrw hO r0 r1 r2 hu
            go_wp2_with fail
            go_quiet (fail)
            have HF := hide (MI.stored (S := S) HMI.out hbU HE.out nq)
            have HU2 : Hid (U.drewN nq = U.drewN nq) := rfl
            obtain ⟨U2, hU2⟩ : ∃ U2, U2 = U.drewN nq := ⟨_, rfl⟩
            have d0 : U2.cell? ⟨wr.heap.size, 0, none⟩ = some (.int .i64 S) := by rw [hU2]; exact c0
            have dz : U2.cell? ⟨gm, S, none⟩ = some (.int .i64 (-1)) := by rw [hU2]; exact cz
            have df : U2.frozen? ⟨gm, S, none⟩ = false := by rw [hU2]; exact fz
            rw [← hU2] at HF ⊢
            clear hU2 c0 c1 c2 cz fz HU2 hbU HMI
            go_wp2_with fail
            exact ⟨⟨k + 1, by omega, by go_num, by rw [HE2.out]; congr 1; omega, HF.out⟩, by simp [intOf]; omega⟩
          · obtain ⟨p, rfl⟩ : ∃ p : Nat, o = p := ⟨o.toNat, by omega⟩
            have hp60 : p < 60 := by omega
            have e1 := (hRU.1 p hp60).2.1
            rw [show recK ps 60 p = recC ps p by simp [recK, hp60]] at e1
            obtain ⟨Q0, hQ0⟩ : ∃ Q0, Q0 = (recC ps p).2.1 := ⟨_, rfl⟩
            rw [← hQ0] at e1
            have ht : ((p : Int) == -1) = false := by simp
            have HMG := hide (fun h => map_great HRK.out (by rw [Int.toNat_natCast]; exact HO.out) hom (show (recC ps (p : Int).toNat).2.1 < q from h))
            have HMS := hide (fun h => map_small HRK.out (by rw [Int.toNat_natCast]; exact HO.out) hom (show ¬ (recC ps (p : Int).toNat).2.1 < q from h))
            rw [Int.toNat_natCast, ← hQ0] at HMG HMS
            clear HPL hRU hRr hrw hO r0 r1 r2 hu hQ0 hom
            by_cases hgt : Q0 < q
            · have t5 : decide (Q0 < q) = true := by simpa using hgt
              have HE := hide (HMG.out hgt)
              clear hgt
              go_wp2_with fail
              go_quiet (fail)
              have HF := hide (MI.stored (S := S) HMI.out hbU HE.out nq)
              obtain ⟨U2, hU2⟩ : ∃ U2, U2 = U.drewN nq := ⟨_, rfl⟩
              have d0 : U2.cell? ⟨wr.heap.size, 0, none⟩ = some (.int .i64 S) := by rw [hU2]; exact c0
              have dz : U2.cell? ⟨gm, S, none⟩ = some (.int .i64 p) := by rw [hU2]; exact cz
              have df : U2.frozen? ⟨gm, S, none⟩ = false := by rw [hU2]; exact fz
              rw [← hU2] at HF ⊢
              clear hU2 c0 c1 c2 cz fz e1 hbU HMI
              go_wp2_with fail
              exact ⟨⟨k + 1, by omega, by go_num, by rw [HE2.out]; congr 1; omega, HF.out⟩, by simp [intOf]; omega⟩
            · have t5 : decide (Q0 < q) = false := by simpa using hgt
              have HE := hide (HMS.out hgt)
              clear hgt
              go_wp2_with fail
              go_quiet (fail)
              have HF := hide (MI.kept HMI.out hbU HE.out nq)
              obtain ⟨U2, hU2⟩ : ∃ U2, U2 = U.drewN nq := ⟨_, rfl⟩
              rw [← hU2] at HF ⊢
              clear hU2 c0 c1 c2 cz fz e1 hbU HMI
              go_wp2_with fail
              exact ⟨⟨k + 1, by omega, by go_num, by rw [HE2.out]; congr 1; omega, HF.out⟩, by simp [intOf]; omega⟩
    · obtain rfl : k = 60 := by omega
      have hnW : ∀ j, j ≤ w.heap.size + 1 → some j ∉ [some gm] := fun j hj => by simp; omega
      have hbr : Below W.heap.size W wr := (hbWV).trans ⟨hO.os, hO.tape, hO.output, hO.size, fun i hi => hO.block i (by omega) (by simp; omega)⟩
      have y0 := (hbr.cell (p := ⟨w.heap.size, 0, none⟩) (show w.heap.size < W.heap.size by omega)).trans HY.out.1.1
      have y1 := (hbr.cell (p := ⟨w.heap.size, 1, none⟩) (show w.heap.size < W.heap.size by omega)).trans HY.out.1.2
      have hbwr := after hbW hbr
      have hgmr : gm < wr.heap.size := (Array.getElem?_eq_some_iff.1 hrw).1
      have HCC := hide (chipCopy_any a b ps ws c d wr (hp.below hbwr) (hw.below hbwr) HL.out.1 HL.out.2)
      have hsr := hbr.size
      clear hRr hrowV hlt hO
      go_wp2_with fail
      refine HCC.out.mono ?_
      rintro e w4 ⟨v, rfl, hown, hb4⟩
      obtain ⟨a4, c4, b4, d4, rfl, ho1, ho2, hne⟩ := own_open hown
      have hbW4 := after hbr hb4
      have m0 := (hbW4.cell (p := ⟨w.heap.size + 1, 0, none⟩) hsz).trans HY.out.2.1
      have m1 := (hbW4.cell (p := ⟨w.heap.size + 1, 1, none⟩) hsz).trans HY.out.2.2.1
      have m2 := (hbW4.cell (p := ⟨w.heap.size + 1, 2, none⟩) hsz).trans HY.out.2.2.2.1
      have m3 := (hbW4.cell (p := ⟨w.heap.size + 1, 3, none⟩) hsz).trans HY.out.2.2.2.2.1
      have f0 := (hbW4.frozen (p := ⟨w.heap.size + 1, 0, none⟩) hsz).trans (HY.out.2.2.2.2.2 0)
      have f1 := (hbW4.frozen (p := ⟨w.heap.size + 1, 1, none⟩) hsz).trans (HY.out.2.2.2.2.2 1)
      have f2 := (hbW4.frozen (p := ⟨w.heap.size + 1, 2, none⟩) hsz).trans (HY.out.2.2.2.2.2 2)
      have f3 := (hbW4.frozen (p := ⟨w.heap.size + 1, 3, none⟩) hsz).trans (HY.out.2.2.2.2.2 3)
      have hbw4 := after hbwr hb4
      have HR4 := hide (rowOwns (n := 26) (base := w.heap.size + 1 + 1) ((hb4.block gm hgmr).trans hrw) (mUpto_len ps 60).2.1 (by omega) (by decide))
      have HO12 := hide (And.intro ho1 (And.intro ho2 hne))
      have HN1 : Hid (∀ q, (Value.slice a4 ps.length c4).ownBlock = some q → q ≠ gm) := fun q hq => by have := (ho1.lt q hq).1; omega
      have HN2 : Hid (∀ q, (Value.slice b4 ws.length d4).ownBlock = some q → q ≠ gm) := fun q hq => by have := (ho2.lt q hq).1; omega
      have HSQ : Hid (mSeq ps = min (lastU ps 60 + 1) 1000000000) := mSeq_last ps 60
      have HFIN : Hid (∀ z : Int, z = mSeq ps → ∃ v, (Ending.returned (Value.agg #[.slice a4 ps.length c4, .slice b4 ws.length d4, .slice (some ⟨gm, 0, none⟩) 26 26, .int .i64 z])) = .returned v ∧ FtlOwn ((((w4.setCell ⟨w.heap.size + 1, 0, none⟩ (.slice a4 ps.length c4)).setCell ⟨w.heap.size + 1, 1, none⟩ (.slice b4 ws.length d4)).setCell ⟨w.heap.size + 1, 2, none⟩ (.slice (some ⟨gm, 0, none⟩) 26 26)).setCell ⟨w.heap.size + 1, 3, none⟩ (.int .i64 z)) w.heap.size v ps ws (mMap ps) (mSeq ps) ∧ Below w.heap.size w ((((w4.setCell ⟨w.heap.size + 1, 0, none⟩ (.slice a4 ps.length c4)).setCell ⟨w.heap.size + 1, 1, none⟩ (.slice b4 ws.length d4)).setCell ⟨w.heap.size + 1, 2, none⟩ (.slice (some ⟨gm, 0, none⟩) 26 26)).setCell ⟨w.heap.size + 1, 3, none⟩ (.int .i64 z))) := by
        intro z hz
        subst hz
        have hsr1 : w.heap.size + 1 < wr.heap.size := by omega
        refine ⟨_, rfl, ⟨_, _, _, rfl, ?_, ?_, ?_, HO12.out.2.2, ?_, ?_⟩, (((hbw4.setCell (by show _ ≤ _; simp) _).setCell (by show _ ≤ _; simp) _).setCell (by show _ ≤ _; simp) _).setCell (by show _ ≤ _; simp) _⟩
        · exact owns_mono (ownsRow_setCell_below (ownsRow_setCell_below (ownsRow_setCell_below (ownsRow_setCell_below HO12.out.1 hsr1 _) hsr1 _) hsr1 _) hsr1 _) (by omega)
        · exact owns_mono (ownsRow_setCell_below (ownsRow_setCell_below (ownsRow_setCell_below (ownsRow_setCell_below HO12.out.2.1 hsr1 _) hsr1 _) hsr1 _) hsr1 _) (by omega)
        · rw [mMap_len]
          exact owns_mono (ownsRow_setCell_below (ownsRow_setCell_below (ownsRow_setCell_below (ownsRow_setCell_below HR4.out (Nat.lt_succ_self _) _) (Nat.lt_succ_self _) _) (Nat.lt_succ_self _) _) (Nat.lt_succ_self _) _) (by omega)
        · intro q hq; have := HN1.out q hq; simp [Value.ownBlock]; omega
        · intro q hq; have := HN2.out q hq; simp [Value.ownBlock]; omega
      clear HCC hown ho1 ho2 hne hrw y0 y1 hbr hb4 hbW4
      go_wp2_with fail
      all_goals
        refine bodyPost_ret (v := .agg #[.slice a4 ps.length c4, .slice b4 ws.length d4, .slice (some ⟨gm, 0, none⟩) 26 26, .int .i64 _]) (by simp [results, Try.results27, go_sem, m0, m1, m2, m3]) rfl (HFIN.out _ ?_)
        rw [HSQ.out]
        omega

theorem implMount_ok (a b : Option Addr) (ps : List ByteArray) (ws : List Int) (c d : Nat) (w : World) (hp : Rd w a (vsString ps)) (hw : Rd w b (vsInt ws)) (hok : chipOkP ps ws) :
    Calls Try.prog 27 #[.agg #[.slice a ps.length c, .slice b ws.length d]] w fun e w' => ∃ v, e = .returned v ∧ FtlOwn w' w.heap.size v ps ws (mMap ps) (mSeq ps) ∧ Below w.heap.size w w' :=
  implMount_ok' (fun b o c w hc => repeat_any b o c w hc) a b ps ws c d w hp hw hok

end Go.Proofs.Ytelbannfbglgcaa

namespace Go.Proofs.Ytelbannfbglgcaa
open Go.RowKit

set_option maxHeartbeats 3200000 in
theorem implFtlOk_any (a b e0 : Option Addr) (ps : List ByteArray) (ws ms : List Int) (c d f : Nat) (q : Int) (w : World) (hp : Rd w a (vsString ps)) (hw : Rd w b (vsInt ws)) (hms : Rd w e0 (vsInt ms)) (hl : ps.length ≤ 1048576) (hm : ws.length ≤ 1048576) (hn : ms.length ≤ 1048576) (hs : ∀ s ∈ ps, s.size ≤ 1048576) :
    Calls Try.prog 31 #[.agg #[.slice a ps.length c, .slice b ws.length d, .slice e0 ms.length f, .int .i64 q]] w fun e w' => e = .returned (.bool (ftlOkB ps ws ms q)) ∧ Below w.heap.size w w' := by
  obtain ⟨W, hW⟩ : ∃ W, W = w.alloc (Obj.cells #[.slice a ps.length c, .slice b ws.length d, .slice e0 ms.length f, .int .i64 q] 47) := ⟨_, rfl⟩
  have hbW : Below w.heap.size w W := by subst hW; exact (Below.refl _ _).alloc (Nat.le_refl _) _
  have cW : W.cell? ⟨w.heap.size, 0, none⟩ = some (.slice a ps.length c) ∧ W.cell? ⟨w.heap.size, 1, none⟩ = some (.slice b ws.length d) ∧ W.cell? ⟨w.heap.size, 2, none⟩ = some (.slice e0 ms.length f) ∧ W.cell? ⟨w.heap.size, 3, none⟩ = some (.int .i64 q) ∧ w.heap.size < W.heap.size := by
    subst hW; refine ⟨?_, ?_, ?_, ?_, ?_⟩ <;> simp
  obtain ⟨x0, x1, x2, x3, hsz⟩ := cW
  by_cases hok : chipOkP ps ws
  · have hB := chipOkB_true hok
    obtain ⟨R, hR⟩ : ∃ R, R = ftlOkB ps ws ms q := ⟨_, rfl⟩
    have HR : Hid (R = (decide (mMap ps = ms) && decide (mSeq ps = q))) := by show _ = _; rw [hR, ftlOkB, hB]; simp
    rw [← hR]
    clear hR
    go_enter Try.func31, Try.ntmps31
    go_wp2_with fail
    rw [← hW]
    clear hW
    refine (implMount_ok a b ps ws c d W (hp.below hbW) (hw.below hbW) hok).mono ?_
    rintro e w1 ⟨v, rfl, hown, hb1⟩
    obtain ⟨a1, c1, b1, d1, e1, g1, rfl, -, -, ho3⟩ := ftl_open hown
    obtain ⟨V, hV⟩ : ∃ V, V = w1.alloc (Obj.cells #[.slice a1 ps.length c1, .slice b1 ws.length d1, .slice e1 (mMap ps).length g1, .int .i64 (mSeq ps)] 47) := ⟨_, rfl⟩
    have hbV : Below w1.heap.size w1 V := by rw [hV]; exact (Below.refl _ _).alloc (Nat.le_refl _) _
    have hWV := after hb1 hbV
    have k0 := (hb1.cell (p := ⟨w.heap.size, 0, none⟩) hsz).trans x0
    have k1 := (hb1.cell (p := ⟨w.heap.size, 1, none⟩) hsz).trans x1
    have hlt1 : w.heap.size < w1.heap.size := Nat.lt_of_lt_of_le hsz hb1.size
    have hsV : w1.heap.size < V.heap.size := by rw [hV]; simp
    have z2 : V.cell? ⟨w1.heap.size, 2, none⟩ = some (.slice e1 (mMap ps).length g1) := by rw [hV]; simp
    have z3 : V.cell? ⟨w1.heap.size, 3, none⟩ = some (.int .i64 (mSeq ps)) := by rw [hV]; simp
    have HM := hide ((rd_of_own ho3).below hbV)
    have HF := hide ((hms.below hbW).below hWV)
    have HP := hide ((hp.below hbW).below hWV)
    have HW := hide ((hw.below hbW).below hWV)
    have hbwV := after hbW hWV
    have y2 := (hWV.cell (p := ⟨w.heap.size, 2, none⟩) hsz).trans x2
    have y3 := (hWV.cell (p := ⟨w.heap.size, 3, none⟩) hsz).trans x3
    clear hown ho3 hb1 hbV x0 x1 x2 x3 hp hw hms hbW hWV hok
    go_wp2_with fail
    rw [← hV]
    clear hV k0 k1
    refine (implChipOk_any a b ps ws c d V HP.out HW.out hl hm hs).mono ?_
    rw [hB]
    rintro e w2 ⟨rfl, hb2⟩
    have s2 := (hb2.cell (p := ⟨w1.heap.size, 2, none⟩) hsV).trans z2
    have s3 := (hb2.cell (p := ⟨w1.heap.size, 3, none⟩) hsV).trans z3
    have t2 := (hb2.cell (p := ⟨w.heap.size, 2, none⟩) (show w.heap.size < V.heap.size by omega)).trans y2
    have t3 := (hb2.cell (p := ⟨w.heap.size, 3, none⟩) (show w.heap.size < V.heap.size by omega)).trans y3
    have HM2 := hide (HM.out.below hb2)
    have HF2 := hide (HF.out.below hb2)
    have hbw2 := after hbwV hb2
    clear z2 z3 y2 y3 HM HF HP HW hb2 hbwV hB hs
    go_wp2_with fail
    refine (equalInt_any e0 e1 ms (mMap ps) f g1 w2 HF2.out HM2.out hn (by rw [mMap_len]; decide)).mono ?_
    obtain ⟨D, hD⟩ : ∃ D, D = decide (mMap ps = ms) := ⟨_, rfl⟩
    rw [show decide (ms = mMap ps) = decide (mMap ps = ms) from decide_eq_decide.2 ⟨Eq.symm, Eq.symm⟩, ← hD]
    rintro e u ⟨rfl, n, hu⟩
    have u2 : u.cell? ⟨w1.heap.size, 3, none⟩ = some (.int .i64 (mSeq ps)) := by rw [hu]; exact s3
    have u3 : u.cell? ⟨w.heap.size, 3, none⟩ = some (.int .i64 q) := by rw [hu]; exact t3
    have hbwu : Below w.heap.size w u := by rw [hu]; exact after_drew hbw2 n
    clear hu s2 s3 t2 t3 HM2 HF2 hbw2
    cases D with
    | false =>
      have HRF : Hid (R = false) := by show _ = _; rw [HR.out, ← hD]; rfl
      clear hD HR
      go_wp2
      go_ret
      exact ⟨ret_bool HRF.out.symm, hbwu⟩
    | true =>
      have HRF : Hid (R = (q == mSeq ps)) := by show _ = _; rw [HR.out, ← hD, Bool.true_and]; exact decide_eq_decide.2 ⟨Eq.symm, Eq.symm⟩
      clear hD HR
      go_wp2
      go_ret
      exact ⟨ret_bool HRF.out.symm, hbwu⟩
  · have hB := chipOkB_false hok
    have HR : Hid (ftlOkB ps ws ms q = false) := by show _ = _; rw [ftlOkB, hB]; rfl
    go_enter Try.func31, Try.ntmps31
    go_wp2_with fail
    rw [← hW]
    clear hW
    refine (implMount_bad a b ps ws c d W (hp.below hbW) (hw.below hbW) hl hm hs hok).mono ?_
    rintro e w1 ⟨v, rfl, hown, hb1⟩
    obtain ⟨a1, c1, b1, d1, e1, g1, rfl, -⟩ := ftl_open hown
    obtain ⟨V, hV⟩ : ∃ V, V = w1.alloc (Obj.cells #[.slice a1 ([] : List ByteArray).length c1, .slice b1 ([] : List Int).length d1, .slice e1 ([] : List Int).length g1, .int .i64 0] 47) := ⟨_, rfl⟩
    have hbV : Below w1.heap.size w1 V := by rw [hV]; exact (Below.refl _ _).alloc (Nat.le_refl _) _
    have hWV := after hb1 hbV
    have k0 := (hb1.cell (p := ⟨w.heap.size, 0, none⟩) hsz).trans x0
    have k1 := (hb1.cell (p := ⟨w.heap.size, 1, none⟩) hsz).trans x1
    have hlt1 : w.heap.size < w1.heap.size := Nat.lt_of_lt_of_le hsz hb1.size
    have HP := hide ((hp.below hbW).below hWV)
    have HW := hide ((hw.below hbW).below hWV)
    have hbwV := after hbW hWV
    clear hown hb1 hbV x0 x1 x2 x3 hp hw hms hbW hWV hok
    simp only [List.length_nil] at hV
    go_wp2_with fail
    rw [← hV]
    clear hV k0 k1
    refine (implChipOk_any a b ps ws c d V HP.out HW.out hl hm hs).mono ?_
    rw [hB]
    rintro e w2 ⟨rfl, hb2⟩
    have hbw2 := after hbwV hb2
    clear HP HW hb2 hB hs
    go_wp2
    go_ret
    exact ⟨ret_bool HR.out.symm, hbw2⟩

theorem fnExactFtlOk_both (ps : List ByteArray) (ws : List Int) (ms : List Int) (q : Int)  (hk0 : ps.length ≤ 1048576) (hk1 : ws.length ≤ 1048576) (hk2 : ms.length ≤ 1048576) (hs : ∀ s ∈ ps, s.size ≤ 1048576) (_hq : (Lit.int .i64 q).wf = true)  :
    ∃  (S0 : Bool), Hid (∀ (u : World) (v : Value), FtlRd u v ps ws ms q → Calls Try.prog 33 #[v] u fun e w' => e = .returned (.bool S0) ∧ Below u.heap.size u w') ∧ Hid (∀ (u : World) (v : Value), FtlRd u v ps ws ms q → Calls Try.prog 31 #[v] u fun e w' => e = .returned (.bool S0) ∧ Below u.heap.size u w') := by
  refine ⟨ftlOkB ps ws ms q, ?_, ?_⟩
  · rintro u v ⟨a, c, b, d, e, f, rfl, h1, h2, h3⟩
    exact specFtlOk_any a b e ps ws ms c d f q u h1 h2 h3 hk0 hk1 hk2 hs
  · rintro u v ⟨a, c, b, d, e, f, rfl, h1, h2, h3⟩
    exact implFtlOk_any a b e ps ws ms c d f q u h1 h2 h3 hk0 hk1 hk2 hs

end Go.Proofs.Ytelbannfbglgcaa
