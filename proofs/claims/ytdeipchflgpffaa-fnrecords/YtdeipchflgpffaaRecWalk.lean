/-
  The walk of the law FnRecords.
-/
import Derived.Test.YtdeipchflgpffaaDrawRec2
import Derived.Test.YtdeipchflgpffaaRecCut
import Derived.Test.YtdeipchflgpffaaImplRead3
import Derived.Deep.RegionHeld
namespace Go.Proofs.Ytdeipchflgpffaa
open Go.RowKit
theorem yieldedOff {ops : Array Oper} {tmps : Array Value} {j : Nat} (h : ((ops[j]?).bind (·.dst)).bind (tmps[·]?) = some undef) : yielded ops tmps j = none := by simp [yielded, h, undef]
attribute [local go_sem ↓] yieldedOff

/-- One operation of a region is taken first; 'd': the slot that it writes. -/
theorem take_rec {P : Program} {ops : Array Oper} {Q : Exit → Act → World → Prop} {md : Region.Mode} {S : World → Prop} {i : Nat} (d : Option Tmp) {oi : Oper} {v : Value} {fuel : Nat} {listed : Array Bool} {a : Act} {w : World} (hi : ops[i]? = some oi) (hd : oi.dst = d)
    (hs : Region.noSelect ops = true) (hf : Region.free md ops listed i = true) (hr : (Region.ready md ops listed).contains i = true)
    (hQ : ∀ c a w, Q (.panic c) (a.put oi.dst v) w → Q (.panic c) a w) (hy : YieldsIf P ops S oi v a) (hS : S w)
    (h : wpAnyH P md ops Q S fuel (listed.setIfInBounds i true) (a.put d v) w) : wpAnyH P md ops Q S (fuel + 1) listed a w := by
  subst hd
  exact wpAnyH_take hi hs hf hr hQ hy hS h

/-- What RecRead hands back, part by part. -/
def rS : Option (Int × Int × ByteArray) → Int | none => 0 | some (s, _, _) => s
def rQ : Option (Int × Int × ByteArray) → Int | none => 0 | some (_, q, _) => q
def rD : Option (Int × Int × ByteArray) → ByteArray | none => ⟨#[]⟩ | some (_, _, d) => d
def rB : Option (Int × Int × ByteArray) → Bool | none => false | some _ => true
theorem implRecRead_r (t : ByteArray) (w : World) (ht : t.size ≤ 1048576) : Calls Try.prog 9 #[.string t] w fun e w' => e = .returned (.tuple #[.agg #[.int .i64 (rS (recR t)), .int .i64 (rQ (recR t)), .string (rD (recR t))], .bool (rB (recR t))]) ∧ Below w.heap.size w w' := by
  refine (implRecRead_any t w ht).mono ?_
  rintro e w' ⟨h1, h2, h3⟩
  refine ⟨?_, h3⟩
  cases hr : recR t with
  | none => exact h2 hr
  | some r => exact h1 r.1 r.2.1 r.2.2 hr
theorem specRecRead_r (t : ByteArray) (w : World) (ht : t.size ≤ 1048576) : Calls Try.prog 13 #[.string t] w fun e w' => e = .returned (.tuple #[.agg #[.int .i64 (rS (recR t)), .int .i64 (rQ (recR t)), .string (rD (recR t))], .bool (rB (recR t))]) ∧ Below w.heap.size w w' := by
  refine (specRecRead_any t w ht).mono ?_
  rintro e w' ⟨h1, h2, h3⟩
  refine ⟨?_, h3⟩
  cases hr : recR t with
  | none => exact h2 hr
  | some r => exact h1 r.1 r.2.1 r.2.2 hr
theorem recT_ne {s q : Int} {d : ByteArray} (h : recOkB s q d = true) : recT s q d ≠ ⟨#[]⟩ := by
  intro he
  have h1 := recR_of h
  rw [he] at h1
  have e : strB ⟨#[]⟩ = [] := rfl
  unfold recR at h1
  rw [e] at h1
  simp [getN, getF] at h1

set_option maxRecDepth 100000 in
set_option maxHeartbeats 6400000 in
theorem rec_walk (a : Option Addr) (zs : List Int) (cap : Nat) (w : World) (hr : Rd w a (u8s zs)) (hb : IsBytes zs) (hm : zs.length ≤ 1048576) :
    Calls Try.prog 3 #[.slice a zs.length cap] w fun e w' => e = .returned (.bool true) ∧ Below w.heap.size w w' := by
  have hd : decide ((1048576 : Int) < zs.length) = false := by simp; omega
  go_enter Try.func3, Try.ntmps3
  go_wp2_with fail
  refine (big_any _ _ _ _).mono ?_
  rw [hd]
  rintro e u ⟨rfl, hu⟩
  have hu' := hu.symm
  subst hu'
  clear hd
  go_wp2_with fail
  refine (DrawRecText_any a zs cap w hr hb hm).mono ?_
  rintro e w1 ⟨s, q, d, rfl, hs, hq, hdl, hb1⟩
  obtain ⟨W1, hW1⟩ : ∃ W1, W1 = w1.alloc (Obj.cells #[.int .i64 s, .int .i64 q, .string d] 25) := ⟨_, rfl⟩
  have hbW1 : Below w1.heap.size w1 W1 := by rw [hW1]; exact (Below.refl _ _).alloc (Nat.le_refl _) _
  have k1 : C3 W1 w1.heap.size (.int .i64 s) (.int .i64 q) (.string d) := by rw [hW1]; exact c3_new _ _ _ _ _
  have hbw1 := after hb1 hbW1
  obtain ⟨⟨a0, a1, a2⟩, -⟩ := id k1
  obtain ⟨T, hT⟩ : ∃ T, T = recT s q d := ⟨_, rfl⟩
  have HT := hide hT
  have htl : T.size ≤ 420 := by rw [hT]; exact recT_size s q d
  have hTT : (T.toList == T.toList) = true := by simp
  clear hb1 hbW1 hT
  go_wp2_with (rw [← hW1]; clear hW1)
  refine (implRecText_any s q d W1 (by unfold maxLen; omega) (by omega) (by omega) (by omega) (by omega)).mono ?_
  rw [← HT.out]
  rintro e w2 ⟨rfl, hb2⟩
  have k2 := k1.below hb2
  have hbw2 := after hbw1 hb2
  clear a0 a1 a2 k1 hbw1 hb2
  obtain ⟨⟨a0, a1, a2⟩, -⟩ := id k2
  go_wp2_with fail
  refine (specRecText_any s q d w2 (by unfold maxLen; omega) (by omega) (by omega) (by omega) (by omega)).mono ?_
  rw [← HT.out]
  rintro e w3 ⟨rfl, hb3⟩
  have k3 := k2.below hb3
  have hbw3 := after hbw2 hb3
  clear a0 a1 a2 k2 hbw2 hb3
  obtain ⟨⟨a0, a1, a2⟩, -⟩ := id k3
  cases hok : recOkB s q d with
  | false =>
    obtain rfl : T = ⟨#[]⟩ := by rw [HT.out, recT, recB, hok]; rfl
    go_wp2_with fail
    refine (implRecOk_any s q d w3 (by unfold maxLen; omega)).mono ?_
    rw [hok]
    rintro e w4 ⟨rfl, hb4⟩
    have hbw4 := after hbw3 hb4
    clear a0 a1 a2 k3 hbw3 hb4 hok
    go_wp2_with fail
    refine (DrawRecOk_any a zs cap w4 (hr.below hbw4) hb hm).mono ?_
    rintro e x1 ⟨s2, q2, d2, rfl, hs2, hq2, hd2, hbx1⟩
    obtain ⟨X1, hX1⟩ : ∃ X1, X1 = x1.alloc (Obj.cells #[.int .i64 s2, .int .i64 q2, .string d2] 25) := ⟨_, rfl⟩
    have hbX1 : Below x1.heap.size x1 X1 := by rw [hX1]; exact (Below.refl _ _).alloc (Nat.le_refl _) _
    have c1 : C3 X1 x1.heap.size (.int .i64 s2) (.int .i64 q2) (.string d2) := by rw [hX1]; exact c3_new _ _ _ _ _
    have hbwX1 := after (after hbw4 hbx1) hbX1
    clear hbx1 hbX1
    go_wp2_with (rw [← hX1]; clear hX1)
    refine (DrawRecRead_any a zs cap X1 (hr.below hbwX1) hb hm).mono ?_
    rintro e x2 ⟨t, rfl, ht, hbx2⟩
    have c2 := c1.below hbx2
    have hbwx2 := after hbwX1 hbx2
    clear c1 hbx2 hbwX1 hr
    go_wp2_with fail
    refine (implRecRead_r t x2 (by omega)).mono ?_
    rintro e x3 ⟨rfl, hbx3⟩
    obtain ⟨S, hS⟩ : ∃ S, S = rS (recR t) := ⟨_, rfl⟩
    obtain ⟨Q, hQ⟩ : ∃ Q, Q = rQ (recR t) := ⟨_, rfl⟩
    obtain ⟨D, hD⟩ : ∃ D, D = rD (recR t) := ⟨_, rfl⟩
    obtain ⟨B, hB⟩ : ∃ B, B = rB (recR t) := ⟨_, rfl⟩
    rw [← hS, ← hQ, ← hD, ← hB]
    have HS := hide hS
    have HQ := hide hQ
    have HD := hide hD
    have HB := hide hB
    clear hS hQ hD hB
    obtain ⟨X3, hX3⟩ : ∃ X3, X3 = x3.alloc (Obj.cells #[.int .i64 S, .int .i64 Q, .string D] 25) := ⟨_, rfl⟩
    have hbX3 : Below x3.heap.size x3 X3 := by rw [hX3]; exact (Below.refl _ _).alloc (Nat.le_refl _) _
    have e3 : C3 X3 x3.heap.size (.int .i64 S) (.int .i64 Q) (.string D) := by rw [hX3]; exact c3_new _ _ _ _ _
    have c3 := (c2.below hbx3).below hbX3
    have hbwX3 := after (after hbwx2 hbx3) hbX3
    clear c2 hbx3 hbX3 hbwx2
    go_wp2_with (rw [← hX3]; clear hX3)
    refine (specRecRead_r t X3 (by omega)).mono ?_
    rw [← HS.out, ← HQ.out, ← HD.out, ← HB.out]
    rintro e x4 ⟨rfl, hbx4⟩
    obtain ⟨X4, hX4⟩ : ∃ X4, X4 = x4.alloc (Obj.cells #[.int .i64 S, .int .i64 Q, .string D] 25) := ⟨_, rfl⟩
    have hbX4 : Below x4.heap.size x4 X4 := by rw [hX4]; exact (Below.refl _ _).alloc (Nat.le_refl _) _
    have e4 := (e3.below hbx4).below hbX4
    have c4 := (c3.below hbx4).below hbX4
    have hbwX4 := after (after hbwX3 hbx4) hbX4
    clear c3 e3 hbx4 hbX4 hbwX3
    go_wp2_with (rw [← hX4]; clear hX4)
    have HC : Hid (∀ u, Below X4.heap.size X4 u → (u.cell? ⟨x1.heap.size, 0, none⟩ = some (.int .i64 s2) ∧ u.cell? ⟨x1.heap.size, 1, none⟩ = some (.int .i64 q2) ∧ u.cell? ⟨x1.heap.size, 2, none⟩ = some (.string d2)) ∧ (u.cell? ⟨x3.heap.size, 0, none⟩ = some (.int .i64 S) ∧ u.cell? ⟨x3.heap.size, 1, none⟩ = some (.int .i64 Q) ∧ u.cell? ⟨x3.heap.size, 2, none⟩ = some (.string D))) := fun u hu => ⟨(c4.below hu).1, (e4.below hu).1⟩
    have hdr : Below X4.heap.size X4 X4.drew := after_drew (Below.refl _ _) 1
    obtain ⟨⟨z0, z1, z2⟩, ⟨z3, z4, z5⟩⟩ := HC.out X4 (Below.refl _ _)
    have HBX := hide hbwX4
    obtain ⟨O, hO⟩ : ∃ O, O = recOkB s2 q2 d2 := ⟨_, rfl⟩
    have HO := hide hO
    have hOO : (O == O) = true := by simp
    have hBB : (B == B) = true := by simp
    clear c4 e4 hbwX4 hO
    cases hrt : recR t with
    | none =>
      obtain rfl : S = 0 := by rw [HS.out, hrt]; rfl
      obtain rfl : Q = 0 := by rw [HQ.out, hrt]; rfl
      obtain rfl : D = ⟨#[]⟩ := by rw [HD.out, hrt]; rfl
      obtain rfl : B = false := by rw [HB.out, hrt]; rfl
      clear HS HQ HD HB hrt
      go_wp2_with fail
      refine wp_region_held_drew (S := fun u => (u.cell? ⟨x1.heap.size, 0, none⟩ = some (.int .i64 s2) ∧ u.cell? ⟨x1.heap.size, 1, none⟩ = some (.int .i64 q2) ∧ u.cell? ⟨x1.heap.size, 2, none⟩ = some (.string d2)) ∧ (u.cell? ⟨x3.heap.size, 0, none⟩ = some (.int .i64 0) ∧ u.cell? ⟨x3.heap.size, 1, none⟩ = some (.int .i64 0) ∧ u.cell? ⟨x3.heap.size, 2, none⟩ = some (.string ⟨#[]⟩))) (by kernel_rfl) (HC.out _ hdr) (fun hHeld => ?_)
      refine take_rec (i := 0) (some 75) (v := (.agg #[.int .i64 s2, .int .i64 q2, .string d2])) rfl rfl (by kernel_rfl) (by kernel_rfl) (by kernel_rfl) (fun _ _ _ h => h) (Or.inl ⟨by rfl, fun w hSw => by (obtain ⟨⟨t0, t1, t2⟩, ⟨t3, t4, t5⟩⟩ := hSw; go_simp)⟩) (by assumption) ?_
      simp only [Act.put, List.setIfInBounds_toArray, List.set_cons_zero, List.set_cons_succ]
      refine take_rec (i := 2) (some 77) (v := (.agg #[.int .i64 s2, .int .i64 q2, .string d2])) rfl rfl (by kernel_rfl) (by kernel_rfl) (by kernel_rfl) (fun _ _ _ h => h) (Or.inl ⟨by rfl, fun w hSw => by (obtain ⟨⟨t0, t1, t2⟩, ⟨t3, t4, t5⟩⟩ := hSw; go_simp)⟩) (by assumption) ?_
      simp only [Act.put, List.setIfInBounds_toArray, List.set_cons_zero, List.set_cons_succ]
      refine wpAnyH_ready (rs := [1]) (by kernel_rfl) (by simp) ?_
      refine AllReadyH.cons rfl (fun K hK => ?_) AllReadyH.nil
      go_simp
      refine (implRecOk_any s2 q2 d2 _ (by unfold maxLen; omega)).mono ?_
      rw [← HO.out]
      rintro e x6 ⟨rfl, hbx6⟩
      have HSx6 : Hid (Below X4.heap.size X4 x6) := after hdr hbx6
      clear hbx6
      refine hK.out _ _ (HC.out _ HSx6.out) (fun hHeld => ?_)
      clear hK K
      refine wpAnyH_ready (rs := [3]) (by kernel_rfl) (by simp) ?_
      refine AllReadyH.cons rfl (fun K hK => ?_) AllReadyH.nil
      go_simp
      refine (specRecOk_any s2 q2 d2 _ (by unfold maxLen; omega)).mono ?_
      rw [← HO.out]
      rintro e x7 ⟨rfl, hbx7⟩
      have HSx7 : Hid (Below X4.heap.size X4 x7) := after HSx6.out hbx7
      clear hbx7
      refine hK.out _ _ (HC.out _ HSx7.out) (fun hHeld => ?_)
      clear hK K
      refine take_rec (i := 4) (some 79) (v := .bool true) rfl rfl (by kernel_rfl) (by kernel_rfl) (by kernel_rfl) (fun _ _ _ h => h) (Or.inl ⟨by rfl, fun w hSw => by (obtain ⟨⟨t0, t1, t2⟩, ⟨t3, t4, t5⟩⟩ := hSw; go_simp)⟩) (by assumption) ?_
      simp only [Act.put, List.setIfInBounds_toArray, List.set_cons_zero, List.set_cons_succ]
      refine take_rec (i := 5) (some 80) (v := .bool true) rfl rfl (by kernel_rfl) (by kernel_rfl) (by kernel_rfl) (fun _ _ _ h => h) (Or.inl ⟨by rfl, fun w hSw => by (obtain ⟨⟨t0, t1, t2⟩, ⟨t3, t4, t5⟩⟩ := hSw; go_simp)⟩) (by assumption) ?_
      simp only [Act.put, List.setIfInBounds_toArray, List.set_cons_zero, List.set_cons_succ]
      refine take_rec (i := 6) (some 81) (v := .bool false) rfl rfl (by kernel_rfl) (by kernel_rfl) (by kernel_rfl) (fun _ _ _ h => h) (Or.inl ⟨by rfl, fun w hSw => by (obtain ⟨⟨t0, t1, t2⟩, ⟨t3, t4, t5⟩⟩ := hSw; go_simp)⟩) (by assumption) ?_
      simp only [Act.put, List.setIfInBounds_toArray, List.set_cons_zero, List.set_cons_succ]
      refine take_rec (i := 7) (some 82) (v := .bool false) rfl rfl (by kernel_rfl) (by kernel_rfl) (by kernel_rfl) (fun _ _ _ h => h) (Or.inl ⟨by rfl, fun w hSw => by (obtain ⟨⟨t0, t1, t2⟩, ⟨t3, t4, t5⟩⟩ := hSw; go_simp)⟩) (by assumption) ?_
      simp only [Act.put, List.setIfInBounds_toArray, List.set_cons_zero, List.set_cons_succ]
      refine take_rec (i := 8) (some 83) (v := .bool true) rfl rfl (by kernel_rfl) (by kernel_rfl) (by kernel_rfl) (fun _ _ _ h => h) (Or.inl ⟨by rfl, fun w hSw => by (obtain ⟨⟨t0, t1, t2⟩, ⟨t3, t4, t5⟩⟩ := hSw; go_simp)⟩) (by assumption) ?_
      simp only [Act.put, List.setIfInBounds_toArray, List.set_cons_zero, List.set_cons_succ]
      refine take_rec (i := 9) (some 84) (v := .bool true) rfl rfl (by kernel_rfl) (by kernel_rfl) (by kernel_rfl) (fun _ _ _ h => h) (Or.inl ⟨by rfl, fun w hSw => by (obtain ⟨⟨t0, t1, t2⟩, ⟨t3, t4, t5⟩⟩ := hSw; go_simp)⟩) (by assumption) ?_
      simp only [Act.put, List.setIfInBounds_toArray, List.set_cons_zero, List.set_cons_succ]
      refine take_rec (i := 10) (some 85) (v := .bool true) rfl rfl (by kernel_rfl) (by kernel_rfl) (by kernel_rfl) (fun _ _ _ h => h) (Or.inl ⟨by rfl, fun w hSw => by (obtain ⟨⟨t0, t1, t2⟩, ⟨t3, t4, t5⟩⟩ := hSw; go_simp)⟩) (by assumption) ?_
      simp only [Act.put, List.setIfInBounds_toArray, List.set_cons_zero, List.set_cons_succ]
      refine take_rec (i := 11) (some 86) (v := .bool false) rfl rfl (by kernel_rfl) (by kernel_rfl) (by kernel_rfl) (fun _ _ _ h => h) (Or.inl ⟨by rfl, fun w hSw => by (obtain ⟨⟨t0, t1, t2⟩, ⟨t3, t4, t5⟩⟩ := hSw; go_simp)⟩) (by assumption) ?_
      simp only [Act.put, List.setIfInBounds_toArray, List.set_cons_zero, List.set_cons_succ]
      refine take_rec (i := 12) (some 87) (v := .bool true) rfl rfl (by kernel_rfl) (by kernel_rfl) (by kernel_rfl) (fun _ _ _ h => h) (Or.inl ⟨by rfl, fun w hSw => by (obtain ⟨⟨t0, t1, t2⟩, ⟨t3, t4, t5⟩⟩ := hSw; go_simp)⟩) (by assumption) ?_
      simp only [Act.put, List.setIfInBounds_toArray, List.set_cons_zero, List.set_cons_succ]
      refine take_rec (i := 13) (some 88) (v := .bool true) rfl rfl (by kernel_rfl) (by kernel_rfl) (by kernel_rfl) (fun _ _ _ h => h) (Or.inl ⟨by rfl, fun w hSw => by (obtain ⟨⟨t0, t1, t2⟩, ⟨t3, t4, t5⟩⟩ := hSw; go_simp)⟩) (by assumption) ?_
      simp only [Act.put, List.setIfInBounds_toArray, List.set_cons_zero, List.set_cons_succ]
      refine take_rec (i := 14) (some 89) (v := (.agg #[.int .i64 0, .int .i64 0, .string ⟨#[]⟩])) rfl rfl (by kernel_rfl) (by kernel_rfl) (by kernel_rfl) (fun _ _ _ h => h) (Or.inl ⟨by rfl, fun w hSw => by (obtain ⟨⟨t0, t1, t2⟩, ⟨t3, t4, t5⟩⟩ := hSw; go_simp)⟩) (by assumption) ?_
      simp only [Act.put, List.setIfInBounds_toArray, List.set_cons_zero, List.set_cons_succ]
      refine take_rec (i := 15) (some 90) (v := (.agg #[.int .i64 0, .int .i64 0, .string ⟨#[]⟩])) rfl rfl (by kernel_rfl) (by kernel_rfl) (by kernel_rfl) (fun _ _ _ h => h) (Or.inl ⟨by rfl, fun w hSw => by (obtain ⟨⟨t0, t1, t2⟩, ⟨t3, t4, t5⟩⟩ := hSw; go_simp)⟩) (by assumption) ?_
      simp only [Act.put, List.setIfInBounds_toArray, List.set_cons_zero, List.set_cons_succ]
      refine take_rec (i := 16) (some 91) (v := .bool true) rfl rfl (by kernel_rfl) (by kernel_rfl) (by kernel_rfl) (fun _ _ _ h => h) (Or.inl ⟨by rfl, fun w hSw => by (obtain ⟨⟨t0, t1, t2⟩, ⟨t3, t4, t5⟩⟩ := hSw; go_simp)⟩) (by assumption) ?_
      simp only [Act.put, List.setIfInBounds_toArray, List.set_cons_zero, List.set_cons_succ]
      refine take_rec (i := 17) (some 92) (v := .bool true) rfl rfl (by kernel_rfl) (by kernel_rfl) (by kernel_rfl) (fun _ _ _ h => h) (Or.inl ⟨by rfl, fun w hSw => by (obtain ⟨⟨t0, t1, t2⟩, ⟨t3, t4, t5⟩⟩ := hSw; go_simp)⟩) (by assumption) ?_
      simp only [Act.put, List.setIfInBounds_toArray, List.set_cons_zero, List.set_cons_succ]
      refine take_rec (i := 18) (some 93) (v := .bool true) rfl rfl (by kernel_rfl) (by kernel_rfl) (by kernel_rfl) (fun _ _ _ h => h) (Or.inl ⟨by rfl, fun w hSw => by (obtain ⟨⟨t0, t1, t2⟩, ⟨t3, t4, t5⟩⟩ := hSw; go_simp)⟩) (by assumption) ?_
      simp only [Act.put, List.setIfInBounds_toArray, List.set_cons_zero, List.set_cons_succ]
      refine take_rec (i := 19) (some 94) (v := undef) rfl rfl (by kernel_rfl) (by kernel_rfl) (by kernel_rfl) (fun _ _ _ h => h) (Or.inr ⟨by first | rfl | simp [Region.wanted, yielded, undef], rfl⟩) (by assumption) ?_
      simp only [Act.put, List.setIfInBounds_toArray, List.set_cons_zero, List.set_cons_succ]
      refine take_rec (i := 20) (some 95) (v := undef) rfl rfl (by kernel_rfl) (by kernel_rfl) (by kernel_rfl) (fun _ _ _ h => h) (Or.inr ⟨by first | rfl | simp [Region.wanted, yielded, undef], rfl⟩) (by assumption) ?_
      simp only [Act.put, List.setIfInBounds_toArray, List.set_cons_zero, List.set_cons_succ]
      refine take_rec (i := 21) (some 96) (v := undef) rfl rfl (by kernel_rfl) (by kernel_rfl) (by kernel_rfl) (fun _ _ _ h => h) (Or.inr ⟨by first | rfl | simp [Region.wanted, yielded, undef], rfl⟩) (by assumption) ?_
      simp only [Act.put, List.setIfInBounds_toArray, List.set_cons_zero, List.set_cons_succ]
      refine take_rec (i := 22) (some 97) (v := undef) rfl rfl (by kernel_rfl) (by kernel_rfl) (by kernel_rfl) (fun _ _ _ h => h) (Or.inr ⟨by first | rfl | simp [Region.wanted, yielded, undef], rfl⟩) (by assumption) ?_
      simp only [Act.put, List.setIfInBounds_toArray, List.set_cons_zero, List.set_cons_succ]
      refine take_rec (i := 23) (some 98) (v := undef) rfl rfl (by kernel_rfl) (by kernel_rfl) (by kernel_rfl) (fun _ _ _ h => h) (Or.inr ⟨by first | rfl | simp [Region.wanted, yielded, undef], rfl⟩) (by assumption) ?_
      simp only [Act.put, List.setIfInBounds_toArray, List.set_cons_zero, List.set_cons_succ]
      refine take_rec (i := 24) (some 99) (v := undef) rfl rfl (by kernel_rfl) (by kernel_rfl) (by kernel_rfl) (fun _ _ _ h => h) (Or.inr ⟨by first | rfl | simp [Region.wanted, yielded, undef], rfl⟩) (by assumption) ?_
      simp only [Act.put, List.setIfInBounds_toArray, List.set_cons_zero, List.set_cons_succ]
      refine take_rec (i := 25) (some 100) (v := undef) rfl rfl (by kernel_rfl) (by kernel_rfl) (by kernel_rfl) (fun _ _ _ h => h) (Or.inr ⟨by first | rfl | simp [Region.wanted, yielded, undef], rfl⟩) (by assumption) ?_
      simp only [Act.put, List.setIfInBounds_toArray, List.set_cons_zero, List.set_cons_succ]
      refine take_rec (i := 26) (some 101) (v := .bool true) rfl rfl (by kernel_rfl) (by kernel_rfl) (by kernel_rfl) (fun _ _ _ h => h) (Or.inl ⟨by rfl, fun w hSw => by (obtain ⟨⟨t0, t1, t2⟩, ⟨t3, t4, t5⟩⟩ := hSw; go_simp)⟩) (by assumption) ?_
      simp only [Act.put, List.setIfInBounds_toArray, List.set_cons_zero, List.set_cons_succ]
      refine take_rec (i := 27) (some 102) (v := .bool true) rfl rfl (by kernel_rfl) (by kernel_rfl) (by kernel_rfl) (fun _ _ _ h => h) (Or.inl ⟨by rfl, fun w hSw => by (obtain ⟨⟨t0, t1, t2⟩, ⟨t3, t4, t5⟩⟩ := hSw; go_simp)⟩) (by assumption) ?_
      simp only [Act.put, List.setIfInBounds_toArray, List.set_cons_zero, List.set_cons_succ]
      refine take_rec (i := 28) (some 2) (v := .bool true) rfl rfl (by kernel_rfl) (by kernel_rfl) (by kernel_rfl) (fun _ _ _ h => h) (Or.inl ⟨by rfl, fun w hSw => by (obtain ⟨⟨t0, t1, t2⟩, ⟨t3, t4, t5⟩⟩ := hSw; go_simp)⟩) (by assumption) ?_
      simp only [Act.put, List.setIfInBounds_toArray, List.set_cons_zero, List.set_cons_succ]
      refine wpAnyH_done (by kernel_rfl) ?_ _
      clear hHeld
      go_wp2
      go_ret
      exact ⟨rfl, after HBX.out HSx7.out⟩
    | some r =>
      obtain ⟨s3, q3, d3⟩ := r
      obtain rfl : S = s3 := by rw [HS.out, hrt]; rfl
      obtain rfl : Q = q3 := by rw [HQ.out, hrt]; rfl
      obtain rfl : D = d3 := by rw [HD.out, hrt]; rfl
      obtain rfl : B = true := by rw [HB.out, hrt]; rfl
      have HT3 := hide (recR_iff.1 hrt).2
      obtain ⟨⟨g0, g1⟩, ⟨g2, g3⟩, g4⟩ := recOkB_iff.1 (recR_iff.1 hrt).1
      have htt : (t.toList == t.toList) = true := by simp
      clear HS HQ HD HB hrt
      go_wp2_with fail
      refine wp_region_held_drew (S := fun u => (u.cell? ⟨x1.heap.size, 0, none⟩ = some (.int .i64 s2) ∧ u.cell? ⟨x1.heap.size, 1, none⟩ = some (.int .i64 q2) ∧ u.cell? ⟨x1.heap.size, 2, none⟩ = some (.string d2)) ∧ (u.cell? ⟨x3.heap.size, 0, none⟩ = some (.int .i64 S) ∧ u.cell? ⟨x3.heap.size, 1, none⟩ = some (.int .i64 Q) ∧ u.cell? ⟨x3.heap.size, 2, none⟩ = some (.string D))) (by kernel_rfl) (HC.out _ hdr) (fun hHeld => ?_)
      refine take_rec (i := 0) (some 75) (v := (.agg #[.int .i64 s2, .int .i64 q2, .string d2])) rfl rfl (by kernel_rfl) (by kernel_rfl) (by kernel_rfl) (fun _ _ _ h => h) (Or.inl ⟨by rfl, fun w hSw => by (obtain ⟨⟨t0, t1, t2⟩, ⟨t3, t4, t5⟩⟩ := hSw; go_simp)⟩) (by assumption) ?_
      simp only [Act.put, List.setIfInBounds_toArray, List.set_cons_zero, List.set_cons_succ]
      refine take_rec (i := 2) (some 77) (v := (.agg #[.int .i64 s2, .int .i64 q2, .string d2])) rfl rfl (by kernel_rfl) (by kernel_rfl) (by kernel_rfl) (fun _ _ _ h => h) (Or.inl ⟨by rfl, fun w hSw => by (obtain ⟨⟨t0, t1, t2⟩, ⟨t3, t4, t5⟩⟩ := hSw; go_simp)⟩) (by assumption) ?_
      simp only [Act.put, List.setIfInBounds_toArray, List.set_cons_zero, List.set_cons_succ]
      refine wpAnyH_ready (rs := [1]) (by kernel_rfl) (by simp) ?_
      refine AllReadyH.cons rfl (fun K hK => ?_) AllReadyH.nil
      go_simp
      refine (implRecOk_any s2 q2 d2 _ (by unfold maxLen; omega)).mono ?_
      rw [← HO.out]
      rintro e x6 ⟨rfl, hbx6⟩
      have HSx6 : Hid (Below X4.heap.size X4 x6) := after hdr hbx6
      clear hbx6
      refine hK.out _ _ (HC.out _ HSx6.out) (fun hHeld => ?_)
      clear hK K
      refine wpAnyH_ready (rs := [3]) (by kernel_rfl) (by simp) ?_
      refine AllReadyH.cons rfl (fun K hK => ?_) AllReadyH.nil
      go_simp
      refine (specRecOk_any s2 q2 d2 _ (by unfold maxLen; omega)).mono ?_
      rw [← HO.out]
      rintro e x7 ⟨rfl, hbx7⟩
      have HSx7 : Hid (Below X4.heap.size X4 x7) := after HSx6.out hbx7
      clear hbx7
      refine hK.out _ _ (HC.out _ HSx7.out) (fun hHeld => ?_)
      clear hK K
      refine take_rec (i := 4) (some 79) (v := .bool true) rfl rfl (by kernel_rfl) (by kernel_rfl) (by kernel_rfl) (fun _ _ _ h => h) (Or.inl ⟨by rfl, fun w hSw => by (obtain ⟨⟨t0, t1, t2⟩, ⟨t3, t4, t5⟩⟩ := hSw; go_simp)⟩) (by assumption) ?_
      simp only [Act.put, List.setIfInBounds_toArray, List.set_cons_zero, List.set_cons_succ]
      refine take_rec (i := 5) (some 80) (v := .bool true) rfl rfl (by kernel_rfl) (by kernel_rfl) (by kernel_rfl) (fun _ _ _ h => h) (Or.inl ⟨by rfl, fun w hSw => by (obtain ⟨⟨t0, t1, t2⟩, ⟨t3, t4, t5⟩⟩ := hSw; go_simp)⟩) (by assumption) ?_
      simp only [Act.put, List.setIfInBounds_toArray, List.set_cons_zero, List.set_cons_succ]
      refine take_rec (i := 6) (some 81) (v := .bool true) rfl rfl (by kernel_rfl) (by kernel_rfl) (by kernel_rfl) (fun _ _ _ h => h) (Or.inl ⟨by rfl, fun w hSw => by (obtain ⟨⟨t0, t1, t2⟩, ⟨t3, t4, t5⟩⟩ := hSw; go_simp)⟩) (by assumption) ?_
      simp only [Act.put, List.setIfInBounds_toArray, List.set_cons_zero, List.set_cons_succ]
      refine take_rec (i := 7) (some 82) (v := .bool true) rfl rfl (by kernel_rfl) (by kernel_rfl) (by kernel_rfl) (fun _ _ _ h => h) (Or.inl ⟨by rfl, fun w hSw => by (obtain ⟨⟨t0, t1, t2⟩, ⟨t3, t4, t5⟩⟩ := hSw; go_simp)⟩) (by assumption) ?_
      simp only [Act.put, List.setIfInBounds_toArray, List.set_cons_zero, List.set_cons_succ]
      refine take_rec (i := 8) (some 83) (v := .bool true) rfl rfl (by kernel_rfl) (by kernel_rfl) (by kernel_rfl) (fun _ _ _ h => h) (Or.inl ⟨by rfl, fun w hSw => by (obtain ⟨⟨t0, t1, t2⟩, ⟨t3, t4, t5⟩⟩ := hSw; go_simp)⟩) (by assumption) ?_
      simp only [Act.put, List.setIfInBounds_toArray, List.set_cons_zero, List.set_cons_succ]
      refine take_rec (i := 9) (some 84) (v := .bool true) rfl rfl (by kernel_rfl) (by kernel_rfl) (by kernel_rfl) (fun _ _ _ h => h) (Or.inl ⟨by rfl, fun w hSw => by (obtain ⟨⟨t0, t1, t2⟩, ⟨t3, t4, t5⟩⟩ := hSw; go_simp)⟩) (by assumption) ?_
      simp only [Act.put, List.setIfInBounds_toArray, List.set_cons_zero, List.set_cons_succ]
      refine take_rec (i := 10) (some 85) (v := .bool true) rfl rfl (by kernel_rfl) (by kernel_rfl) (by kernel_rfl) (fun _ _ _ h => h) (Or.inl ⟨by rfl, fun w hSw => by (obtain ⟨⟨t0, t1, t2⟩, ⟨t3, t4, t5⟩⟩ := hSw; go_simp)⟩) (by assumption) ?_
      simp only [Act.put, List.setIfInBounds_toArray, List.set_cons_zero, List.set_cons_succ]
      refine take_rec (i := 11) (some 86) (v := .bool true) rfl rfl (by kernel_rfl) (by kernel_rfl) (by kernel_rfl) (fun _ _ _ h => h) (Or.inl ⟨by rfl, fun w hSw => by (obtain ⟨⟨t0, t1, t2⟩, ⟨t3, t4, t5⟩⟩ := hSw; go_simp)⟩) (by assumption) ?_
      simp only [Act.put, List.setIfInBounds_toArray, List.set_cons_zero, List.set_cons_succ]
      refine take_rec (i := 12) (some 87) (v := .bool false) rfl rfl (by kernel_rfl) (by kernel_rfl) (by kernel_rfl) (fun _ _ _ h => h) (Or.inl ⟨by rfl, fun w hSw => by (obtain ⟨⟨t0, t1, t2⟩, ⟨t3, t4, t5⟩⟩ := hSw; go_simp)⟩) (by assumption) ?_
      simp only [Act.put, List.setIfInBounds_toArray, List.set_cons_zero, List.set_cons_succ]
      refine take_rec (i := 13) (some 88) (v := .bool false) rfl rfl (by kernel_rfl) (by kernel_rfl) (by kernel_rfl) (fun _ _ _ h => h) (Or.inl ⟨by rfl, fun w hSw => by (obtain ⟨⟨t0, t1, t2⟩, ⟨t3, t4, t5⟩⟩ := hSw; go_simp)⟩) (by assumption) ?_
      simp only [Act.put, List.setIfInBounds_toArray, List.set_cons_zero, List.set_cons_succ]
      refine take_rec (i := 14) (some 89) (v := undef) rfl rfl (by kernel_rfl) (by kernel_rfl) (by kernel_rfl) (fun _ _ _ h => h) (Or.inr ⟨by first | rfl | simp [Region.wanted, yielded, undef], rfl⟩) (by assumption) ?_
      simp only [Act.put, List.setIfInBounds_toArray, List.set_cons_zero, List.set_cons_succ]
      refine take_rec (i := 15) (some 90) (v := undef) rfl rfl (by kernel_rfl) (by kernel_rfl) (by kernel_rfl) (fun _ _ _ h => h) (Or.inr ⟨by first | rfl | simp [Region.wanted, yielded, undef], rfl⟩) (by assumption) ?_
      simp only [Act.put, List.setIfInBounds_toArray, List.set_cons_zero, List.set_cons_succ]
      refine take_rec (i := 16) (some 91) (v := undef) rfl rfl (by kernel_rfl) (by kernel_rfl) (by kernel_rfl) (fun _ _ _ h => h) (Or.inr ⟨by first | rfl | simp [Region.wanted, yielded, undef], rfl⟩) (by assumption) ?_
      simp only [Act.put, List.setIfInBounds_toArray, List.set_cons_zero, List.set_cons_succ]
      refine take_rec (i := 17) (some 92) (v := .bool false) rfl rfl (by kernel_rfl) (by kernel_rfl) (by kernel_rfl) (fun _ _ _ h => h) (Or.inl ⟨by rfl, fun w hSw => by (obtain ⟨⟨t0, t1, t2⟩, ⟨t3, t4, t5⟩⟩ := hSw; go_simp)⟩) (by assumption) ?_
      simp only [Act.put, List.setIfInBounds_toArray, List.set_cons_zero, List.set_cons_succ]
      refine take_rec (i := 18) (some 93) (v := .bool false) rfl rfl (by kernel_rfl) (by kernel_rfl) (by kernel_rfl) (fun _ _ _ h => h) (Or.inl ⟨by rfl, fun w hSw => by (obtain ⟨⟨t0, t1, t2⟩, ⟨t3, t4, t5⟩⟩ := hSw; go_simp)⟩) (by assumption) ?_
      simp only [Act.put, List.setIfInBounds_toArray, List.set_cons_zero, List.set_cons_succ]
      refine take_rec (i := 19) (some 94) (v := .bool true) rfl rfl (by kernel_rfl) (by kernel_rfl) (by kernel_rfl) (fun _ _ _ h => h) (Or.inl ⟨by rfl, fun w hSw => by (obtain ⟨⟨t0, t1, t2⟩, ⟨t3, t4, t5⟩⟩ := hSw; go_simp)⟩) (by assumption) ?_
      simp only [Act.put, List.setIfInBounds_toArray, List.set_cons_zero, List.set_cons_succ]
      refine take_rec (i := 20) (some 95) (v := .bool true) rfl rfl (by kernel_rfl) (by kernel_rfl) (by kernel_rfl) (fun _ _ _ h => h) (Or.inl ⟨by rfl, fun w hSw => by (obtain ⟨⟨t0, t1, t2⟩, ⟨t3, t4, t5⟩⟩ := hSw; go_simp)⟩) (by assumption) ?_
      simp only [Act.put, List.setIfInBounds_toArray, List.set_cons_zero, List.set_cons_succ]
      refine take_rec (i := 21) (some 96) (v := (.agg #[.int .i64 S, .int .i64 Q, .string D])) rfl rfl (by kernel_rfl) (by kernel_rfl) (by kernel_rfl) (fun _ _ _ h => h) (Or.inl ⟨by rfl, fun w hSw => by (obtain ⟨⟨t0, t1, t2⟩, ⟨t3, t4, t5⟩⟩ := hSw; go_simp)⟩) (by assumption) ?_
      simp only [Act.put, List.setIfInBounds_toArray, List.set_cons_zero, List.set_cons_succ]
      refine take_rec (i := 23) (some 98) (v := .string t) rfl rfl (by kernel_rfl) (by kernel_rfl) (by kernel_rfl) (fun _ _ _ h => h) (Or.inl ⟨by rfl, fun w hSw => by (obtain ⟨⟨t0, t1, t2⟩, ⟨t3, t4, t5⟩⟩ := hSw; go_simp)⟩) (by assumption) ?_
      simp only [Act.put, List.setIfInBounds_toArray, List.set_cons_zero, List.set_cons_succ]
      refine wpAnyH_ready (rs := [22]) (by kernel_rfl) (by simp) ?_
      refine AllReadyH.cons rfl (fun K hK => ?_) AllReadyH.nil
      go_simp
      refine (implRecText_any S Q D _ (by unfold maxLen; omega) (by omega) (by omega) (by omega) (by omega)).mono ?_
      rw [HT3.out]
      rintro e x8 ⟨rfl, hbx8⟩
      have HSx8 : Hid (Below X4.heap.size X4 x8) := after HSx7.out hbx8
      clear hbx8
      refine hK.out _ _ (HC.out _ HSx8.out) (fun hHeld => ?_)
      clear hK K
      refine take_rec (i := 24) (some 99) (v := .bool true) rfl rfl (by kernel_rfl) (by kernel_rfl) (by kernel_rfl) (fun _ _ _ h => h) (Or.inl ⟨by rfl, fun w hSw => by (obtain ⟨⟨t0, t1, t2⟩, ⟨t3, t4, t5⟩⟩ := hSw; go_simp)⟩) (by assumption) ?_
      simp only [Act.put, List.setIfInBounds_toArray, List.set_cons_zero, List.set_cons_succ]
      refine take_rec (i := 25) (some 100) (v := .bool true) rfl rfl (by kernel_rfl) (by kernel_rfl) (by kernel_rfl) (fun _ _ _ h => h) (Or.inl ⟨by rfl, fun w hSw => by (obtain ⟨⟨t0, t1, t2⟩, ⟨t3, t4, t5⟩⟩ := hSw; go_simp)⟩) (by assumption) ?_
      simp only [Act.put, List.setIfInBounds_toArray, List.set_cons_zero, List.set_cons_succ]
      refine take_rec (i := 26) (some 101) (v := .bool true) rfl rfl (by kernel_rfl) (by kernel_rfl) (by kernel_rfl) (fun _ _ _ h => h) (Or.inl ⟨by rfl, fun w hSw => by (obtain ⟨⟨t0, t1, t2⟩, ⟨t3, t4, t5⟩⟩ := hSw; go_simp)⟩) (by assumption) ?_
      simp only [Act.put, List.setIfInBounds_toArray, List.set_cons_zero, List.set_cons_succ]
      refine take_rec (i := 27) (some 102) (v := .bool true) rfl rfl (by kernel_rfl) (by kernel_rfl) (by kernel_rfl) (fun _ _ _ h => h) (Or.inl ⟨by rfl, fun w hSw => by (obtain ⟨⟨t0, t1, t2⟩, ⟨t3, t4, t5⟩⟩ := hSw; go_simp)⟩) (by assumption) ?_
      simp only [Act.put, List.setIfInBounds_toArray, List.set_cons_zero, List.set_cons_succ]
      refine take_rec (i := 28) (some 2) (v := .bool true) rfl rfl (by kernel_rfl) (by kernel_rfl) (by kernel_rfl) (fun _ _ _ h => h) (Or.inl ⟨by rfl, fun w hSw => by (obtain ⟨⟨t0, t1, t2⟩, ⟨t3, t4, t5⟩⟩ := hSw; go_simp)⟩) (by assumption) ?_
      simp only [Act.put, List.setIfInBounds_toArray, List.set_cons_zero, List.set_cons_succ]
      refine wpAnyH_done (by kernel_rfl) ?_ _
      clear hHeld
      go_wp2
      go_ret
      exact ⟨rfl, after HBX.out HSx8.out⟩
  | true =>
    have hne := recT_ne hok
    rw [← HT.out] at hne
    have hE1 : (T.toList == (⟨#[]⟩ : ByteArray).toList) = false := by simpa using fun h => hne (text_inj h)
    have hE2 : (T.toList == []) = false := by
      have e : (⟨#[]⟩ : ByteArray).toList = [] := by rw [ByteArray.toList_eq]
      rw [← e]; exact hE1
    have hTp : 0 < T.size := by
      rcases Nat.eq_zero_or_pos T.size with h | h
      · exact absurd (ByteArray.ext (Array.eq_empty_of_size_eq_zero h)) hne
      · exact h
    have HR := hide (recR_of hok)
    have HSH : Hid (∀ k, k < T.size → recR (T.extract 0 k) = none) := fun k hk => by rw [HT.out] at hk ⊢; exact recR_short hok hk
    rw [← HT.out] at HR
    clear hne
    go_wp2_with fail
    refine (implRecOk_any s q d w3 (by unfold maxLen; omega)).mono ?_
    rw [hok]
    rintro e w4 ⟨rfl, hb4⟩
    have k4 := k3.below hb4
    have hbw4 := after hbw3 hb4
    clear a0 a1 a2 k3 hbw3 hb4 hok
    go_wp2_with fail
    refine (implRecRead_any T w4 (by omega)).mono ?_
    rintro e w5 ⟨hyes, -, hb5⟩
    obtain rfl := hyes s q d HR.out
    obtain ⟨W5, hW5⟩ : ∃ W5, W5 = w5.alloc (Obj.cells #[.int .i64 s, .int .i64 q, .string d] 25) := ⟨_, rfl⟩
    have hbW5 : Below w5.heap.size w5 W5 := by rw [hW5]; exact (Below.refl _ _).alloc (Nat.le_refl _) _
    have m5 : C3 W5 w5.heap.size (.int .i64 s) (.int .i64 q) (.string d) := by rw [hW5]; exact c3_new _ _ _ _ _
    have k5 := (k4.below hb5).below hbW5
    have hbw5 := after (after hbw4 hb5) hbW5
    clear hyes k4 hbw4 hb5 hbW5
    go_wp2_with (rw [← hW5]; clear hW5)
    refine (at_any a zs cap 1 W5 (hr.below hbw5) hb hm (by omega)).mono ?_
    rintro e u ⟨⟨x, rfl, hx0, hx1⟩, hu⟩
    have hu' := hu.symm
    subst hu'
    obtain ⟨X, rfl⟩ : ∃ X : Nat, x = X := ⟨x.toNat, by omega⟩
    have hmul : (X : Int) * (T.size : Int) ≤ 255 * (T.size : Int) := Int.mul_le_mul_of_nonneg_right (by omega) (by omega)
    have hmul0 : 0 ≤ (X : Int) * (T.size : Int) := Int.mul_nonneg (by omega) (by omega)
    obtain ⟨K, hK⟩ : ∃ K : Nat, (X : Int) * (T.size : Int) / 256 = K := ⟨((X : Int) * (T.size : Int) / 256).toNat, by omega⟩
    have hKl : K < T.size := by omega
    have hkt : Int.tdiv ((X : Int) * (T.size : Int)) 256 = K := by rw [Int.tdiv_eq_ediv_of_nonneg hmul0]; exact hK
    go_wp2_with fail
    refine (implRecRead_any (T.extract 0 K) W5 (by simp; omega)).mono ?_
    rintro e w7 ⟨-, hno, hb7⟩
    obtain rfl := hno (HSH.out K hKl)
    have m7 := m5.below hb7
    have k7 := k5.below hb7
    have hbw7 := after hbw5 hb7
    obtain ⟨W7, hW7⟩ : ∃ W7, W7 = w7.alloc (Obj.cells #[.int .i64 0, .int .i64 0, .string ByteArray.empty] 25) := ⟨_, rfl⟩
    have hbW7 : Below w7.heap.size w7 W7 := by rw [hW7]; exact (Below.refl _ _).alloc (Nat.le_refl _) _
    have m8 := m7.below hbW7
    have k8 := k7.below hbW7
    have hbw8 := after hbw7 hbW7
    obtain ⟨⟨a0, a1, a2⟩, -⟩ := m8
    obtain ⟨⟨b0, b1, b2⟩, -⟩ := k8
    have hss : (s == s) = true := by simp
    have hqq : (q == q) = true := by simp
    have hdd : (d.toList == d.toList) = true := by simp
    clear hno m5 k5 m7 k7 hbw5 hbw7 hb7 hbW7 HSH HR
    go_wp2_with (rw [← hW7]; clear hW7)
    refine (DrawRecOk_any a zs cap W7 (hr.below hbw8) hb hm).mono ?_
    rintro e x1 ⟨s2, q2, d2, rfl, hs2, hq2, hd2, hbx1⟩
    obtain ⟨X1, hX1⟩ : ∃ X1, X1 = x1.alloc (Obj.cells #[.int .i64 s2, .int .i64 q2, .string d2] 25) := ⟨_, rfl⟩
    have hbX1 : Below x1.heap.size x1 X1 := by rw [hX1]; exact (Below.refl _ _).alloc (Nat.le_refl _) _
    have c1 : C3 X1 x1.heap.size (.int .i64 s2) (.int .i64 q2) (.string d2) := by rw [hX1]; exact c3_new _ _ _ _ _
    have hbwX1 := after (after hbw8 hbx1) hbX1
    clear hbx1 hbX1
    go_wp2_with (rw [← hX1]; clear hX1)
    refine (DrawRecRead_any a zs cap X1 (hr.below hbwX1) hb hm).mono ?_
    rintro e x2 ⟨t, rfl, ht, hbx2⟩
    have c2 := c1.below hbx2
    have hbwx2 := after hbwX1 hbx2
    clear c1 hbx2 hbwX1 hr
    go_wp2_with fail
    refine (implRecRead_r t x2 (by omega)).mono ?_
    rintro e x3 ⟨rfl, hbx3⟩
    obtain ⟨S, hS⟩ : ∃ S, S = rS (recR t) := ⟨_, rfl⟩
    obtain ⟨Q, hQ⟩ : ∃ Q, Q = rQ (recR t) := ⟨_, rfl⟩
    obtain ⟨D, hD⟩ : ∃ D, D = rD (recR t) := ⟨_, rfl⟩
    obtain ⟨B, hB⟩ : ∃ B, B = rB (recR t) := ⟨_, rfl⟩
    rw [← hS, ← hQ, ← hD, ← hB]
    have HS := hide hS
    have HQ := hide hQ
    have HD := hide hD
    have HB := hide hB
    clear hS hQ hD hB
    obtain ⟨X3, hX3⟩ : ∃ X3, X3 = x3.alloc (Obj.cells #[.int .i64 S, .int .i64 Q, .string D] 25) := ⟨_, rfl⟩
    have hbX3 : Below x3.heap.size x3 X3 := by rw [hX3]; exact (Below.refl _ _).alloc (Nat.le_refl _) _
    have e3 : C3 X3 x3.heap.size (.int .i64 S) (.int .i64 Q) (.string D) := by rw [hX3]; exact c3_new _ _ _ _ _
    have c3 := (c2.below hbx3).below hbX3
    have hbwX3 := after (after hbwx2 hbx3) hbX3
    clear c2 hbx3 hbX3 hbwx2
    go_wp2_with (rw [← hX3]; clear hX3)
    refine (specRecRead_r t X3 (by omega)).mono ?_
    rw [← HS.out, ← HQ.out, ← HD.out, ← HB.out]
    rintro e x4 ⟨rfl, hbx4⟩
    obtain ⟨X4, hX4⟩ : ∃ X4, X4 = x4.alloc (Obj.cells #[.int .i64 S, .int .i64 Q, .string D] 25) := ⟨_, rfl⟩
    have hbX4 : Below x4.heap.size x4 X4 := by rw [hX4]; exact (Below.refl _ _).alloc (Nat.le_refl _) _
    have e4 := (e3.below hbx4).below hbX4
    have c4 := (c3.below hbx4).below hbX4
    have hbwX4 := after (after hbwX3 hbx4) hbX4
    clear c3 e3 hbx4 hbX4 hbwX3
    go_wp2_with (rw [← hX4]; clear hX4)
    have HC : Hid (∀ u, Below X4.heap.size X4 u → (u.cell? ⟨x1.heap.size, 0, none⟩ = some (.int .i64 s2) ∧ u.cell? ⟨x1.heap.size, 1, none⟩ = some (.int .i64 q2) ∧ u.cell? ⟨x1.heap.size, 2, none⟩ = some (.string d2)) ∧ (u.cell? ⟨x3.heap.size, 0, none⟩ = some (.int .i64 S) ∧ u.cell? ⟨x3.heap.size, 1, none⟩ = some (.int .i64 Q) ∧ u.cell? ⟨x3.heap.size, 2, none⟩ = some (.string D))) := fun u hu => ⟨(c4.below hu).1, (e4.below hu).1⟩
    have hdr : Below X4.heap.size X4 X4.drew := after_drew (Below.refl _ _) 1
    obtain ⟨⟨z0, z1, z2⟩, ⟨z3, z4, z5⟩⟩ := HC.out X4 (Below.refl _ _)
    have HBX := hide hbwX4
    obtain ⟨O, hO⟩ : ∃ O, O = recOkB s2 q2 d2 := ⟨_, rfl⟩
    have HO := hide hO
    have hOO : (O == O) = true := by simp
    have hBB : (B == B) = true := by simp
    clear c4 e4 hbwX4 hO
    cases hrt : recR t with
    | none =>
      obtain rfl : S = 0 := by rw [HS.out, hrt]; rfl
      obtain rfl : Q = 0 := by rw [HQ.out, hrt]; rfl
      obtain rfl : D = ⟨#[]⟩ := by rw [HD.out, hrt]; rfl
      obtain rfl : B = false := by rw [HB.out, hrt]; rfl
      clear HS HQ HD HB hrt
      go_wp2_with fail
      refine wp_region_held_drew (S := fun u => (u.cell? ⟨x1.heap.size, 0, none⟩ = some (.int .i64 s2) ∧ u.cell? ⟨x1.heap.size, 1, none⟩ = some (.int .i64 q2) ∧ u.cell? ⟨x1.heap.size, 2, none⟩ = some (.string d2)) ∧ (u.cell? ⟨x3.heap.size, 0, none⟩ = some (.int .i64 0) ∧ u.cell? ⟨x3.heap.size, 1, none⟩ = some (.int .i64 0) ∧ u.cell? ⟨x3.heap.size, 2, none⟩ = some (.string ⟨#[]⟩))) (by kernel_rfl) (HC.out _ hdr) (fun hHeld => ?_)
      refine take_rec (i := 0) (some 75) (v := (.agg #[.int .i64 s2, .int .i64 q2, .string d2])) rfl rfl (by kernel_rfl) (by kernel_rfl) (by kernel_rfl) (fun _ _ _ h => h) (Or.inl ⟨by rfl, fun w hSw => by (obtain ⟨⟨t0, t1, t2⟩, ⟨t3, t4, t5⟩⟩ := hSw; go_simp)⟩) (by assumption) ?_
      simp only [Act.put, List.setIfInBounds_toArray, List.set_cons_zero, List.set_cons_succ]
      refine take_rec (i := 2) (some 77) (v := (.agg #[.int .i64 s2, .int .i64 q2, .string d2])) rfl rfl (by kernel_rfl) (by kernel_rfl) (by kernel_rfl) (fun _ _ _ h => h) (Or.inl ⟨by rfl, fun w hSw => by (obtain ⟨⟨t0, t1, t2⟩, ⟨t3, t4, t5⟩⟩ := hSw; go_simp)⟩) (by assumption) ?_
      simp only [Act.put, List.setIfInBounds_toArray, List.set_cons_zero, List.set_cons_succ]
      refine wpAnyH_ready (rs := [1]) (by kernel_rfl) (by simp) ?_
      refine AllReadyH.cons rfl (fun K hK => ?_) AllReadyH.nil
      go_simp
      refine (implRecOk_any s2 q2 d2 _ (by unfold maxLen; omega)).mono ?_
      rw [← HO.out]
      rintro e x6 ⟨rfl, hbx6⟩
      have HSx6 : Hid (Below X4.heap.size X4 x6) := after hdr hbx6
      clear hbx6
      refine hK.out _ _ (HC.out _ HSx6.out) (fun hHeld => ?_)
      clear hK K
      refine wpAnyH_ready (rs := [3]) (by kernel_rfl) (by simp) ?_
      refine AllReadyH.cons rfl (fun K hK => ?_) AllReadyH.nil
      go_simp
      refine (specRecOk_any s2 q2 d2 _ (by unfold maxLen; omega)).mono ?_
      rw [← HO.out]
      rintro e x7 ⟨rfl, hbx7⟩
      have HSx7 : Hid (Below X4.heap.size X4 x7) := after HSx6.out hbx7
      clear hbx7
      refine hK.out _ _ (HC.out _ HSx7.out) (fun hHeld => ?_)
      clear hK K
      refine take_rec (i := 4) (some 79) (v := .bool true) rfl rfl (by kernel_rfl) (by kernel_rfl) (by kernel_rfl) (fun _ _ _ h => h) (Or.inl ⟨by rfl, fun w hSw => by (obtain ⟨⟨t0, t1, t2⟩, ⟨t3, t4, t5⟩⟩ := hSw; go_simp)⟩) (by assumption) ?_
      simp only [Act.put, List.setIfInBounds_toArray, List.set_cons_zero, List.set_cons_succ]
      refine take_rec (i := 5) (some 80) (v := .bool true) rfl rfl (by kernel_rfl) (by kernel_rfl) (by kernel_rfl) (fun _ _ _ h => h) (Or.inl ⟨by rfl, fun w hSw => by (obtain ⟨⟨t0, t1, t2⟩, ⟨t3, t4, t5⟩⟩ := hSw; go_simp)⟩) (by assumption) ?_
      simp only [Act.put, List.setIfInBounds_toArray, List.set_cons_zero, List.set_cons_succ]
      refine take_rec (i := 6) (some 81) (v := .bool false) rfl rfl (by kernel_rfl) (by kernel_rfl) (by kernel_rfl) (fun _ _ _ h => h) (Or.inl ⟨by rfl, fun w hSw => by (obtain ⟨⟨t0, t1, t2⟩, ⟨t3, t4, t5⟩⟩ := hSw; go_simp)⟩) (by assumption) ?_
      simp only [Act.put, List.setIfInBounds_toArray, List.set_cons_zero, List.set_cons_succ]
      refine take_rec (i := 7) (some 82) (v := .bool false) rfl rfl (by kernel_rfl) (by kernel_rfl) (by kernel_rfl) (fun _ _ _ h => h) (Or.inl ⟨by rfl, fun w hSw => by (obtain ⟨⟨t0, t1, t2⟩, ⟨t3, t4, t5⟩⟩ := hSw; go_simp)⟩) (by assumption) ?_
      simp only [Act.put, List.setIfInBounds_toArray, List.set_cons_zero, List.set_cons_succ]
      refine take_rec (i := 8) (some 83) (v := .bool true) rfl rfl (by kernel_rfl) (by kernel_rfl) (by kernel_rfl) (fun _ _ _ h => h) (Or.inl ⟨by rfl, fun w hSw => by (obtain ⟨⟨t0, t1, t2⟩, ⟨t3, t4, t5⟩⟩ := hSw; go_simp)⟩) (by assumption) ?_
      simp only [Act.put, List.setIfInBounds_toArray, List.set_cons_zero, List.set_cons_succ]
      refine take_rec (i := 9) (some 84) (v := .bool true) rfl rfl (by kernel_rfl) (by kernel_rfl) (by kernel_rfl) (fun _ _ _ h => h) (Or.inl ⟨by rfl, fun w hSw => by (obtain ⟨⟨t0, t1, t2⟩, ⟨t3, t4, t5⟩⟩ := hSw; go_simp)⟩) (by assumption) ?_
      simp only [Act.put, List.setIfInBounds_toArray, List.set_cons_zero, List.set_cons_succ]
      refine take_rec (i := 10) (some 85) (v := .bool true) rfl rfl (by kernel_rfl) (by kernel_rfl) (by kernel_rfl) (fun _ _ _ h => h) (Or.inl ⟨by rfl, fun w hSw => by (obtain ⟨⟨t0, t1, t2⟩, ⟨t3, t4, t5⟩⟩ := hSw; go_simp)⟩) (by assumption) ?_
      simp only [Act.put, List.setIfInBounds_toArray, List.set_cons_zero, List.set_cons_succ]
      refine take_rec (i := 11) (some 86) (v := .bool false) rfl rfl (by kernel_rfl) (by kernel_rfl) (by kernel_rfl) (fun _ _ _ h => h) (Or.inl ⟨by rfl, fun w hSw => by (obtain ⟨⟨t0, t1, t2⟩, ⟨t3, t4, t5⟩⟩ := hSw; go_simp)⟩) (by assumption) ?_
      simp only [Act.put, List.setIfInBounds_toArray, List.set_cons_zero, List.set_cons_succ]
      refine take_rec (i := 12) (some 87) (v := .bool true) rfl rfl (by kernel_rfl) (by kernel_rfl) (by kernel_rfl) (fun _ _ _ h => h) (Or.inl ⟨by rfl, fun w hSw => by (obtain ⟨⟨t0, t1, t2⟩, ⟨t3, t4, t5⟩⟩ := hSw; go_simp)⟩) (by assumption) ?_
      simp only [Act.put, List.setIfInBounds_toArray, List.set_cons_zero, List.set_cons_succ]
      refine take_rec (i := 13) (some 88) (v := .bool true) rfl rfl (by kernel_rfl) (by kernel_rfl) (by kernel_rfl) (fun _ _ _ h => h) (Or.inl ⟨by rfl, fun w hSw => by (obtain ⟨⟨t0, t1, t2⟩, ⟨t3, t4, t5⟩⟩ := hSw; go_simp)⟩) (by assumption) ?_
      simp only [Act.put, List.setIfInBounds_toArray, List.set_cons_zero, List.set_cons_succ]
      refine take_rec (i := 14) (some 89) (v := (.agg #[.int .i64 0, .int .i64 0, .string ⟨#[]⟩])) rfl rfl (by kernel_rfl) (by kernel_rfl) (by kernel_rfl) (fun _ _ _ h => h) (Or.inl ⟨by rfl, fun w hSw => by (obtain ⟨⟨t0, t1, t2⟩, ⟨t3, t4, t5⟩⟩ := hSw; go_simp)⟩) (by assumption) ?_
      simp only [Act.put, List.setIfInBounds_toArray, List.set_cons_zero, List.set_cons_succ]
      refine take_rec (i := 15) (some 90) (v := (.agg #[.int .i64 0, .int .i64 0, .string ⟨#[]⟩])) rfl rfl (by kernel_rfl) (by kernel_rfl) (by kernel_rfl) (fun _ _ _ h => h) (Or.inl ⟨by rfl, fun w hSw => by (obtain ⟨⟨t0, t1, t2⟩, ⟨t3, t4, t5⟩⟩ := hSw; go_simp)⟩) (by assumption) ?_
      simp only [Act.put, List.setIfInBounds_toArray, List.set_cons_zero, List.set_cons_succ]
      refine take_rec (i := 16) (some 91) (v := .bool true) rfl rfl (by kernel_rfl) (by kernel_rfl) (by kernel_rfl) (fun _ _ _ h => h) (Or.inl ⟨by rfl, fun w hSw => by (obtain ⟨⟨t0, t1, t2⟩, ⟨t3, t4, t5⟩⟩ := hSw; go_simp)⟩) (by assumption) ?_
      simp only [Act.put, List.setIfInBounds_toArray, List.set_cons_zero, List.set_cons_succ]
      refine take_rec (i := 17) (some 92) (v := .bool true) rfl rfl (by kernel_rfl) (by kernel_rfl) (by kernel_rfl) (fun _ _ _ h => h) (Or.inl ⟨by rfl, fun w hSw => by (obtain ⟨⟨t0, t1, t2⟩, ⟨t3, t4, t5⟩⟩ := hSw; go_simp)⟩) (by assumption) ?_
      simp only [Act.put, List.setIfInBounds_toArray, List.set_cons_zero, List.set_cons_succ]
      refine take_rec (i := 18) (some 93) (v := .bool true) rfl rfl (by kernel_rfl) (by kernel_rfl) (by kernel_rfl) (fun _ _ _ h => h) (Or.inl ⟨by rfl, fun w hSw => by (obtain ⟨⟨t0, t1, t2⟩, ⟨t3, t4, t5⟩⟩ := hSw; go_simp)⟩) (by assumption) ?_
      simp only [Act.put, List.setIfInBounds_toArray, List.set_cons_zero, List.set_cons_succ]
      refine take_rec (i := 19) (some 94) (v := undef) rfl rfl (by kernel_rfl) (by kernel_rfl) (by kernel_rfl) (fun _ _ _ h => h) (Or.inr ⟨by first | rfl | simp [Region.wanted, yielded, undef], rfl⟩) (by assumption) ?_
      simp only [Act.put, List.setIfInBounds_toArray, List.set_cons_zero, List.set_cons_succ]
      refine take_rec (i := 20) (some 95) (v := undef) rfl rfl (by kernel_rfl) (by kernel_rfl) (by kernel_rfl) (fun _ _ _ h => h) (Or.inr ⟨by first | rfl | simp [Region.wanted, yielded, undef], rfl⟩) (by assumption) ?_
      simp only [Act.put, List.setIfInBounds_toArray, List.set_cons_zero, List.set_cons_succ]
      refine take_rec (i := 21) (some 96) (v := undef) rfl rfl (by kernel_rfl) (by kernel_rfl) (by kernel_rfl) (fun _ _ _ h => h) (Or.inr ⟨by first | rfl | simp [Region.wanted, yielded, undef], rfl⟩) (by assumption) ?_
      simp only [Act.put, List.setIfInBounds_toArray, List.set_cons_zero, List.set_cons_succ]
      refine take_rec (i := 22) (some 97) (v := undef) rfl rfl (by kernel_rfl) (by kernel_rfl) (by kernel_rfl) (fun _ _ _ h => h) (Or.inr ⟨by first | rfl | simp [Region.wanted, yielded, undef], rfl⟩) (by assumption) ?_
      simp only [Act.put, List.setIfInBounds_toArray, List.set_cons_zero, List.set_cons_succ]
      refine take_rec (i := 23) (some 98) (v := undef) rfl rfl (by kernel_rfl) (by kernel_rfl) (by kernel_rfl) (fun _ _ _ h => h) (Or.inr ⟨by first | rfl | simp [Region.wanted, yielded, undef], rfl⟩) (by assumption) ?_
      simp only [Act.put, List.setIfInBounds_toArray, List.set_cons_zero, List.set_cons_succ]
      refine take_rec (i := 24) (some 99) (v := undef) rfl rfl (by kernel_rfl) (by kernel_rfl) (by kernel_rfl) (fun _ _ _ h => h) (Or.inr ⟨by first | rfl | simp [Region.wanted, yielded, undef], rfl⟩) (by assumption) ?_
      simp only [Act.put, List.setIfInBounds_toArray, List.set_cons_zero, List.set_cons_succ]
      refine take_rec (i := 25) (some 100) (v := undef) rfl rfl (by kernel_rfl) (by kernel_rfl) (by kernel_rfl) (fun _ _ _ h => h) (Or.inr ⟨by first | rfl | simp [Region.wanted, yielded, undef], rfl⟩) (by assumption) ?_
      simp only [Act.put, List.setIfInBounds_toArray, List.set_cons_zero, List.set_cons_succ]
      refine take_rec (i := 26) (some 101) (v := .bool true) rfl rfl (by kernel_rfl) (by kernel_rfl) (by kernel_rfl) (fun _ _ _ h => h) (Or.inl ⟨by rfl, fun w hSw => by (obtain ⟨⟨t0, t1, t2⟩, ⟨t3, t4, t5⟩⟩ := hSw; go_simp)⟩) (by assumption) ?_
      simp only [Act.put, List.setIfInBounds_toArray, List.set_cons_zero, List.set_cons_succ]
      refine take_rec (i := 27) (some 102) (v := .bool true) rfl rfl (by kernel_rfl) (by kernel_rfl) (by kernel_rfl) (fun _ _ _ h => h) (Or.inl ⟨by rfl, fun w hSw => by (obtain ⟨⟨t0, t1, t2⟩, ⟨t3, t4, t5⟩⟩ := hSw; go_simp)⟩) (by assumption) ?_
      simp only [Act.put, List.setIfInBounds_toArray, List.set_cons_zero, List.set_cons_succ]
      refine take_rec (i := 28) (some 2) (v := .bool true) rfl rfl (by kernel_rfl) (by kernel_rfl) (by kernel_rfl) (fun _ _ _ h => h) (Or.inl ⟨by rfl, fun w hSw => by (obtain ⟨⟨t0, t1, t2⟩, ⟨t3, t4, t5⟩⟩ := hSw; go_simp)⟩) (by assumption) ?_
      simp only [Act.put, List.setIfInBounds_toArray, List.set_cons_zero, List.set_cons_succ]
      refine wpAnyH_done (by kernel_rfl) ?_ _
      clear hHeld
      go_wp2
      go_ret
      exact ⟨rfl, after HBX.out HSx7.out⟩
    | some r =>
      obtain ⟨s3, q3, d3⟩ := r
      obtain rfl : S = s3 := by rw [HS.out, hrt]; rfl
      obtain rfl : Q = q3 := by rw [HQ.out, hrt]; rfl
      obtain rfl : D = d3 := by rw [HD.out, hrt]; rfl
      obtain rfl : B = true := by rw [HB.out, hrt]; rfl
      have HT3 := hide (recR_iff.1 hrt).2
      obtain ⟨⟨g0, g1⟩, ⟨g2, g3⟩, g4⟩ := recOkB_iff.1 (recR_iff.1 hrt).1
      have htt : (t.toList == t.toList) = true := by simp
      clear HS HQ HD HB hrt
      go_wp2_with fail
      refine wp_region_held_drew (S := fun u => (u.cell? ⟨x1.heap.size, 0, none⟩ = some (.int .i64 s2) ∧ u.cell? ⟨x1.heap.size, 1, none⟩ = some (.int .i64 q2) ∧ u.cell? ⟨x1.heap.size, 2, none⟩ = some (.string d2)) ∧ (u.cell? ⟨x3.heap.size, 0, none⟩ = some (.int .i64 S) ∧ u.cell? ⟨x3.heap.size, 1, none⟩ = some (.int .i64 Q) ∧ u.cell? ⟨x3.heap.size, 2, none⟩ = some (.string D))) (by kernel_rfl) (HC.out _ hdr) (fun hHeld => ?_)
      refine take_rec (i := 0) (some 75) (v := (.agg #[.int .i64 s2, .int .i64 q2, .string d2])) rfl rfl (by kernel_rfl) (by kernel_rfl) (by kernel_rfl) (fun _ _ _ h => h) (Or.inl ⟨by rfl, fun w hSw => by (obtain ⟨⟨t0, t1, t2⟩, ⟨t3, t4, t5⟩⟩ := hSw; go_simp)⟩) (by assumption) ?_
      simp only [Act.put, List.setIfInBounds_toArray, List.set_cons_zero, List.set_cons_succ]
      refine take_rec (i := 2) (some 77) (v := (.agg #[.int .i64 s2, .int .i64 q2, .string d2])) rfl rfl (by kernel_rfl) (by kernel_rfl) (by kernel_rfl) (fun _ _ _ h => h) (Or.inl ⟨by rfl, fun w hSw => by (obtain ⟨⟨t0, t1, t2⟩, ⟨t3, t4, t5⟩⟩ := hSw; go_simp)⟩) (by assumption) ?_
      simp only [Act.put, List.setIfInBounds_toArray, List.set_cons_zero, List.set_cons_succ]
      refine wpAnyH_ready (rs := [1]) (by kernel_rfl) (by simp) ?_
      refine AllReadyH.cons rfl (fun K hK => ?_) AllReadyH.nil
      go_simp
      refine (implRecOk_any s2 q2 d2 _ (by unfold maxLen; omega)).mono ?_
      rw [← HO.out]
      rintro e x6 ⟨rfl, hbx6⟩
      have HSx6 : Hid (Below X4.heap.size X4 x6) := after hdr hbx6
      clear hbx6
      refine hK.out _ _ (HC.out _ HSx6.out) (fun hHeld => ?_)
      clear hK K
      refine wpAnyH_ready (rs := [3]) (by kernel_rfl) (by simp) ?_
      refine AllReadyH.cons rfl (fun K hK => ?_) AllReadyH.nil
      go_simp
      refine (specRecOk_any s2 q2 d2 _ (by unfold maxLen; omega)).mono ?_
      rw [← HO.out]
      rintro e x7 ⟨rfl, hbx7⟩
      have HSx7 : Hid (Below X4.heap.size X4 x7) := after HSx6.out hbx7
      clear hbx7
      refine hK.out _ _ (HC.out _ HSx7.out) (fun hHeld => ?_)
      clear hK K
      refine take_rec (i := 4) (some 79) (v := .bool true) rfl rfl (by kernel_rfl) (by kernel_rfl) (by kernel_rfl) (fun _ _ _ h => h) (Or.inl ⟨by rfl, fun w hSw => by (obtain ⟨⟨t0, t1, t2⟩, ⟨t3, t4, t5⟩⟩ := hSw; go_simp)⟩) (by assumption) ?_
      simp only [Act.put, List.setIfInBounds_toArray, List.set_cons_zero, List.set_cons_succ]
      refine take_rec (i := 5) (some 80) (v := .bool true) rfl rfl (by kernel_rfl) (by kernel_rfl) (by kernel_rfl) (fun _ _ _ h => h) (Or.inl ⟨by rfl, fun w hSw => by (obtain ⟨⟨t0, t1, t2⟩, ⟨t3, t4, t5⟩⟩ := hSw; go_simp)⟩) (by assumption) ?_
      simp only [Act.put, List.setIfInBounds_toArray, List.set_cons_zero, List.set_cons_succ]
      refine take_rec (i := 6) (some 81) (v := .bool true) rfl rfl (by kernel_rfl) (by kernel_rfl) (by kernel_rfl) (fun _ _ _ h => h) (Or.inl ⟨by rfl, fun w hSw => by (obtain ⟨⟨t0, t1, t2⟩, ⟨t3, t4, t5⟩⟩ := hSw; go_simp)⟩) (by assumption) ?_
      simp only [Act.put, List.setIfInBounds_toArray, List.set_cons_zero, List.set_cons_succ]
      refine take_rec (i := 7) (some 82) (v := .bool true) rfl rfl (by kernel_rfl) (by kernel_rfl) (by kernel_rfl) (fun _ _ _ h => h) (Or.inl ⟨by rfl, fun w hSw => by (obtain ⟨⟨t0, t1, t2⟩, ⟨t3, t4, t5⟩⟩ := hSw; go_simp)⟩) (by assumption) ?_
      simp only [Act.put, List.setIfInBounds_toArray, List.set_cons_zero, List.set_cons_succ]
      refine take_rec (i := 8) (some 83) (v := .bool true) rfl rfl (by kernel_rfl) (by kernel_rfl) (by kernel_rfl) (fun _ _ _ h => h) (Or.inl ⟨by rfl, fun w hSw => by (obtain ⟨⟨t0, t1, t2⟩, ⟨t3, t4, t5⟩⟩ := hSw; go_simp)⟩) (by assumption) ?_
      simp only [Act.put, List.setIfInBounds_toArray, List.set_cons_zero, List.set_cons_succ]
      refine take_rec (i := 9) (some 84) (v := .bool true) rfl rfl (by kernel_rfl) (by kernel_rfl) (by kernel_rfl) (fun _ _ _ h => h) (Or.inl ⟨by rfl, fun w hSw => by (obtain ⟨⟨t0, t1, t2⟩, ⟨t3, t4, t5⟩⟩ := hSw; go_simp)⟩) (by assumption) ?_
      simp only [Act.put, List.setIfInBounds_toArray, List.set_cons_zero, List.set_cons_succ]
      refine take_rec (i := 10) (some 85) (v := .bool true) rfl rfl (by kernel_rfl) (by kernel_rfl) (by kernel_rfl) (fun _ _ _ h => h) (Or.inl ⟨by rfl, fun w hSw => by (obtain ⟨⟨t0, t1, t2⟩, ⟨t3, t4, t5⟩⟩ := hSw; go_simp)⟩) (by assumption) ?_
      simp only [Act.put, List.setIfInBounds_toArray, List.set_cons_zero, List.set_cons_succ]
      refine take_rec (i := 11) (some 86) (v := .bool true) rfl rfl (by kernel_rfl) (by kernel_rfl) (by kernel_rfl) (fun _ _ _ h => h) (Or.inl ⟨by rfl, fun w hSw => by (obtain ⟨⟨t0, t1, t2⟩, ⟨t3, t4, t5⟩⟩ := hSw; go_simp)⟩) (by assumption) ?_
      simp only [Act.put, List.setIfInBounds_toArray, List.set_cons_zero, List.set_cons_succ]
      refine take_rec (i := 12) (some 87) (v := .bool false) rfl rfl (by kernel_rfl) (by kernel_rfl) (by kernel_rfl) (fun _ _ _ h => h) (Or.inl ⟨by rfl, fun w hSw => by (obtain ⟨⟨t0, t1, t2⟩, ⟨t3, t4, t5⟩⟩ := hSw; go_simp)⟩) (by assumption) ?_
      simp only [Act.put, List.setIfInBounds_toArray, List.set_cons_zero, List.set_cons_succ]
      refine take_rec (i := 13) (some 88) (v := .bool false) rfl rfl (by kernel_rfl) (by kernel_rfl) (by kernel_rfl) (fun _ _ _ h => h) (Or.inl ⟨by rfl, fun w hSw => by (obtain ⟨⟨t0, t1, t2⟩, ⟨t3, t4, t5⟩⟩ := hSw; go_simp)⟩) (by assumption) ?_
      simp only [Act.put, List.setIfInBounds_toArray, List.set_cons_zero, List.set_cons_succ]
      refine take_rec (i := 14) (some 89) (v := undef) rfl rfl (by kernel_rfl) (by kernel_rfl) (by kernel_rfl) (fun _ _ _ h => h) (Or.inr ⟨by first | rfl | simp [Region.wanted, yielded, undef], rfl⟩) (by assumption) ?_
      simp only [Act.put, List.setIfInBounds_toArray, List.set_cons_zero, List.set_cons_succ]
      refine take_rec (i := 15) (some 90) (v := undef) rfl rfl (by kernel_rfl) (by kernel_rfl) (by kernel_rfl) (fun _ _ _ h => h) (Or.inr ⟨by first | rfl | simp [Region.wanted, yielded, undef], rfl⟩) (by assumption) ?_
      simp only [Act.put, List.setIfInBounds_toArray, List.set_cons_zero, List.set_cons_succ]
      refine take_rec (i := 16) (some 91) (v := undef) rfl rfl (by kernel_rfl) (by kernel_rfl) (by kernel_rfl) (fun _ _ _ h => h) (Or.inr ⟨by first | rfl | simp [Region.wanted, yielded, undef], rfl⟩) (by assumption) ?_
      simp only [Act.put, List.setIfInBounds_toArray, List.set_cons_zero, List.set_cons_succ]
      refine take_rec (i := 17) (some 92) (v := .bool false) rfl rfl (by kernel_rfl) (by kernel_rfl) (by kernel_rfl) (fun _ _ _ h => h) (Or.inl ⟨by rfl, fun w hSw => by (obtain ⟨⟨t0, t1, t2⟩, ⟨t3, t4, t5⟩⟩ := hSw; go_simp)⟩) (by assumption) ?_
      simp only [Act.put, List.setIfInBounds_toArray, List.set_cons_zero, List.set_cons_succ]
      refine take_rec (i := 18) (some 93) (v := .bool false) rfl rfl (by kernel_rfl) (by kernel_rfl) (by kernel_rfl) (fun _ _ _ h => h) (Or.inl ⟨by rfl, fun w hSw => by (obtain ⟨⟨t0, t1, t2⟩, ⟨t3, t4, t5⟩⟩ := hSw; go_simp)⟩) (by assumption) ?_
      simp only [Act.put, List.setIfInBounds_toArray, List.set_cons_zero, List.set_cons_succ]
      refine take_rec (i := 19) (some 94) (v := .bool true) rfl rfl (by kernel_rfl) (by kernel_rfl) (by kernel_rfl) (fun _ _ _ h => h) (Or.inl ⟨by rfl, fun w hSw => by (obtain ⟨⟨t0, t1, t2⟩, ⟨t3, t4, t5⟩⟩ := hSw; go_simp)⟩) (by assumption) ?_
      simp only [Act.put, List.setIfInBounds_toArray, List.set_cons_zero, List.set_cons_succ]
      refine take_rec (i := 20) (some 95) (v := .bool true) rfl rfl (by kernel_rfl) (by kernel_rfl) (by kernel_rfl) (fun _ _ _ h => h) (Or.inl ⟨by rfl, fun w hSw => by (obtain ⟨⟨t0, t1, t2⟩, ⟨t3, t4, t5⟩⟩ := hSw; go_simp)⟩) (by assumption) ?_
      simp only [Act.put, List.setIfInBounds_toArray, List.set_cons_zero, List.set_cons_succ]
      refine take_rec (i := 21) (some 96) (v := (.agg #[.int .i64 S, .int .i64 Q, .string D])) rfl rfl (by kernel_rfl) (by kernel_rfl) (by kernel_rfl) (fun _ _ _ h => h) (Or.inl ⟨by rfl, fun w hSw => by (obtain ⟨⟨t0, t1, t2⟩, ⟨t3, t4, t5⟩⟩ := hSw; go_simp)⟩) (by assumption) ?_
      simp only [Act.put, List.setIfInBounds_toArray, List.set_cons_zero, List.set_cons_succ]
      refine take_rec (i := 23) (some 98) (v := .string t) rfl rfl (by kernel_rfl) (by kernel_rfl) (by kernel_rfl) (fun _ _ _ h => h) (Or.inl ⟨by rfl, fun w hSw => by (obtain ⟨⟨t0, t1, t2⟩, ⟨t3, t4, t5⟩⟩ := hSw; go_simp)⟩) (by assumption) ?_
      simp only [Act.put, List.setIfInBounds_toArray, List.set_cons_zero, List.set_cons_succ]
      refine wpAnyH_ready (rs := [22]) (by kernel_rfl) (by simp) ?_
      refine AllReadyH.cons rfl (fun K hK => ?_) AllReadyH.nil
      go_simp
      refine (implRecText_any S Q D _ (by unfold maxLen; omega) (by omega) (by omega) (by omega) (by omega)).mono ?_
      rw [HT3.out]
      rintro e x8 ⟨rfl, hbx8⟩
      have HSx8 : Hid (Below X4.heap.size X4 x8) := after HSx7.out hbx8
      clear hbx8
      refine hK.out _ _ (HC.out _ HSx8.out) (fun hHeld => ?_)
      clear hK K
      refine take_rec (i := 24) (some 99) (v := .bool true) rfl rfl (by kernel_rfl) (by kernel_rfl) (by kernel_rfl) (fun _ _ _ h => h) (Or.inl ⟨by rfl, fun w hSw => by (obtain ⟨⟨t0, t1, t2⟩, ⟨t3, t4, t5⟩⟩ := hSw; go_simp)⟩) (by assumption) ?_
      simp only [Act.put, List.setIfInBounds_toArray, List.set_cons_zero, List.set_cons_succ]
      refine take_rec (i := 25) (some 100) (v := .bool true) rfl rfl (by kernel_rfl) (by kernel_rfl) (by kernel_rfl) (fun _ _ _ h => h) (Or.inl ⟨by rfl, fun w hSw => by (obtain ⟨⟨t0, t1, t2⟩, ⟨t3, t4, t5⟩⟩ := hSw; go_simp)⟩) (by assumption) ?_
      simp only [Act.put, List.setIfInBounds_toArray, List.set_cons_zero, List.set_cons_succ]
      refine take_rec (i := 26) (some 101) (v := .bool true) rfl rfl (by kernel_rfl) (by kernel_rfl) (by kernel_rfl) (fun _ _ _ h => h) (Or.inl ⟨by rfl, fun w hSw => by (obtain ⟨⟨t0, t1, t2⟩, ⟨t3, t4, t5⟩⟩ := hSw; go_simp)⟩) (by assumption) ?_
      simp only [Act.put, List.setIfInBounds_toArray, List.set_cons_zero, List.set_cons_succ]
      refine take_rec (i := 27) (some 102) (v := .bool true) rfl rfl (by kernel_rfl) (by kernel_rfl) (by kernel_rfl) (fun _ _ _ h => h) (Or.inl ⟨by rfl, fun w hSw => by (obtain ⟨⟨t0, t1, t2⟩, ⟨t3, t4, t5⟩⟩ := hSw; go_simp)⟩) (by assumption) ?_
      simp only [Act.put, List.setIfInBounds_toArray, List.set_cons_zero, List.set_cons_succ]
      refine take_rec (i := 28) (some 2) (v := .bool true) rfl rfl (by kernel_rfl) (by kernel_rfl) (by kernel_rfl) (fun _ _ _ h => h) (Or.inl ⟨by rfl, fun w hSw => by (obtain ⟨⟨t0, t1, t2⟩, ⟨t3, t4, t5⟩⟩ := hSw; go_simp)⟩) (by assumption) ?_
      simp only [Act.put, List.setIfInBounds_toArray, List.set_cons_zero, List.set_cons_succ]
      refine wpAnyH_done (by kernel_rfl) ?_ _
      clear hHeld
      go_wp2
      go_ret
      exact ⟨rfl, after HBX.out HSx8.out⟩

end Go.Proofs.Ytdeipchflgpffaa
