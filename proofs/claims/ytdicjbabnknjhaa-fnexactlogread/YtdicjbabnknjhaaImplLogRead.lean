/-
  Contracts of the program's takePut, putsOf and LogRead.
-/
import Derived.Test.YtdicjbabnknjhaaSpecLogRead
import Derived.Test.YtdicjbabnknjhaaImplRead
import Derived.Test.YtdicjbabnknjhaaMinMax
namespace Go.Proofs.Ytdicjbabnknjhaa
open Go.RowKit

/-- How taking a put ends. -/
def TookP (pb : Nat) (r : Option (Int × List Int × Nat)) (e : Ending) (w' : World) : Prop :=
  match r with
  | none => ∃ s, e = .panicked [{ v := .iface 9 (.string s), recovered := false }]
  | some (s, ys, l) => e = .returned (.agg #[.int .i64 s, .string (strOf ys)]) ∧ w'.cell? ⟨pb, 0, none⟩ = some (.int .i64 l) ∧ w'.frozen? ⟨pb, 0, none⟩ = false
theorem tookP_no {pb : Nat} {r : Option (Int × List Int × Nat)} {e : Ending} {w' : World} {s : ByteArray} (h : r = none) (he : e = .panicked [{ v := .iface 9 (.string s), recovered := false }]) : TookP pb r e w' := by subst h; exact ⟨s, he⟩
theorem tookP_yes {pb : Nat} {r : Option (Int × List Int × Nat)} {e : Ending} {w' : World} {s : Int} {ys : List Int} {l : Nat} (h : r = some (s, ys, l)) (he : e = .returned (.agg #[.int .i64 s, .string (strOf ys)])) (hc : w'.cell? ⟨pb, 0, none⟩ = some (.int .i64 l)) (hf : w'.frozen? ⟨pb, 0, none⟩ = false) : TookP pb r e w' := by subst h; exact ⟨he, hc, hf⟩
theorem frozen_grown {w w' : World} {row : Option Nat} (hg : w.grownBy w' row) {p o : Nat} {v : Bool} (hlt : p < w.heap.size) (hc : w.frozen? ⟨p, o, none⟩ = v) (hne : row ≠ some p) : w'.frozen? ⟨p, o, none⟩ = v := (World.frozen?_of_block (hg.block p hlt (fun e => hne e.symm))).trans hc
theorem CV.grown {u u' : World} {p : Nat} {xs : List Value} {row : Option Nat} (h : CV u p xs) (hg : u.grownBy u' row) (hne : row ≠ some p) : CV u' p xs :=
  ⟨Nat.lt_of_lt_of_le h.1 hg.size, fun i v hv => grown_cell hg (h.2.1 i v hv) hne, fun j => frozen_grown hg h.1 (h.2.2 j) hne⟩

set_option maxRecDepth 100000 in
set_option maxHeartbeats 1600000 in
theorem takePut_any (a : Option Addr) (zs : List Int) (cap pb i0 : Nat) (w : World) (hr : ∀ w', Below pb w w' → Rd w' a (u8s zs)) (hb : IsBytes zs) (hm : zs.length ≤ 1048576) (hcap : zs.length ≤ cap) (hp : w.cell? ⟨pb, 0, none⟩ = some (.int .i64 i0)) (hf : w.frozen? ⟨pb, 0, none⟩ = false) :
    Calls Try.prog 54 #[.slice a zs.length cap, .pointer (some ⟨pb, 0, none⟩)] w fun e w' => w.grownBy w' (some pb) ∧ TookP pb (getP zs i0) e w' := by
  have hpb : pb < w.heap.size := lt_of_cell hp
  obtain ⟨W, hW⟩ : ∃ W, W = w.alloc (Obj.cells #[.int .i64 0, .string ⟨#[]⟩] 56) := ⟨_, rfl⟩
  have hbW : Below w.heap.size w W := by rw [hW]; exact (Below.refl _ _).alloc (Nat.le_refl _) _
  have hgW : w.grownBy W (some pb) := grown_of_below hbW
  have hbp : Below pb w W := hbW.mono (by omega)
  have k0 : CV W w.heap.size [.int .i64 0, .string ⟨#[]⟩] := by rw [hW]; exact cv_new _ _ _
  have p0 : W.cell? ⟨pb, 0, none⟩ = some (.int .i64 i0) := (hbW.cell (p := ⟨pb, 0, none⟩) hpb).trans hp
  have f0 : W.frozen? ⟨pb, 0, none⟩ = false := (hbW.frozen (p := ⟨pb, 0, none⟩) hpb).trans hf
  have hne : (some pb : Option Nat) ≠ some w.heap.size := by simp; omega
  have hsW := k0.1
  clear hp hf hbW
  go_enter Try.func54, Try.ntmps54
  go_wp2_with fail
  rw [← hW]
  clear hW
  refine (takeNum_grown a zs cap pb i0 W (fun u hu => hr u (hbp.trans hu)) hb hm p0 f0).mono ?_
  rintro e w1 ⟨hg1, ht⟩
  have hb1 := hbp.trans (belowGrown hg1 (by omega))
  have hG1 := grown_trans hgW hg1
  have k1 := k0.grown hg1 hne
  cases hg : getN zs (i0 : Int) with
  | none =>
    rw [hg] at ht
    obtain ⟨s, rfl⟩ := ht
    have hT := hide (getP_no1 hg)
    clear hg hr p0 f0 k0 k1
    go_wp2
    exact ⟨rfl, hG1, tookP_no hT.out rfl⟩
  | some r =>
    obtain ⟨n, j⟩ := r
    rw [hg] at ht
    obtain ⟨rfl, p1, f1⟩ := ht
    have H1 := hide hg
    clear hg p0 f0 k0 hg1
    go_wp2_with fail
    refine (takeText_grown a zs cap pb j w1 (fun u hu => hr u (hb1.trans hu)) hb hm hcap p1 f1).mono ?_
    rintro e w3 ⟨hg3, ht⟩
    have hG3 := grown_trans hG1 hg3
    have k3 := k1.grown hg3 hne
    cases hg : getT zs (j : Int) with
    | none =>
      rw [hg] at ht
      obtain ⟨s, rfl⟩ := ht
      have hT := hide (getP_no2 H1.out hg)
      clear hg hr p1 f1 k1 k3
      go_wp2
      exact ⟨rfl, hG3, tookP_no hT.out rfl⟩
    | some r =>
      obtain ⟨ys, l⟩ := r
      rw [hg] at ht
      obtain ⟨rfl, p3, f3⟩ := ht
      have hT := hide (getP_yes H1.out hg)
      have c0 := k3.2.1 0 _ rfl
      have c1 := k3.2.1 1 _ rfl
      have g0 := k3.2.2 0
      have g1 := k3.2.2 1
      have hne' : pb ≠ w.heap.size := by omega
      have HG3 := hide hG3
      clear hg hr p1 f1 k1 hg3 k3 hG3 hG1
      go_wp2
      refine bodyPost_ret (v := .agg #[.int .i64 n, .string (strOf ys)]) (by simp [results, Try.results54, go_sem, c0, c1]) rfl ⟨?_, tookP_yes hT.out rfl (cell_aside (cell_aside p3 (by omega)) (by omega)) (by simpa using f3)⟩
      refine ⟨HG3.out.os, HG3.out.tape, HG3.out.output, by simpa [World.setCell] using HG3.out.size, fun i hi hn => ?_⟩
      rw [Below.heap_setCell _ _ _ _ (by show i ≠ w.heap.size; omega), Below.heap_setCell _ _ _ _ (by show i ≠ w.heap.size; omega)]
      exact HG3.out.block i hi hn

set_option maxRecDepth 100000 in
set_option maxHeartbeats 800000 in
theorem putsOf1_panicking (B : Nat) (x0 : Value) (u : TypeId) (pv : Value) (older : List PanicEntry) (w : World) (h1 : w.cell? ⟨B, 0, none⟩ = some x0) (f1 : w.frozen? ⟨B, 0, none⟩ = false) :
    CallsD Try.prog 52 #[.pointer (some ⟨B, 0, none⟩)] (.panicking ({ v := .iface u pv, recovered := false } :: older)) w fun e u' w' =>
      e = .returned (.tuple #[]) ∧ u' = .panicking ({ v := .iface u pv, recovered := true } :: older) ∧ w' = w.setCell ⟨B, 0, none⟩ (.slice none 0 0) := by
  refine callsD_of_wpS Try.func52 rfl fun c₀ cs hu => ?_
  apply wpS_seq
  apply wpS_region
  simp [wpOpsS, go_sem, recoverD, hu, Try.ntmps52, Exit.thenS]
  refine wpS_cond (t := true) (by simp [Act.eval, Array.replicate]) ?_
  simp only [if_true]
  apply wpS_region
  simp [wpOpsS, go_sem, h1, f1, bodyPostS, results, Try.results52]

theorem putsOf1_idle (B : Nat) (w : World) :
    CallsD Try.prog 52 #[.pointer (some ⟨B, 0, none⟩)] .returning w fun e u' w' => e = .returned (.tuple #[]) ∧ u' = .returning ∧ w' = w := by
  refine callsD_of_wpS Try.func52 rfl fun c₀ cs hu => ?_
  apply wpS_seq
  apply wpS_region
  simp [wpOpsS, go_sem, recoverD, hu, Try.ntmps52, Exit.thenS]
  refine wpS_cond (t := false) (by simp [Act.eval, Array.replicate]) ?_
  simp only [Bool.false_eq_true, if_false]
  refine wpS_of_wp (wp_skip ?_)
  cases c₀
  simp_all [bodyPostS, results, Try.results52]
end Go.Proofs.Ytdicjbabnknjhaa
