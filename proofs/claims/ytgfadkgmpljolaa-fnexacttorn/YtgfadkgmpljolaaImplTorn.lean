/-
  Torn of the program: an act of the first bytes.
-/
import Derived.Test.YtgfadkgmpljolaaSpecTorn
import Derived.Deep.DeepCutAuto
namespace Go.Proofs.Ytgfadkgmpljolaa
open Go.RowKit

set_option maxHeartbeats 3200000 in
theorem implTorn_fn (a b : Option Addr) (ps : List ByteArray) (ws : List Int) (c d : Nat) (page : Int) (text : ByteArray) (n : Int) (w : World) (hp : Rd w a (vsString ps)) (hw : Rd w b (vsInt ws)) (hl : ps.length ≤ 1048576) (hm : ws.length ≤ 1048576) (hs : ∀ s ∈ ps, s.size ≤ 1048576) (ht : text.size ≤ 1048576) (hn : (Lit.int .i64 n).wf = true) :
    Calls Try.prog 23 #[.agg #[.slice a ps.length c, .slice b ws.length d], .int .i64 page, .string text, .int .i64 n] w fun e w' => ∃ v, e = .returned v ∧ ChipOwn w' w.heap.size v (tornP ps ws page text n) (burnW ps ws) ∧ Below w.heap.size w w' := by
  have hbd := bounds_i64 hn
  have hmf : ∀ (fn : Fn) (first cap : Array Value) (w : World), (Instr.makeFunc fn first cap).run Try.prog w = .ok (.func fn first cap) w := fun _ _ _ _ => rfl
  obtain ⟨W, hW⟩ : ∃ W, W = (w.alloc (Obj.cells #[.slice a ps.length c, .slice b ws.length d] 28)).alloc (Obj.cells #[.slice none 0 0, .slice none 0 0] 28) := ⟨_, rfl⟩
  have hbW : Below w.heap.size w W := by subst hW; exact ((Below.refl _ _).alloc (Nat.le_refl _) _).alloc (by simp) _
  have cW : W.cell? ⟨w.heap.size, 0, none⟩ = some (.slice a ps.length c) ∧ W.cell? ⟨w.heap.size, 1, none⟩ = some (.slice b ws.length d) ∧ W.cell? ⟨w.heap.size + 1, 0, none⟩ = some (.slice none 0 0) ∧ W.cell? ⟨w.heap.size + 1, 1, none⟩ = some (.slice none 0 0) ∧ W.frozen? ⟨w.heap.size + 1, 0, none⟩ = false ∧ W.frozen? ⟨w.heap.size + 1, 1, none⟩ = false ∧ w.heap.size + 1 < W.heap.size := by
    subst hW; refine ⟨?_, ?_, ?_, ?_, ?_, ?_, ?_⟩ <;> simp [go_sem]
  obtain ⟨M, hM⟩ : ∃ M, M = min n (text.size : Int) := ⟨_, rfl⟩
  obtain ⟨K, hK⟩ : ∃ K : Nat, (K : Int) = max M 0 := ⟨(max M 0).toNat, by omega⟩
  have hKl : (K : Int) ≤ (text.size : Int) := by omega
  have hK0 : (0 : Int) ≤ (K : Int) := by omega
  have HKM : Hid ((K : Int) = max (min n (text.size : Int)) 0) := by show _ = _; omega
  have hKT : text.extract 0 K = headT text n := by unfold headT; congr 1; omega
  obtain ⟨F, hF⟩ : ∃ F, F = burnF ps ws page (headT text n) := ⟨_, rfl⟩
  have hdr : Below W.heap.size W W.drew := after_drew (Below.refl _ _) 1
  have HP : Hid (∀ u, Below W.heap.size W u → Rd u a (vsString ps) ∧ Rd u b (vsInt ws) ∧ u.cell? ⟨w.heap.size, 0, none⟩ = some (.slice a ps.length c) ∧ u.cell? ⟨w.heap.size, 1, none⟩ = some (.slice b ws.length d)) := fun u hu =>
    ⟨(hp.below hbW).below hu, (hw.below hbW).below hu, (hu.cell (p := ⟨w.heap.size, 0, none⟩) (by show _ < _; have := cW.2.2.2.2.2.2; simp; omega)).trans cW.1, (hu.cell (p := ⟨w.heap.size, 1, none⟩) (by show _ < _; have := cW.2.2.2.2.2.2; simp; omega)).trans cW.2.1⟩
  have HBU : Hid (∀ u, Below W.heap.size W u → Calls Try.prog 39 #[.agg #[.slice a ps.length c, .slice b ws.length d], .func (.func 40) #[.agg #[.int .i64 page, .string (text.extract 0 K)]] #[]] u fun e w' => ∃ v, e = .returned (.tuple #[v, .bool F]) ∧ ChipOwn w' u.heap.size v (tornP ps ws page text n) (burnW ps ws) ∧ Below u.heap.size u w' ∧ Below W.heap.size W w') := fun u hu => by
    refine (actBurn_fn a b ps ws c d page (text.extract 0 K) u ((hp.below hbW).below hu) ((hw.below hbW).below hu) hl hm hs (by simp; omega)).mono ?_
    rintro e w' ⟨v, rfl, ho, hb⟩
    rw [hKT] at ho ⊢
    exact ⟨v, by rw [hF], ho, hb, after hu hb⟩
  have HAL : Hid (Below W.heap.size W (W.alloc (Obj.cells #[.slice none 0 0, .slice none 0 0] 28)).drew) := after_drew ((Below.refl _ _).alloc (Nat.le_refl _) _) 1
  have HY : Hid (∀ u, Below (W.alloc (Obj.cells #[.slice none 0 0, .slice none 0 0] 28)).drew.heap.size (W.alloc (Obj.cells #[.slice none 0 0, .slice none 0 0] 28)).drew u → u.cell? ⟨W.heap.size, 0, none⟩ = some (.slice none 0 0) ∧ u.cell? ⟨W.heap.size, 1, none⟩ = some (.slice none 0 0) ∧ u.frozen? ⟨W.heap.size, 0, none⟩ = false ∧ u.frozen? ⟨W.heap.size, 1, none⟩ = false) := by
    intro u hu
    have hlt : W.heap.size < (W.alloc (Obj.cells #[.slice none 0 0, .slice none 0 0] 28)).drew.heap.size := by show _ < (W.alloc _).heap.size; simp
    refine ⟨(hu.cell (p := ⟨W.heap.size, 0, none⟩) hlt).trans ?_, (hu.cell (p := ⟨W.heap.size, 1, none⟩) hlt).trans ?_, (hu.frozen (p := ⟨W.heap.size, 0, none⟩) hlt).trans ?_, (hu.frozen (p := ⟨W.heap.size, 1, none⟩) hlt).trans ?_⟩ <;> simp
  obtain ⟨z0, z1, -, -, -, -, hsz⟩ := id cW
  have hne1 : ¬ w.heap.size = W.heap.size := by omega
  have hne2 : ¬ W.heap.size = w.heap.size := by omega
  have HS := hide hs
  have HCW := hide cW
  have HBW := hide hbW
  clear hp hw hM hK cW hs hbW hF hKT
  go_enter Try.func23, Try.ntmps23
  go_upto_region 1 with fail
  rw [← hW]
  clear hW
  go_cut [9] (fun s9 wx => s9 = .int .i64 (K : Int) ∧ wx = W)
  case first =>
    all_goals (go_wp2_with fail)
    all_goals (go_meet; exact ⟨by have := HKM.out; congr 1; omega, rfl⟩)
  case rest =>
  obtain ⟨hc9, hwc⟩ := hcut
  subst hc9
  rw [hwc]
  clear hwc
  go_wp2_with fail
  go_region_held (fun w' => w'.cell? ⟨w.heap.size, 0, none⟩ = some (.slice a ps.length c) ∧ w'.cell? ⟨w.heap.size, 1, none⟩ = some (.slice b ws.length d)) (first | assumption | go_keep)
    ((first
      | (go_at_call 39; refine (HBU.out W.drew hdr).mono ?_; rintro e w1 ⟨v, rfl, hown, hb1, hb1'⟩; obtain ⟨a1, k1, b1, l1, hv1, -⟩ := own_open hown; subst hv1; have hS := HP.out w1 hb1'; have HOWN := hide hown; have HB1 := hide hb1; have HB1' := hide hb1'; clear hown hb1 hb1')
      | (go_at_call 39; refine (HBU.out (W.alloc (Obj.cells #[.slice none 0 0, .slice none 0 0] 28)).drew HAL.out).mono ?_; rintro e w1 ⟨v, rfl, hown, hb1, hb1'⟩; obtain ⟨a1, k1, b1, l1, hv1, -⟩ := own_open hown; subst hv1; have hS := HP.out w1 hb1'; have HOWN := hide hown; have HB1 := hide hb1; have HB1' := hide hb1'; obtain ⟨y0, y1, y2, y3⟩ := HY.out w1 hb1; clear hown hb1 hb1')))
  · have e0 := (HB1'.out.cell (p := ⟨w.heap.size + 1, 0, none⟩) (by show _ < _; exact hsz)).trans HCW.out.2.2.1
    have e1 := (HB1'.out.cell (p := ⟨w.heap.size + 1, 1, none⟩) (by show _ < _; exact hsz)).trans HCW.out.2.2.2.1
    have g0 := (HB1'.out.frozen (p := ⟨w.heap.size + 1, 0, none⟩) (by show _ < _; exact hsz)).trans HCW.out.2.2.2.2.1
    have g1 := (HB1'.out.frozen (p := ⟨w.heap.size + 1, 1, none⟩) (by show _ < _; exact hsz)).trans HCW.out.2.2.2.2.2.1
    have hlt : w.heap.size + 1 < w1.heap.size := Nat.lt_of_lt_of_le hsz HB1'.out.size
    have hne3 : ¬ w.heap.size + 1 = W.heap.size := by omega
    have hne4 : ¬ W.heap.size = w.heap.size + 1 := by omega
    go_wp2
    refine bodyPost_ret (v := .agg #[.slice a1 (tornP ps ws page text n).length k1, .slice b1 (burnW ps ws).length l1]) (by simp [results, Try.results23, go_sem, e0, e1, hlt]) rfl ⟨_, rfl, ?_, ?_⟩
    · exact own_mono (own_below (own_set (own_set HOWN.out (show w.heap.size + 1 < W.heap.size by omega) _) (show w.heap.size + 1 < W.heap.size by omega) _) ((Below.refl _ _).alloc (Nat.le_refl _) _)) (show w.heap.size ≤ W.heap.size by omega)
    · exact (((after HBW.out HB1'.out).setCell (by show _ ≤ _; simp) _).setCell (by show _ ≤ _; simp) _).alloc (by simp [World.setCell]; omega) _
  all_goals
    have e0 := (HB1'.out.cell (p := ⟨w.heap.size + 1, 0, none⟩) (by show _ < _; exact hsz)).trans HCW.out.2.2.1
    have e1 := (HB1'.out.cell (p := ⟨w.heap.size + 1, 1, none⟩) (by show _ < _; exact hsz)).trans HCW.out.2.2.2.1
    have g0 := (HB1'.out.frozen (p := ⟨w.heap.size + 1, 0, none⟩) (by show _ < _; exact hsz)).trans HCW.out.2.2.2.2.1
    have g1 := (HB1'.out.frozen (p := ⟨w.heap.size + 1, 1, none⟩) (by show _ < _; exact hsz)).trans HCW.out.2.2.2.2.2.1
    have hlt : w.heap.size + 1 < w1.heap.size := Nat.lt_of_lt_of_le hsz HB1'.out.size
    have hne3 : ¬ w.heap.size + 1 = W.heap.size := by omega
    have hne4 : ¬ W.heap.size = w.heap.size + 1 := by omega
    have hlA : W.heap.size + 1 ≤ (W.alloc (Obj.cells #[.slice none 0 0, .slice none 0 0] 28)).drew.heap.size := by show _ ≤ (W.alloc _).heap.size; simp
    go_wp2
    refine bodyPost_ret (v := .agg #[.slice a1 (tornP ps ws page text n).length k1, .slice b1 (burnW ps ws).length l1]) (by simp [results, Try.results23, go_sem, e0, e1]) rfl ⟨_, rfl, ?_, ?_⟩
    · exact own_mono (own_set (own_set (own_set (own_set HOWN.out (show W.heap.size < _ by omega) _) (show W.heap.size < _ by omega) _) (show w.heap.size + 1 < _ by omega) _) (show w.heap.size + 1 < _ by omega) _) (show w.heap.size ≤ _ by omega)
    · exact ((((after HBW.out HB1'.out).setCell (show w.heap.size ≤ W.heap.size by omega) _).setCell (show w.heap.size ≤ W.heap.size by omega) _).setCell (by show _ ≤ _; simp) _).setCell (by show _ ≤ _; simp) _

end Go.Proofs.Ytgfadkgmpljolaa
