/-
  Contract of the program's isBatch.
  Contract of the program's LogText.
  Contract of the specification's l7Batch.
-/
import Derived.Test.YtdicjbabnknjhaaGreatJRecover35
import Derived.Test.YtdicjbabnknjhaaGreatJRecover34
import Derived.Test.YtdicjbabnknjhaaGreatJRecover7
namespace Go.Proofs.YtdicjbabnknjhaaGreat
open Go.RowKit

open Classical in
noncomputable def inLB (L : List (Int × ByteArray)) : Bool := decide (inP L)
theorem inLB_yes {L : List (Int × ByteArray)} (h : inP L) : inLB L = true := by simp [inLB, h]
theorem inLB_no {L : List (Int × ByteArray)} (h : ¬ inP L) : inLB L = false := by simp [inLB, h]
open Classical in
/-- Which sectors the first k puts are of. -/
noncomputable def metB (L : List (Int × ByteArray)) (k i : Nat) : Bool := decide (∃ j, j < k ∧ ∃ y, L[j]? = some y ∧ y.1 = (i : Int))
def MetAt (u : World) (p : Nat) (L : List (Int × ByteArray)) (k : Nat) : Prop := p < u.heap.size ∧ ∀ i, i < 24 → u.cell? ⟨p, i, none⟩ = some (.bool (metB L k i)) ∧ u.frozen? ⟨p, i, none⟩ = false
theorem MetAt.below {u u' : World} {p : Nat} {L : List (Int × ByteArray)} {k : Nat} (h : MetAt u p L k) (hb : Below u.heap.size u u') : MetAt u' p L k :=
  ⟨Nat.lt_of_lt_of_le h.1 hb.size, fun i hi => ⟨(hb.cell (p := ⟨p, i, none⟩) h.1).trans (h.2 i hi).1, (hb.frozen (p := ⟨p, i, none⟩) h.1).trans (h.2 i hi).2⟩⟩
theorem metB_zero (L : List (Int × ByteArray)) (i : Nat) : metB L 0 i = false := by simp [metB]
theorem metB_step {L : List (Int × ByteArray)} {k S : Nat} {x : Int × ByteArray} (h : L[k]? = some x) (hx : x.1 = (S : Int)) (i : Nat) : metB L (k + 1) i = if i = S then true else metB L k i := by
  unfold metB
  by_cases hi : i = S
  · rw [if_pos hi, decide_eq_true_iff]
    exact ⟨k, by omega, x, h, by rw [hx, hi]⟩
  · rw [if_neg hi]
    congr 1
    rw [eq_iff_iff]
    constructor
    · rintro ⟨j, hj, y, hy, he⟩
      refine ⟨j, ?_, y, hy, he⟩
      by_cases hjk : j = k
      · subst hjk; rw [h] at hy; cases hy; omega
      · omega
    · rintro ⟨j, hj, y, hy, he⟩
      exact ⟨j, by omega, y, hy, he⟩
theorem MetAt.step {u : World} {p k S : Nat} {L : List (Int × ByteArray)} {x : Int × ByteArray} (hm : MetAt u p L k) (h : L[k]? = some x) (hx : x.1 = (S : Int)) (hS : S < 24) : MetAt (u.setCell ⟨p, S, none⟩ (.bool true)) p L (k + 1) := by
  refine ⟨by simpa [World.setCell] using hm.1, fun i hi => ⟨?_, by simpa using (hm.2 i hi).2⟩⟩
  rw [metB_step h hx]
  by_cases he : i = S
  · subst he; rw [if_pos rfl]; exact World.cell?_setCell_same _ _ _ (hm.2 i hi).1
  · rw [if_neg he, World.cell?_setCell_other _ _ _ _ (by intro e; injection e with _ e1; exact he e1.symm)]
    exact (hm.2 i hi).1
theorem putIn_of {L : List (Int × ByteArray)} {k S : Nat} {x : Int × ByteArray} (h : L[k]? = some x) (hx : x.1 = (S : Int)) (hS : S < 24) (hm : metB L k S = false) : putInP L k := by
  refine ⟨x, h, by omega, fun j hj y hy he => ?_⟩
  unfold metB at hm
  rw [decide_eq_false_iff_not] at hm
  exact hm ⟨j, hj, y, hy, by rw [he, hx]⟩
theorem putIn_no {L : List (Int × ByteArray)} {k S : Nat} {x : Int × ByteArray} (h : L[k]? = some x) (hx : x.1 = (S : Int)) (hm : metB L k S = true) : ¬ putInP L k := by
  rintro ⟨y, hy, -, hd⟩
  rw [h] at hy; cases hy
  unfold metB at hm
  rw [decide_eq_true_iff] at hm
  obtain ⟨j, hj, z, hz, he⟩ := hm
  exact hd j hj z hz (by rw [he, hx])
theorem putIn_out {L : List (Int × ByteArray)} {k : Nat} {x : Int × ByteArray} (h : L[k]? = some x) (hx : ¬ (0 ≤ x.1 ∧ x.1 ≤ 23)) : ¬ putInP L k := by
  rintro ⟨y, hy, hb, -⟩
  rw [h] at hy; cases hy
  exact hx hb

set_option maxRecDepth 100000 in
set_option maxHeartbeats 3200000 in
theorem isBatch_any (la : Option Addr) (L : List (Int × ByteArray)) (lc : Nat) (w : World) (hr : Rd w la (vsPut L)) (hl : L.length ≤ 1048576) :
    Calls Tryz.prog 65 #[.slice la L.length lc] w fun e w' => e = .returned (.bool (inLB L)) ∧ Below w.heap.size w w' := by
  obtain ⟨R, hR⟩ : ∃ R, R = inLB L := ⟨_, rfl⟩
  rw [← hR]
  by_cases h3 : 3 < L.length
  · have HR : Hid (R = false) := by show _ = _; rw [hR, inLB_no (fun h => by have := h.1; omega)]
    have hi : (3 : Int) < (L.length : Int) := by omega
    clear hR hr
    go_enter Tryz.func65, Tryz.ntmps65
    go_wp2
    go_ret
    exact ⟨ret_bool HR.out.symm, Below.refl _ _⟩
  · have hi : ¬ (3 : Int) < (L.length : Int) := by omega
    have HRY : Hid ((∀ k, k < L.length → putInP L k) → R = true) := fun h => by rw [hR, inLB_yes ⟨by omega, h⟩]
    have HRN : Hid (∀ k, k < L.length → ¬ putInP L k → R = false) := fun k hk h => by rw [hR, inLB_no (fun h' => h (h'.2 k hk))]
    have HL := hide hr
    clear hR hr
    go_enter Tryz.func65, Tryz.ntmps65
    go_wp2_with fail
    obtain ⟨W, hW⟩ : ∃ W, W = w.alloc (Obj.cells #[Value.bool false, Value.bool false, Value.bool false, Value.bool false, Value.bool false, Value.bool false, Value.bool false, Value.bool false, Value.bool false, Value.bool false, Value.bool false, Value.bool false, Value.bool false, Value.bool false, Value.bool false, Value.bool false, Value.bool false, Value.bool false, Value.bool false, Value.bool false, Value.bool false, Value.bool false, Value.bool false, Value.bool false] 116) := ⟨_, rfl⟩
    rw [← hW]
    have hbW : Below w.heap.size w W := by rw [hW]; exact (Below.refl _ _).alloc (Nat.le_refl _) _
    have hMW : MetAt W w.heap.size L 0 := by
      rw [hW]
      refine ⟨by simp, fun i hi => ⟨?_, by simp⟩⟩
      rw [metB_zero, World.cell?_alloc_new]
      have : i = 0 ∨ i = 1 ∨ i = 2 ∨ i = 3 ∨ i = 4 ∨ i = 5 ∨ i = 6 ∨ i = 7 ∨ i = 8 ∨ i = 9 ∨ i = 10 ∨ i = 11 ∨ i = 12 ∨ i = 13 ∨ i = 14 ∨ i = 15 ∨ i = 16 ∨ i = 17 ∨ i = 18 ∨ i = 19 ∨ i = 20 ∨ i = 21 ∨ i = 22 ∨ i = 23 := by omega
      rcases this with rfl | rfl | rfl | rfl | rfl | rfl | rfl | rfl | rfl | rfl | rfl | rfl | rfl | rfl | rfl | rfl | rfl | rfl | rfl | rfl | rfl | rfl | rfl | rfl <;> rfl
    have HMW := hide hMW
    have HBW := hide hbW
    clear hW hMW hbW
    generalize hP : w.heap.size = P at HMW ⊢
    have HP := hide hP
    clear hP
    go_loopw [11] (fun i wr => ∃ k : Nat, k ≤ L.length ∧ i = .int .i64 k ∧ Hid (∀ j, j < k → putInP L j) ∧ Hid (MetAt wr P L k) ∧ Hid (Below w.heap.size w wr)) (fun i _ => L.length - (intOf i).toNat)
    case atStart => exact ⟨0, Nat.zero_le _, rfl, fun j hj => by omega, HMW, HBW⟩
    case round =>
      obtain ⟨k, hk, rfl, hin, hmet, hbel⟩ := hrel
      clear HMW HBW
      by_cases hlt : k < L.length
      · obtain ⟨b1, o1, x, rfl, h0, h1, HX⟩ := rdPut_at (HL.out.below hbel.out) hlt
        obtain ⟨s, t⟩ := x
        have hki : (k : Int) < (L.length : Int) := by omega
        obtain ⟨V, hV⟩ : ∃ V, V = wr.alloc (Obj.cells #[.int .i64 s, .string t] 58) := ⟨_, rfl⟩
        have hbV : Below wr.heap.size wr V := by rw [hV]; exact (Below.refl _ _).alloc (Nat.le_refl _) _
        have c0 : V.cell? ⟨wr.heap.size, 0, none⟩ = some (.int .i64 s) := by rw [hV]; simp
        have HBV : Hid (Below w.heap.size w V) := after hbel.out hbV
        have HMV := hide (hmet.out.below hbV)
        clear hbV hmet hbel
        by_cases hs0 : s < 0
        · have HN : Hid (R = false) := HRN.out k hlt (putIn_out HX.out (by show ¬ (0 ≤ s ∧ s ≤ 23); omega))
          go_wp2_with (rw [← hV]; clear hV)
          go_ret
          exact ⟨ret_bool HN.out.symm, HBV.out⟩
        · by_cases hs1 : (24 : Int) ≤ s
          · have HN : Hid (R = false) := HRN.out k hlt (putIn_out HX.out (by show ¬ (0 ≤ s ∧ s ≤ 23); omega))
            go_wp2_with (rw [← hV]; clear hV)
            go_ret
            exact ⟨ret_bool HN.out.symm, HBV.out⟩
          · obtain ⟨S, rfl⟩ : ∃ S : Nat, s = S := ⟨s.toNat, by omega⟩
            have hS : S < 24 := by omega
            obtain ⟨d0, f0⟩ := HMV.out.2 S hS
            cases hm : metB L k S with
            | true =>
              rw [hm] at d0
              have HN : Hid (R = false) := HRN.out k hlt (putIn_no HX.out rfl hm)
              clear hm
              go_wp2_with (rw [← hV]; clear hV)
              go_ret
              exact ⟨ret_bool HN.out.symm, HBV.out⟩
            | false =>
              rw [hm] at d0
              have HY : Hid (∀ j, j < k + 1 → putInP L j) := fun j hj => by
                by_cases hjk : j = k
                · rw [hjk]; exact putIn_of HX.out rfl hS hm
                · exact hin.out j (by omega)
              have HM2 := hide (HMV.out.step HX.out rfl hS)
              have HB2 : Hid (Below w.heap.size w (V.setCell ⟨P, S, none⟩ (.bool true))) := HBV.out.setCell (by show _ ≤ P; rw [HP.out]; exact Nat.le_refl _) _
              clear hm
              go_wp2_with (rw [← hV]; clear hV)
              go_roundw
              case rel => exact ⟨k + 1, by omega, by go_num, HY, HM2, HB2⟩
              case measure => simp [intOf]; omega
      · have HY : Hid (R = true) := HRY.out (fun j hj => hin.out j (by omega))
        have hki : ¬ (k : Int) < (L.length : Int) := by omega
        go_wp2
        go_ret
        exact ⟨ret_bool HY.out.symm, hbel.out⟩
end Go.Proofs.YtdicjbabnknjhaaGreat

namespace Go.Proofs.YtdicjbabnknjhaaGreat
open Go.RowKit

/-- 'append(out, more...)', both being rows of the call's own: what has grown is the first row's block alone. -/
theorem wpList_append_two_g {P : Program} {w : World} {ops : Array Oper} {rest : List Oper} {o : Oper} {a : Act} {Q : Exit → Act → World → Prop} (hgd : o.guard = none) (s x : Operand) (t : TypeId)
    (ho : o.op = .call { callee := .builtin .append, args := #[s, x], argTypes := #[t, t] })
    (base base' : Nat) (e : TypeId) (i : TypeInfo) (z : Value) (bytes : Nat) (ht : P.underlying t = some (.slice e)) (hi : P.info? e = some i) (hz : i.zero = some z)
    (hsize : i.size = 1) (hby : i.bytes = bytes) (hzs : z.cells.size = 1)
    (v : Value) (n : Nat) (xs : List Value) (hs : a.eval s = v) (hown : w.ownsRow base e 1 v n xs)
    (v2 : Value) (m : Nat) (news : List Value) (hx : a.eval x = v2) (hown2 : w.ownsRow base' e 1 v2 m news) (h1 : ∀ u ∈ news, u.oneCell' = true)
    (hbytes : (n + m) * bytes ≤ 140737488355328) (hn : n + m ≤ 140737488355328) (hbase : base ≤ w.heap.size)
    (h : ∀ v' w', w'.ownsRow base e 1 v' (n + m) (xs ++ news) → w.grownBy w' v.ownBlock → wpList P ops Q rest (a.put o.dst v') w') : wpList P ops Q (o :: rest) a w := by
  rcases id hown2 with ⟨hl, ⟨rfl, rfl⟩ | ⟨g, cap, cur, rfl, -⟩⟩
  · have hnil : news = [] := List.eq_nil_of_length_eq_zero (by simpa using hl)
    subst hnil
    refine wpList_append_own_none hgd s x t ho base e i 1 ht hi v n xs hs hown hx ?_
    exact h v w (by simpa using hown) (World.grownBy.refl _ _)
  · refine wpList_append_own _ hgd s x t ho base e i z 1 bytes ht hi hz hsize hby hzs (by decide) v n xs hs hown ⟨g, 0, none⟩ m cap news hx hl (hown2.cells (g := g) rfl) h1 (by unfold maxLen; omega) hbytes hbase ?_
    intro v' w' h2 h3 _
    exact h v' w' h2 h3
theorem grown_cell {w w' : World} {row : Option Nat} (hg : w.grownBy w' row) {p o : Nat} {v : Value} (hc : w.cell? ⟨p, o, none⟩ = some v) (hne : row ≠ some p) : w'.cell? ⟨p, o, none⟩ = some v := by
  have hlt := lt_of_cell hc
  have := hg.block p hlt (fun e => hne e.symm)
  simp only [World.cell?, this] at hc ⊢
  exact hc

theorem putsB_take {L : List (Int × ByteArray)} {k : Nat} {x : Int × ByteArray} (h : L[k]? = some x) : putsB (L.take (k + 1)) = putsB (L.take k) ++ (putB x.1 ++ textB x.2) := by
  rw [List.take_add_one, h]
  exact putsB_snoc _ _
theorem u8s_len (zs : List Int) : (u8s zs).length = zs.length := by simp [u8s]

set_option maxRecDepth 100000 in
set_option maxHeartbeats 6400000 in
theorem implLogText_any (la : Option Addr) (L : List (Int × ByteArray)) (lc : Nat) (w : World) (hr : Rd w la (vsPut L)) (hl : L.length ≤ 1048576) (hLb : ∀ x ∈ L, x.2.size ≤ maxLen ∧ -9223372036854775808 ≤ x.1 ∧ x.1 ≤ 9223372036854775807) :
    Calls Tryz.prog 34 #[.slice la L.length lc] w fun e w' => e = .returned (.string (logT L)) ∧ Below w.heap.size w w' := by
  obtain ⟨R, hR⟩ : ∃ R, R = logT L := ⟨_, rfl⟩
  rw [← hR]
  by_cases h0 : L.length = 0
  · have HR : Hid (R = ByteArray.empty) := by show _ = _; rw [hR, logT_no (fun h => h.2.2.1 (List.eq_nil_of_length_eq_zero h0))]
    have h0' : ((L.length : Int) == 0) = true := by rw [h0]; rfl
    clear hR hr
    go_enter Tryz.func34, Tryz.ntmps34
    go_wp2
    go_ret
    exact ⟨by rw [HR.out]; rfl, Below.refl _ _⟩
  · have h0' : ((L.length : Int) == 0) = false := beq_false_of_ne (by omega)
    have HIB := hide (isBatch_any la L lc w hr hl)
    cases hb : inLB L with
    | false =>
      rw [hb] at HIB
      have HR : Hid (R = ByteArray.empty) := by
        show _ = _
        rw [hR, logT_no (fun h => ?_)]
        rw [inLB_yes h.1] at hb; cases hb
      clear hR hr h0 hb
      go_enter Tryz.func34, Tryz.ntmps34
      go_wp2_with (refine HIB.out.mono ?_; rintro e w1 ⟨rfl, hb1⟩; have HB1 := hide hb1; clear hb1)
      go_ret
      exact ⟨by rw [HR.out]; rfl, HB1.out⟩
    | true =>
      rw [hb] at HIB
      have hin : inP L := Classical.byContradiction fun h => by rw [inLB_no h] at hb; cases hb
      have HIN := hide hin
      have hl3 : L.length ≤ 3 := hin.1
      have hR' : (shortP L → (logFull L).length ≤ 400 → R = strOf (logFull L)) ∧ (¬ shortP L → R = ByteArray.empty) ∧ (¬ (logFull L).length ≤ 400 → R = ByteArray.empty) := by
        refine ⟨fun h1 h2 => ?_, fun h => ?_, fun h => ?_⟩
        · rw [hR, logT_yes ⟨hin, h1, by rintro rfl; simp at h0, h2⟩]
        · rw [hR, logT_no (fun h' => h h'.2.1)]
        · rw [hR, logT_no (fun h' => h h'.2.2.2)]
      have HR := hide hR'
      have HL := hide hr
      have HLB := hide hLb
      obtain ⟨i0, hi, hz0, hz1, hz2⟩ := info_parts info5
      have hpl := putB_len (L.length : Int)
      clear hR hR' hr h0 hb hin hLb
      go_enter Tryz.func34, Tryz.ntmps34
      go_wp2_with (refine HIB.out.mono ?_; rintro e w1 ⟨rfl, hb1⟩; have HB1 := hide hb1; clear hb1)
      refine (implPutNum_any (L.length : Int) w1 (by omega) (by omega)).mono ?_
      rintro e w2 ⟨v2, rfl, ho2, hb2⟩
      have ho2' := owns_mono ho2 HB1.out.size
      have hst : ∃ acc : List Int, Hid (acc = putB (L.length : Int) ++ putsB (L.take 0)) ∧ acc.length ≤ 5 + 410 * 0 ∧ w2.ownsRow w.heap.size 5 1 v2 acc.length (u8s acc) := ⟨putB (L.length : Int), by show _ = _; simp [putsB], hpl, ho2'⟩
      have HST := hide hst
      have HB2 := hide (after HB1.out hb2)
      clear ho2 ho2' hb2 HIB hst hpl HB1
      go_wp2_with fail
      go_loopw [3, 20] (fun v i wr => ∃ k : Nat, k ≤ L.length ∧ i = .int .i64 k ∧ Hid (∃ acc : List Int, Hid (acc = putB (L.length : Int) ++ putsB (L.take k)) ∧ acc.length ≤ 5 + 410 * k ∧ wr.ownsRow w.heap.size 5 1 v acc.length (u8s acc)) ∧ Hid (∀ j, j < k → ∀ x, L[j]? = some x → x.2.size ≤ 400) ∧ Hid (Below w.heap.size w wr)) (fun _ i _ => L.length - (intOf i).toNat)
      case atStart => exact ⟨0, Nat.zero_le _, rfl, HST, fun j hj => by omega, HB2⟩
      case round =>
        obtain ⟨k, hk, rfl, hacc, hsh, hbel⟩ := hrel
        clear HST HB2
        by_cases hlt : k < L.length
        · obtain ⟨b1, o1, x, rfl, h0, h1, HX⟩ := rdPut_at (HL.out.below hbel.out) hlt
          obtain ⟨s, t⟩ := x
          obtain ⟨ht0, hs0, hs1⟩ := HLB.out _ (List.mem_of_getElem? HX.out)
          have ht0 : t.size ≤ maxLen := ht0
          have hs0 : -9223372036854775808 ≤ s := hs0
          have hs1 : s ≤ 9223372036854775807 := hs1
          have hki : (k : Int) < (L.length : Int) := by omega
          obtain ⟨V, hV⟩ : ∃ V, V = wr.alloc (Obj.cells #[.int .i64 s, .string t] 58) := ⟨_, rfl⟩
          have hbV : Below wr.heap.size wr V := by rw [hV]; exact (Below.refl _ _).alloc (Nat.le_refl _) _
          have c0 : V.cell? ⟨wr.heap.size, 0, none⟩ = some (.int .i64 s) := by rw [hV]; simp
          have c1 : V.cell? ⟨wr.heap.size, 1, none⟩ = some (.string t) := by rw [hV]; simp
          have HBV : Hid (Below w.heap.size w V) := after hbel.out hbV
          obtain ⟨acc, HA, hal, hown⟩ := hacc.out
          have hfar := fun p e => (hown.lt p e).2
          have hownV := owns_below hown hbV
          by_cases h4 : (400 : Int) < (t.size : Int)
          · have HN : Hid (R = ByteArray.empty) := HR.out.2.1 (fun h => by have : t.size ≤ 400 := h _ (List.mem_of_getElem? HX.out); omega)
            clear hown hownV hacc hbV
            go_wp2_with (rw [← hV]; clear hV)
            go_ret
            exact ⟨by rw [HN.out]; rfl, HBV.out⟩
          · have HSH : Hid (∀ j, j < k + 1 → ∀ x, L[j]? = some x → x.2.size ≤ 400) := fun j hj x hx => by
              by_cases hjk : j = k
              · subst hjk; rw [HX.out] at hx; cases hx; show t.size ≤ 400; omega
              · exact hsh.out j (by omega) x hx
            have hps := putB_len s
            have hpt := textB_len t
            have HS := hide hs0
            have HS' := hide hs1
            have HT := hide ht0
            have hbase : w.heap.size ≤ wr.heap.size := hbel.out.size
            have hVs : V.heap.size = wr.heap.size + 1 := by rw [hV]; simp
            have HFR := hide hfar
            clear hown hacc hbV hs0 hs1 ht0 hsh hfar
            go_wp2_with fail
            rw [← hV]
            clear hV h0 h1
            refine (implPutNum_any s V HS.out HS'.out).mono ?_
            rintro e w3 ⟨v3, rfl, ho3, hb3⟩
            have hown3 := owns_below hownV hb3
            have d0 := (hb3.cell (p := ⟨wr.heap.size, 0, none⟩) (lt_of_cell c0)).trans c0
            have d1 := (hb3.cell (p := ⟨wr.heap.size, 1, none⟩) (lt_of_cell c1)).trans c1
            have hs3 := hb3.size
            have HB3 := hide (after HBV.out hb3)
            have hne : u3.ownBlock ≠ some wr.heap.size := fun e => by have := HFR.out _ e; omega
            clear c0 c1 hownV hb3 HBV
            go_wp2_with (at_builtin; refine wpList_append_two_g rfl (.tmp 28) (.tmp 31) 82 rfl w.heap.size V.heap.size 5 i0 (.int .u8 0) 1 Tryz.underlying82 hi hz0 hz1 hz2 rfl _ _ _ rfl hown3 _ _ _ rfl ho3 (u8s_one _) (by omega) (by omega) (by omega) ?_; intro v4 w4 ho4 hg4; have e1 := grown_cell hg4 d1 hne)
            have HB4 : Hid (Below w.heap.size w w4) := HB3.out.trans (grown_below hown3 hg4 HB3.out.size)
            have hs4 := HB4.out.size
            have hs34 := hg4.size
            rw [u8s_app, ← List.length_append] at ho4
            obtain ⟨T1, hT1⟩ : ∃ T, T = acc ++ putB s := ⟨_, rfl⟩
            have hT1l : T1.length ≤ 10 + 410 * k := by rw [hT1, List.length_append]; omega
            rw [← hT1] at ho4
            have HT1 := hide hT1
            clear hown3 ho3 d0 d1 hg4 hne hT1
            go_wp2_with fail
            refine (implPutText_any t w4 HT.out).mono ?_
            rintro e w5 ⟨v5, rfl, ho5, hb5⟩
            have ho4' := owns_below ho4 hb5
            have hs5 := hb5.size
            have HB5 := hide (after HB4.out hb5)
            clear ho4 hb5 e1
            go_wp2_with (at_builtin; refine wpList_append_two_g rfl (.tmp 33) (.tmp 36) 82 rfl w.heap.size w4.heap.size 5 i0 (.int .u8 0) 1 Tryz.underlying82 hi hz0 hz1 hz2 rfl _ _ _ rfl ho4' _ _ _ rfl ho5 (u8s_one _) (by omega) (by omega) (by omega) ?_; intro v6 w6 ho6 hg6)
            have HB6 : Hid (Below w.heap.size w w6) := HB5.out.trans (grown_below ho4' hg6 HB5.out.size)
            rw [u8s_app, ← List.length_append] at ho6
            have HACC : Hid (∃ acc : List Int, Hid (acc = putB (L.length : Int) ++ putsB (L.take (k + 1))) ∧ acc.length ≤ 5 + 410 * (k + 1) ∧ w6.ownsRow w.heap.size 5 1 v6 acc.length (u8s acc)) := by
              refine ⟨T1 ++ textB t, ?_, by rw [List.length_append]; omega, ho6⟩
              show _ = _
              rw [HT1.out, HA.out, putsB_take HX.out]
              simp
            clear ho4' hg6 ho6 ho5
            go_roundw
            case rel => exact ⟨k + 1, by omega, by go_num, HACC, HSH, HB6⟩
            case measure => simp [intOf]; omega
        · have hki : ¬ (k : Int) < (L.length : Int) := by omega
          have hkl : k = L.length := by omega
          obtain ⟨T, hTQ, hTl, hown⟩ := hacc.out
          have HTR : Hid (T = logRest L) := by show _ = _; rw [hTQ.out, hkl, List.take_length]; rfl
          have HSP : Hid (shortP L) := fun x hx => by
            obtain ⟨j, hj, he⟩ := List.mem_iff_getElem.1 hx
            exact hsh.out j (by omega) x (by rw [List.getElem?_eq_getElem hj, he])
          have HTB : Hid (IsBytes T) := by show IsBytes T; rw [HTR.out]; exact logRest_bytes L
          have hsum := sumOf_bd T
          obtain ⟨Z, hZ⟩ : ∃ Z, Z = sumOf T := ⟨_, rfl⟩
          rw [← hZ] at hsum
          have HZ := hide hZ
          have hpz := putB_len Z
          obtain ⟨F, hF⟩ : ∃ F, F = putB Z ++ T := ⟨_, rfl⟩
          have HFQ := hide hF
          have HFB : Hid (IsBytes F) := by show IsBytes F; rw [hF]; exact (putB_bytes Z).app HTB.out
          have hFl : F.length ≤ 1300 := by rw [hF, List.length_append]; omega
          have HFF : Hid (F = logFull L) := by show _ = _; rw [hF, hZ, HTR.out]; rfl
          obtain ⟨a6, k6, rfl, hr6⟩ := owns_open hown
          have HOW := hide hown
          have HR6 := hide hr6
          have hbs := hbel.out.size
          clear hacc hsh hZ hF hown hr6 hkl
          go_wp2_with fail
          refine (implSum_any a6 T k6 wr HR6.out HTB.out (by unfold maxLen; omega)).mono ?_
          rw [← HZ.out]
          rintro e u ⟨rfl, hu⟩
          have hu' := hu.symm
          subst hu'
          go_wp2_with fail
          refine (implPutNum_any Z wr (by omega) (by omega)).mono ?_
          rintro e w7 ⟨v7, rfl, ho7, hb7⟩
          have HO6' := hide (owns_below HOW.out hb7)
          have hs7 := hb7.size
          have HB7 := hide (after hbel.out hb7)
          clear hb7 HOW HR6
          by_cases h4 : (400 : Int) < (F.length : Int)
          · have HN : Hid (R = ByteArray.empty) := HR.out.2.2 (by rw [← HFF.out]; omega)
            go_wp2_with (at_builtin; refine wpList_append_two rfl (.tmp 41) (.tmp 42) 82 rfl wr.heap.size w.heap.size 5 i0 (.int .u8 0) 1 Tryz.underlying82 hi hz0 hz1 hz2 rfl _ _ _ rfl ho7 _ _ _ rfl HO6'.out (u8s_one _) (by omega) (by omega) (by omega) ?_; intro v8 w8 ho8 hb8; rw [u8s_app, ← List.length_append, ← HFQ.out] at ho8; obtain ⟨a8, k8, hv8, -⟩ := owns_open ho8; subst hv8; have HO8 := hide ho8; have HB8 : Hid (Below w.heap.size w w8) := HB7.out.trans (hb8.mono hbs); clear ho8 hb8)
            go_ret
            exact ⟨by rw [HN.out]; rfl, HB8.out⟩
          · have HY : Hid (R = strOf F) := by show _ = _; rw [HR.out.1 HSP.out (by rw [← HFF.out]; omega), HFF.out]
            go_wp2_with (at_builtin; refine wpList_append_two rfl (.tmp 41) (.tmp 42) 82 rfl wr.heap.size w.heap.size 5 i0 (.int .u8 0) 1 Tryz.underlying82 hi hz0 hz1 hz2 rfl _ _ _ rfl ho7 _ _ _ rfl HO6'.out (u8s_one _) (by omega) (by omega) (by omega) ?_; intro v8 w8 ho8 hb8; rw [u8s_app, ← List.length_append, ← HFQ.out] at ho8; obtain ⟨a8, k8, hv8, -⟩ := owns_open ho8; subst hv8; have HO8 := hide ho8; have HB8 : Hid (Below w.heap.size w w8) := HB7.out.trans (hb8.mono hbs); clear ho8 hb8; have hcv := conv_owned HFB.out HO8.out)
            go_ret
            exact ⟨by rw [HY.out]; rfl, HB8.out⟩
end Go.Proofs.YtdicjbabnknjhaaGreat

namespace Go.Proofs.YtdicjbabnknjhaaGreat
open Go.RowKit

open Classical in
/-- A batch of short texts. -/
noncomputable def batB (L : List (Int × ByteArray)) : Bool := @decide (inP L ∧ shortP L) (Classical.propDecidable _)
theorem batB_iff {L : List (Int × ByteArray)} : batB L = true ↔ inP L ∧ shortP L := by unfold batB; exact @decide_eq_true_iff _ (Classical.propDecidable _)
theorem batB_false {L : List (Int × ByteArray)} (h : ¬ (inP L ∧ shortP L)) : batB L = false := by
  cases hb : batB L with
  | false => rfl
  | true => exact absurd (batB_iff.1 hb) h
def putSh (L : List (Int × ByteArray)) (k : Nat) : Prop := putInP L k ∧ ∀ x, L[k]? = some x → x.2.size ≤ 400
theorem batB_yes {L : List (Int × ByteArray)} (hl : L.length ≤ 3) (h : ∀ k, k < L.length → putSh L k) : batB L = true := by
  refine batB_iff.2 ⟨⟨hl, fun k hk => (h k hk).1⟩, fun x hx => ?_⟩
  obtain ⟨j, hj, he⟩ := List.mem_iff_getElem.1 hx
  exact (h j hj).2 x (by rw [List.getElem?_eq_getElem hj, he])
theorem batB_no {L : List (Int × ByteArray)} {k : Nat} (hk : k < L.length) (h : ¬ putSh L k) : batB L = false := by
  refine batB_false ?_
  rintro ⟨h1, h2⟩
  exact h ⟨h1.2 k hk, fun x hx => h2 x (List.mem_of_getElem? hx)⟩
theorem batB_long {L : List (Int × ByteArray)} (hl : ¬ L.length ≤ 3) : batB L = false := by
  refine batB_false ?_
  rintro ⟨h1, h2⟩
  exact hl h1.1

set_option maxRecDepth 100000 in
set_option maxHeartbeats 3200000 in
theorem l7Batch_any (la : Option Addr) (L : List (Int × ByteArray)) (lc : Nat) (w : World) (hr : Rd w la (vsPut L)) (hl : L.length ≤ 1048576) :
    Calls Tryz.prog 54 #[.slice la L.length lc] w fun e w' => e = .returned (.bool (batB L)) ∧ Below w.heap.size w w' := by
  obtain ⟨R, hR⟩ : ∃ R, R = batB L := ⟨_, rfl⟩
  rw [← hR]
  have HRN : Hid (∀ k, k < L.length → ¬ putSh L k → R = false) := fun k hk h => by rw [hR, batB_no hk h]
  have HRY : Hid ((∀ k, k < L.length → putSh L k) → R = decide ((L.length : Int) ≤ 3)) := fun h => by
    rw [hR]
    by_cases h3 : L.length ≤ 3
    · rw [batB_yes h3 h]; symm; rw [decide_eq_true_iff]; omega
    · rw [batB_long h3]; symm; rw [decide_eq_false_iff_not]; omega
  have HL := hide hr
  clear hR hr
  go_enter Tryz.func54, Tryz.ntmps54
  go_wp2_with fail
  go_loopw [3, 4] (fun i _ wr => ∃ k : Nat, k ≤ L.length ∧ i = .int .i64 k ∧ Hid (∀ j, j < k → putSh L j) ∧ Hid (Below w.heap.size w wr)) (fun i _ _ => L.length - (intOf i).toNat)
  case atStart => exact ⟨0, Nat.zero_le _, rfl, fun j hj => by omega, Below.refl _ _⟩
  case round =>
    obtain ⟨k, hk, rfl, hin, hbel⟩ := hrel
    by_cases hlt : k < L.length
    · obtain ⟨b1, o1, x, rfl, h0, h1, HX⟩ := rdPut_at (HL.out.below hbel.out) hlt
      obtain ⟨s, t⟩ := x
      have h0 : wr.cell? ⟨b1, o1 + k * 2, none⟩ = some (.int .i64 s) := h0
      have h1 : wr.cell? ⟨b1, o1 + k * 2 + 1, none⟩ = some (.string t) := h1
      have hki : (k : Int) < (L.length : Int) := by omega
      have HN : Hid (¬ putSh L k → R = false) := fun h => HRN.out k hlt h
      by_cases hs : 0 ≤ s ∧ s ≤ 23
      · have hd : decide (0 ≤ s ∧ s ≤ 23) = true := by simpa using hs
        by_cases h4 : (400 : Int) < (t.size : Int)
        · have HF : Hid (R = false) := HN.out (fun h => by have : t.size ≤ 400 := h.2 _ HX.out; omega)
          clear hin HN
          go_wp2_with (first | (go_at_call 80; refine (in_any _ _ _ _).mono ?_; rw [hd]; rintro e u ⟨rfl, hu⟩; have hu' := hu.symm; subst hu'))
          go_ret
          exact ⟨ret_bool HF.out.symm, hbel.out⟩
        · have HSZ : Hid (∀ x, L[k]? = some x → x.2.size ≤ 400) := fun x hx => by rw [HX.out] at hx; cases hx; show t.size ≤ 400; omega
          have HSB : Hid (0 ≤ s ∧ s ≤ 23) := hs
          clear hs
          go_wp2_with (first | (go_at_call 80; refine (in_any _ _ _ _).mono ?_; rw [hd]; rintro e u ⟨rfl, hu⟩; have hu' := hu.symm; subst hu'))
          go_loopw [4] (fun j wx => ∃ m : Nat, m ≤ k ∧ j = .int .i64 m ∧ Hid (∀ j, j < m → ∀ y, L[j]? = some y → y.1 ≠ s) ∧ Hid (Below w.heap.size w wx)) (fun j _ => k - (intOf j).toNat)
          case atStart => exact ⟨0, Nat.zero_le _, rfl, fun j hj => by omega, hbel⟩
          case round =>
            obtain ⟨m, hm, rfl, hdif, hbx⟩ := hrel
            by_cases hmk : m < k
            · obtain ⟨b2, o2, y, he2, g0, -, HY⟩ := rdPut_at (HL.out.below hbx.out) (show m < L.length by omega)
              obtain ⟨b3, o3, x3, he3, k0, -, HX3⟩ := rdPut_at (HL.out.below hbx.out) hlt
              simp only [Option.some.injEq, Addr.mk.injEq] at he2 he3
              obtain ⟨rfl, rfl, -⟩ := he2
              obtain ⟨rfl, rfl, -⟩ := he3
              obtain ⟨sy, ty⟩ := y
              have hx3 := HX3.out
              rw [HX.out] at hx3
              injection hx3 with hx3
              subst hx3
              have g0 : wr.cell? ⟨b1, o1 + m * 2, none⟩ = some (.int .i64 sy) := g0
              have k0 : wr.cell? ⟨b1, o1 + k * 2, none⟩ = some (.int .i64 s) := k0
              have hmi : (m : Int) < (k : Int) := by omega
              have hml : (m : Int) < (L.length : Int) := by omega
              clear h0 h1 hin HX3
              by_cases he : sy = s
              · have HF : Hid (R = false) := HN.out (fun h => by
                  obtain ⟨z, hz, -, hd⟩ := h.1
                  rw [HX.out] at hz; cases hz
                  exact hd m hmk _ HY.out he)
                have ht : (sy == s) = true := by simp [he]
                clear he hdif
                go_wp2
                go_quiet (fail)
                go_wp2
                go_ret
                exact ⟨ret_bool HF.out.symm, after_drew hbx.out _⟩
              · have HD : Hid (∀ j, j < m + 1 → ∀ y, L[j]? = some y → y.1 ≠ s) := fun j hj y hy => by
                  by_cases hjm : j = m
                  · subst hjm; rw [HY.out] at hy; cases hy; exact he
                  · exact hdif.out j (by omega) y hy
                have ht : (sy == s) = false := by simp [he]
                clear he hdif
                go_wp2
                go_quiet (fail)
                go_wp2
                go_roundw
                case rel => exact ⟨m + 1, by omega, by go_num, HD, after_drew hbx.out _⟩
                case measure => simp [intOf]; omega
            · obtain rfl : m = k := by omega
              have HIN : Hid (∀ j, j < m + 1 → putSh L j) := fun j hj => by
                by_cases hjm : j = m
                · subst hjm; exact ⟨⟨_, HX.out, HSB.out, hdif.out⟩, HSZ.out⟩
                · exact hin.out j (by omega)
              have hmi : ¬ (m : Int) < (m : Int) := by omega
              clear hin hdif
              go_wp2
              go_roundw
              case rel => exact ⟨m + 1, by omega, by go_num, HIN, hbx⟩
              case measure => simp [intOf]; omega
      · have hd : decide (0 ≤ s ∧ s ≤ 23) = false := by simpa using hs
        have HF : Hid (R = false) := HN.out (fun h => putIn_out HX.out hs h.1)
        clear hin HN
        go_wp2_with (first | (go_at_call 80; refine (in_any _ _ _ _).mono ?_; rw [hd]; rintro e u ⟨rfl, hu⟩; have hu' := hu.symm; subst hu'))
        go_ret
        exact ⟨ret_bool HF.out.symm, hbel.out⟩
    · have hki : ¬ (k : Int) < (L.length : Int) := by omega
      have HY := hide (HRY.out (fun j hj => hin.out j (by omega)))
      go_wp2
      go_ret
      exact ⟨ret_bool HY.out.symm, hbel.out⟩

end Go.Proofs.YtdicjbabnknjhaaGreat
