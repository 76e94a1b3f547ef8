/-
  Contract of the program's LogText.
-/
import Derived.Test.YtdicjbabnknjhaaImplBatch
import Derived.Test.YtdicjbabnknjhaaAppendTwo
namespace Go.Proofs.Ytdicjbabnknjhaa
open Go.RowKit

/-- 'append(out, more...)', both being rows of the call's own: what has grown is the first row's block alone. -/
theorem wpList_append_two_g {P : Program} {w : World} {ops : Array Oper} {rest : List Oper} {o : Oper} {a : Act} {Q : Exit → Act → World → Prop} (hgd : o.guard = none) (s x : Operand) (t : TypeId)
    (ho : o.op = .call { callee := .builtin .append, args := #[s, x], argTypes := #[t, t] })
    (base base' : Nat) (e : TypeId) (i : TypeInfo) (z : Value) (bytes : Nat) (ht : P.underlying t = some (.slice e)) (hi : P.info? e = some i) (hz : i.zero = some z)
    (hsize : i.size = 1) (hby : i.bytes = bytes) (hzs : z.cells.size = 1)
    (v : Value) (n : Nat) (xs : List Value) (hs : a.eval s = v) (hown : w.ownsRow base e 1 v n xs)
    (v2 : Value) (m : Nat) (news : List Value) (hx : a.eval x = v2) (hown2 : w.ownsRow base' e 1 v2 m news) (h1 : ∀ u ∈ news, u.oneCell' = true)
    (hbytes : (n + m) * bytes ≤ 140737488355328) (hn : n + m ≤ 140737488355328) (hbase : base ≤ w.heap.size)
    (h : ∀ v' w', w'.ownsRow base e 1 v' (n + m) (xs ++ news) → w.grownBy w' v.ownBlock → wpList P ops Q rest (a.put o.dst v') w') : wpList P ops Q (o :: rest) a w := by
  rcases id hown2 with ⟨hl, ⟨rfl, rfl⟩ | ⟨g, cap, cur, rfl, -⟩⟩
  · have hnil : news = [] := List.eq_nil_of_length_eq_zero (by simpa using hl)
    subst hnil
    refine wpList_append_own_none hgd s x t ho base e i 1 ht hi v n xs hs hown hx ?_
    exact h v w (by simpa using hown) (World.grownBy.refl _ _)
  · refine wpList_append_own _ hgd s x t ho base e i z 1 bytes ht hi hz hsize hby hzs (by decide) v n xs hs hown ⟨g, 0, none⟩ m cap news hx hl (hown2.cells (g := g) rfl) h1 (by unfold maxLen; omega) hbytes hbase ?_
    intro v' w' h2 h3 _
    exact h v' w' h2 h3
theorem grown_cell {w w' : World} {row : Option Nat} (hg : w.grownBy w' row) {p o : Nat} {v : Value} (hc : w.cell? ⟨p, o, none⟩ = some v) (hne : row ≠ some p) : w'.cell? ⟨p, o, none⟩ = some v := by
  have hlt := lt_of_cell hc
  have := hg.block p hlt (fun e => hne e.symm)
  simp only [World.cell?, this] at hc ⊢
  exact hc

theorem putsB_take {L : List (Int × ByteArray)} {k : Nat} {x : Int × ByteArray} (h : L[k]? = some x) : putsB (L.take (k + 1)) = putsB (L.take k) ++ (putB x.1 ++ textB x.2) := by
  rw [List.take_add_one, h]
  exact putsB_snoc _ _
theorem u8s_len (zs : List Int) : (u8s zs).length = zs.length := by simp [u8s]

set_option maxRecDepth 100000 in
set_option maxHeartbeats 6400000 in
theorem implLogText_any (la : Option Addr) (L : List (Int × ByteArray)) (lc : Nat) (w : World) (hr : Rd w la (vsPut L)) (hl : L.length ≤ 1048576) (hLb : ∀ x ∈ L, x.2.size ≤ maxLen ∧ -9223372036854775808 ≤ x.1 ∧ x.1 ≤ 9223372036854775807) :
    Calls Try.prog 9 #[.slice la L.length lc] w fun e w' => e = .returned (.string (logT L)) ∧ Below w.heap.size w w' := by
  obtain ⟨R, hR⟩ : ∃ R, R = logT L := ⟨_, rfl⟩
  rw [← hR]
  by_cases h0 : L.length = 0
  · have HR : Hid (R = ByteArray.empty) := by show _ = _; rw [hR, logT_no (fun h => h.2.2.1 (List.eq_nil_of_length_eq_zero h0))]
    have h0' : ((L.length : Int) == 0) = true := by rw [h0]; rfl
    clear hR hr
    go_enter Try.func9, Try.ntmps9
    go_wp2
    go_ret
    exact ⟨by rw [HR.out]; rfl, Below.refl _ _⟩
  · have h0' : ((L.length : Int) == 0) = false := beq_false_of_ne (by omega)
    have HIB := hide (isBatch_any la L lc w hr hl)
    cases hb : inB L with
    | false =>
      rw [hb] at HIB
      have HR : Hid (R = ByteArray.empty) := by
        show _ = _
        rw [hR, logT_no (fun h => ?_)]
        rw [inB_yes h.1] at hb; cases hb
      clear hR hr h0 hb
      go_enter Try.func9, Try.ntmps9
      go_wp2_with (refine HIB.out.mono ?_; rintro e w1 ⟨rfl, hb1⟩; have HB1 := hide hb1; clear hb1)
      go_ret
      exact ⟨by rw [HR.out]; rfl, HB1.out⟩
    | true =>
      rw [hb] at HIB
      have hin : inP L := Classical.byContradiction fun h => by rw [inB_no h] at hb; cases hb
      have HIN := hide hin
      have hl3 : L.length ≤ 3 := hin.1
      have hR' : (shortP L → (logFull L).length ≤ 400 → R = strOf (logFull L)) ∧ (¬ shortP L → R = ByteArray.empty) ∧ (¬ (logFull L).length ≤ 400 → R = ByteArray.empty) := by
        refine ⟨fun h1 h2 => ?_, fun h => ?_, fun h => ?_⟩
        · rw [hR, logT_yes ⟨hin, h1, by rintro rfl; simp at h0, h2⟩]
        · rw [hR, logT_no (fun h' => h h'.2.1)]
        · rw [hR, logT_no (fun h' => h h'.2.2.2)]
      have HR := hide hR'
      have HL := hide hr
      have HLB := hide hLb
      obtain ⟨i0, hi, hz0, hz1, hz2⟩ := info_parts info5
      have hpl := putB_len (L.length : Int)
      clear hR hR' hr h0 hb hin hLb
      go_enter Try.func9, Try.ntmps9
      go_wp2_with (refine HIB.out.mono ?_; rintro e w1 ⟨rfl, hb1⟩; have HB1 := hide hb1; clear hb1)
      refine (implPutNum_any (L.length : Int) w1 (by omega) (by omega)).mono ?_
      rintro e w2 ⟨v2, rfl, ho2, hb2⟩
      have ho2' := owns_mono ho2 HB1.out.size
      have hst : ∃ acc : List Int, Hid (acc = putB (L.length : Int) ++ putsB (L.take 0)) ∧ acc.length ≤ 5 + 410 * 0 ∧ w2.ownsRow w.heap.size 5 1 v2 acc.length (u8s acc) := ⟨putB (L.length : Int), by show _ = _; simp [putsB], hpl, ho2'⟩
      have HST := hide hst
      have HB2 := hide (after HB1.out hb2)
      clear ho2 ho2' hb2 HIB hst hpl HB1
      go_wp2_with fail
      go_loopw [3, 20] (fun v i wr => ∃ k : Nat, k ≤ L.length ∧ i = .int .i64 k ∧ Hid (∃ acc : List Int, Hid (acc = putB (L.length : Int) ++ putsB (L.take k)) ∧ acc.length ≤ 5 + 410 * k ∧ wr.ownsRow w.heap.size 5 1 v acc.length (u8s acc)) ∧ Hid (∀ j, j < k → ∀ x, L[j]? = some x → x.2.size ≤ 400) ∧ Hid (Below w.heap.size w wr)) (fun _ i _ => L.length - (intOf i).toNat)
      case atStart => exact ⟨0, Nat.zero_le _, rfl, HST, fun j hj => by omega, HB2⟩
      case round =>
        obtain ⟨k, hk, rfl, hacc, hsh, hbel⟩ := hrel
        clear HST HB2
        by_cases hlt : k < L.length
        · obtain ⟨b1, o1, x, rfl, h0, h1, HX⟩ := rdPut_at (HL.out.below hbel.out) hlt
          obtain ⟨s, t⟩ := x
          obtain ⟨ht0, hs0, hs1⟩ := HLB.out _ (List.mem_of_getElem? HX.out)
          have ht0 : t.size ≤ maxLen := ht0
          have hs0 : -9223372036854775808 ≤ s := hs0
          have hs1 : s ≤ 9223372036854775807 := hs1
          have hki : (k : Int) < (L.length : Int) := by omega
          obtain ⟨V, hV⟩ : ∃ V, V = wr.alloc (Obj.cells #[.int .i64 s, .string t] 56) := ⟨_, rfl⟩
          have hbV : Below wr.heap.size wr V := by rw [hV]; exact (Below.refl _ _).alloc (Nat.le_refl _) _
          have c0 : V.cell? ⟨wr.heap.size, 0, none⟩ = some (.int .i64 s) := by rw [hV]; simp
          have c1 : V.cell? ⟨wr.heap.size, 1, none⟩ = some (.string t) := by rw [hV]; simp
          have HBV : Hid (Below w.heap.size w V) := after hbel.out hbV
          obtain ⟨acc, HA, hal, hown⟩ := hacc.out
          have hfar := fun p e => (hown.lt p e).2
          have hownV := owns_below hown hbV
          by_cases h4 : (400 : Int) < (t.size : Int)
          · have HN : Hid (R = ByteArray.empty) := HR.out.2.1 (fun h => by have : t.size ≤ 400 := h _ (List.mem_of_getElem? HX.out); omega)
            clear hown hownV hacc hbV
            go_wp2_with (rw [← hV]; clear hV)
            go_ret
            exact ⟨by rw [HN.out]; rfl, HBV.out⟩
          · have HSH : Hid (∀ j, j < k + 1 → ∀ x, L[j]? = some x → x.2.size ≤ 400) := fun j hj x hx => by
              by_cases hjk : j = k
              · subst hjk; rw [HX.out] at hx; cases hx; show t.size ≤ 400; omega
              · exact hsh.out j (by omega) x hx
            have hps := putB_len s
            have hpt := textB_len t
            have HS := hide hs0
            have HS' := hide hs1
            have HT := hide ht0
            have hbase : w.heap.size ≤ wr.heap.size := hbel.out.size
            have hVs : V.heap.size = wr.heap.size + 1 := by rw [hV]; simp
            have HFR := hide hfar
            clear hown hacc hbV hs0 hs1 ht0 hsh hfar
            go_wp2_with fail
            rw [← hV]
            clear hV h0 h1
            refine (implPutNum_any s V HS.out HS'.out).mono ?_
            rintro e w3 ⟨v3, rfl, ho3, hb3⟩
            have hown3 := owns_below hownV hb3
            have d0 := (hb3.cell (p := ⟨wr.heap.size, 0, none⟩) (lt_of_cell c0)).trans c0
            have d1 := (hb3.cell (p := ⟨wr.heap.size, 1, none⟩) (lt_of_cell c1)).trans c1
            have hs3 := hb3.size
            have HB3 := hide (after HBV.out hb3)
            have hne : u3.ownBlock ≠ some wr.heap.size := fun e => by have := HFR.out _ e; omega
            clear c0 c1 hownV hb3 HBV
            go_wp2_with (at_builtin; refine wpList_append_two_g rfl (.tmp 28) (.tmp 31) 54 rfl w.heap.size V.heap.size 5 i0 (.int .u8 0) 1 Try.underlying54 hi hz0 hz1 hz2 rfl _ _ _ rfl hown3 _ _ _ rfl ho3 (u8s_one _) (by omega) (by omega) (by omega) ?_; intro v4 w4 ho4 hg4; have e1 := grown_cell hg4 d1 hne)
            have HB4 : Hid (Below w.heap.size w w4) := HB3.out.trans (grown_below hown3 hg4 HB3.out.size)
            have hs4 := HB4.out.size
            have hs34 := hg4.size
            rw [u8s_app, ← List.length_append] at ho4
            obtain ⟨T1, hT1⟩ : ∃ T, T = acc ++ putB s := ⟨_, rfl⟩
            have hT1l : T1.length ≤ 10 + 410 * k := by rw [hT1, List.length_append]; omega
            rw [← hT1] at ho4
            have HT1 := hide hT1
            clear hown3 ho3 d0 d1 hg4 hne hT1
            go_wp2_with fail
            refine (implPutText_any t w4 HT.out).mono ?_
            rintro e w5 ⟨v5, rfl, ho5, hb5⟩
            have ho4' := owns_below ho4 hb5
            have hs5 := hb5.size
            have HB5 := hide (after HB4.out hb5)
            clear ho4 hb5 e1
            go_wp2_with (at_builtin; refine wpList_append_two_g rfl (.tmp 33) (.tmp 36) 54 rfl w.heap.size w4.heap.size 5 i0 (.int .u8 0) 1 Try.underlying54 hi hz0 hz1 hz2 rfl _ _ _ rfl ho4' _ _ _ rfl ho5 (u8s_one _) (by omega) (by omega) (by omega) ?_; intro v6 w6 ho6 hg6)
            have HB6 : Hid (Below w.heap.size w w6) := HB5.out.trans (grown_below ho4' hg6 HB5.out.size)
            rw [u8s_app, ← List.length_append] at ho6
            have HACC : Hid (∃ acc : List Int, Hid (acc = putB (L.length : Int) ++ putsB (L.take (k + 1))) ∧ acc.length ≤ 5 + 410 * (k + 1) ∧ w6.ownsRow w.heap.size 5 1 v6 acc.length (u8s acc)) := by
              refine ⟨T1 ++ textB t, ?_, by rw [List.length_append]; omega, ho6⟩
              show _ = _
              rw [HT1.out, HA.out, putsB_take HX.out]
              simp
            clear ho4' hg6 ho6 ho5
            go_roundw
            case rel => exact ⟨k + 1, by omega, by go_num, HACC, HSH, HB6⟩
            case measure => simp [intOf]; omega
        · have hki : ¬ (k : Int) < (L.length : Int) := by omega
          have hkl : k = L.length := by omega
          obtain ⟨T, hTQ, hTl, hown⟩ := hacc.out
          have HTR : Hid (T = logRest L) := by show _ = _; rw [hTQ.out, hkl, List.take_length]; rfl
          have HSP : Hid (shortP L) := fun x hx => by
            obtain ⟨j, hj, he⟩ := List.mem_iff_getElem.1 hx
            exact hsh.out j (by omega) x (by rw [List.getElem?_eq_getElem hj, he])
          have HTB : Hid (IsBytes T) := by show IsBytes T; rw [HTR.out]; exact logRest_bytes L
          have hsum := sumOf_bd T
          obtain ⟨Z, hZ⟩ : ∃ Z, Z = sumOf T := ⟨_, rfl⟩
          rw [← hZ] at hsum
          have HZ := hide hZ
          have hpz := putB_len Z
          obtain ⟨F, hF⟩ : ∃ F, F = putB Z ++ T := ⟨_, rfl⟩
          have HFQ := hide hF
          have HFB : Hid (IsBytes F) := by show IsBytes F; rw [hF]; exact (putB_bytes Z).app HTB.out
          have hFl : F.length ≤ 1300 := by rw [hF, List.length_append]; omega
          have HFF : Hid (F = logFull L) := by show _ = _; rw [hF, hZ, HTR.out]; rfl
          obtain ⟨a6, k6, rfl, hr6⟩ := owns_open hown
          have HOW := hide hown
          have HR6 := hide hr6
          have hbs := hbel.out.size
          clear hacc hsh hZ hF hown hr6 hkl
          go_wp2_with fail
          refine (implSum_any a6 T k6 wr HR6.out HTB.out (by unfold maxLen; omega)).mono ?_
          rw [← HZ.out]
          rintro e u ⟨rfl, hu⟩
          have hu' := hu.symm
          subst hu'
          go_wp2_with fail
          refine (implPutNum_any Z wr (by omega) (by omega)).mono ?_
          rintro e w7 ⟨v7, rfl, ho7, hb7⟩
          have HO6' := hide (owns_below HOW.out hb7)
          have hs7 := hb7.size
          have HB7 := hide (after hbel.out hb7)
          clear hb7 HOW HR6
          by_cases h4 : (400 : Int) < (F.length : Int)
          · have HN : Hid (R = ByteArray.empty) := HR.out.2.2 (by rw [← HFF.out]; omega)
            go_wp2_with (at_builtin; refine wpList_append_two rfl (.tmp 41) (.tmp 42) 54 rfl wr.heap.size w.heap.size 5 i0 (.int .u8 0) 1 Try.underlying54 hi hz0 hz1 hz2 rfl _ _ _ rfl ho7 _ _ _ rfl HO6'.out (u8s_one _) (by omega) (by omega) (by omega) ?_; intro v8 w8 ho8 hb8; rw [u8s_app, ← List.length_append, ← HFQ.out] at ho8; obtain ⟨a8, k8, hv8, -⟩ := owns_open ho8; subst hv8; have HO8 := hide ho8; have HB8 : Hid (Below w.heap.size w w8) := HB7.out.trans (hb8.mono hbs); clear ho8 hb8)
            go_ret
            exact ⟨by rw [HN.out]; rfl, HB8.out⟩
          · have HY : Hid (R = strOf F) := by show _ = _; rw [HR.out.1 HSP.out (by rw [← HFF.out]; omega), HFF.out]
            go_wp2_with (at_builtin; refine wpList_append_two rfl (.tmp 41) (.tmp 42) 54 rfl wr.heap.size w.heap.size 5 i0 (.int .u8 0) 1 Try.underlying54 hi hz0 hz1 hz2 rfl _ _ _ rfl ho7 _ _ _ rfl HO6'.out (u8s_one _) (by omega) (by omega) (by omega) ?_; intro v8 w8 ho8 hb8; rw [u8s_app, ← List.length_append, ← HFQ.out] at ho8; obtain ⟨a8, k8, hv8, -⟩ := owns_open ho8; subst hv8; have HO8 := hide ho8; have HB8 : Hid (Below w.heap.size w w8) := HB7.out.trans (hb8.mono hbs); clear ho8 hb8; have hcv := conv_owned HFB.out HO8.out)
            go_ret
            exact ⟨by rw [HY.out]; rfl, HB8.out⟩
end Go.Proofs.Ytdicjbabnknjhaa
