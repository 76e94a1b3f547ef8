/-
  Contract of slices.MinFunc with Worst's closure: the first that is least.
  The plain mathematics of Worst: the first of the used blocks with the fewest Lives, and of those the one that was cleared the least often.
  Contract of the program's Worst.
  What Worst answers, of both.
-/
import Derived.Test.YtghadfbpcbcpiaaGreatK19
import Derived.Test.YtghadfbpcbcpiaaGreatK15
import Derived.Test.YtghadfbpcbcpiaaGreatK13
import Derived.Test.YtghadfbpcbcpiaaGreatK12
import Derived.RangeFuncCalls
import Derived.RangeFuncBound
namespace Go.Proofs.YtghadfbpcbcpiaaGreat
open Go.RowKit

def minGS (cf : Nat → Nat → Int) (m x : Int) : Int := if m < 0 ∨ cf x.toNat m.toNat < 0 then x else m
def minG (cf : Nat → Nat → Int) (L : List Int) : Int := L.foldl (minGS cf) (-1)
theorem minG_snoc (cf : Nat → Nat → Int) (L : List Int) (x : Int) : minG cf (L ++ [x]) = minGS cf (minG cf L) x := by simp [minG]
theorem minG_take {cf : Nat → Nat → Int} {L : List Int} {k : Nat} {x : Int} (h : L[k]? = some x) : minG cf (L.take (k + 1)) = minGS cf (minG cf (L.take k)) x := by
  rw [List.take_add_one, h]
  exact minG_snoc cf _ x
theorem minG_mem {cf : Nat → Nat → Int} : ∀ (L : List Int), (∀ x ∈ L, 0 ≤ x ∧ x < 10) → L ≠ [] → 0 ≤ minG cf L ∧ minG cf L < 10 := by
  intro L hb hne
  have key : ∀ (L : List Int) (m : Int), (∀ x ∈ L, 0 ≤ x ∧ x < 10) → ((0 ≤ m ∧ m < 10) ∨ L ≠ []) → 0 ≤ L.foldl (minGS cf) m ∧ L.foldl (minGS cf) m < 10 ∨ (m < 0 ∧ L = []) ∨ ¬ (m < 0 ∨ (0 ≤ m ∧ m < 10)) := by
    intro L
    induction L with
    | nil => intro m _ h; rcases h with h | h
             · exact .inl h
             · exact absurd rfl h
    | cons y L ih =>
      intro m hb _
      by_cases hm : m < 0 ∨ (0 ≤ m ∧ m < 10)
      · have hy := hb y (by simp)
        have hs : 0 ≤ minGS cf m y ∧ minGS cf m y < 10 := by
          unfold minGS
          split
          · exact hy
          · next h => omega
        rcases ih (minGS cf m y) (fun x hx => hb x (by simp [hx])) (.inl hs) with h | h | h
        · exact .inl h
        · omega
        · exact absurd (.inr hs) h
      · exact .inr (.inr hm)
  rcases key L (-1) hb (.inr hne) with h | h | h
  · exact h
  · exact absurd h.2 hne
  · exact absurd (.inl (by decide)) h

theorem rdInt_cell {w u : World} {ba oa : Nat} {L : List Int} {k : Nat} {x : Int} (h : Rd w (some ⟨ba, oa, none⟩) (vsInt L)) (hu : Below w.heap.size w u) (hk : k < L.length) (hx : L[k]? = some x) : u.cell? ⟨ba, oa + k, none⟩ = some (.int .i64 x) := by
  obtain ⟨ba', oa', y, hb', hcy, HY⟩ := rdInt_at (h.below hu) hk
  simp at hb'
  obtain ⟨rfl, rfl⟩ := hb'
  have := HY.out
  rw [hx] at this
  cases this
  exact hcy

set_option maxRecDepth 100000 in
set_option maxHeartbeats 1600000 in
theorem minFunc2_any (pl pf : Nat) (lv : Nat → Int) (a b : Option Addr) (L ws : List Int) (c d : Nat) (w : World) (hL : Rd w a (vsInt L)) (hpl : pl < w.heap.size) (hlv : ∀ i, i < 10 → w.cell? ⟨pl, i, none⟩ = some (.int .i64 (lv i))) (hc : w.cell? ⟨pf, 1, none⟩ = some (.slice b ws.length d)) (hw : Rd w b (vsInt ws)) (hm : ws.length = 10) (hl : L.length ≤ 1048576) (hb : ∀ x ∈ L, 0 ≤ x ∧ x < 10) (hne : L ≠ []) :
    Calls Tryz.prog 82 #[.slice a L.length c, .func (.func 83) #[] #[.pointer (some ⟨pl, 0, none⟩), .pointer (some ⟨pf, 0, none⟩)]] w fun e w' => e = .returned (.int .i64 (minG (wcmp lv ws) L)) ∧ Below w.heap.size w w' := by
  have hpos : 0 < L.length := List.length_pos_iff.2 hne
  have HB := hide hb
  have HK : Hid (∀ (u : World) (A B : Nat), Below w.heap.size w u → A < 10 → B < 10 → Calls Tryz.prog 83 #[.int .i64 A, .int .i64 B, .pointer (some ⟨pl, 0, none⟩), .pointer (some ⟨pf, 0, none⟩)] u fun e w' => e = .returned (.int .i64 (wcmp lv ws A B)) ∧ Below w.heap.size w w') := fun u A B hu hA hB =>
    (worstCmp_any pl pf lv b ws d A B u (fun i hi => (hu.cell (p := ⟨pl, i, none⟩) hpl).trans (hlv i hi)) ((hu.cell (p := ⟨pf, 1, none⟩) (lt_of_cell hc)).trans hc) (hw.below hu) hm hA hB).mono fun e w' h => ⟨h.1, after hu h.2⟩
  obtain ⟨ba, oa, z, rfl, hck, HZ⟩ := rdInt_at hL hpos
  have hz := hb z (List.mem_of_getElem? HZ.out)
  rw [Nat.add_zero] at hck
  have HS1 : Hid (minG (wcmp lv ws) (L.take 1) = z) := by
    show _ = _
    have := minG_take (cf := wcmp lv ws) (k := 0) HZ.out
    rw [show (0 : Nat) + 1 = 1 from rfl] at this
    rw [this]
    simp [minG, minGS]
  have hlen1 : ¬ ((L.length : Int) < 1) := by omega
  have HRL := hide hL
  clear hb hne hc hw hm hlv hpl hL
  go_enter Tryz.func82, Tryz.ntmps82
  go_wp2
  go_loopw [5, 6] (fun m i wr => ∃ k : Nat, 1 ≤ k ∧ k ≤ L.length ∧ i = .int .i64 k ∧ m = .int .i64 (minG (wcmp lv ws) (L.take k)) ∧ Below w.heap.size w wr) (fun _ i _ => L.length - (intOf i).toNat)
  case atStart => exact ⟨1, by omega, by omega, rfl, by rw [HS1.out], Below.refl _ _⟩
  case round =>
    obtain ⟨k, hk1, hk, rfl, rfl, hbr⟩ := hrel
    by_cases hlt : k < L.length
    · obtain ⟨ba', oa', x, hb', hcx, HX⟩ := rdInt_at (HRL.out.below hbr) hlt
      simp at hb'
      obtain ⟨rfl, rfl⟩ := hb'
      have hx := HB.out x (List.mem_of_getElem? HX.out)
      have hmm := minG_mem (cf := wcmp lv ws) (L.take k) (fun x hx => HB.out x (List.mem_of_mem_take hx)) (List.ne_nil_of_length_pos (by rw [List.length_take]; omega))
      have HE := hide (minG_take (cf := wcmp lv ws) HX.out)
      obtain ⟨M, hM⟩ : ∃ M, M = minG (wcmp lv ws) (L.take k) := ⟨_, rfl⟩
      rw [← hM] at hmm HE ⊢
      obtain ⟨X, rfl⟩ : ∃ X : Nat, x = X := ⟨x.toNat, by omega⟩
      obtain ⟨M', rfl⟩ : ∃ M' : Nat, M = M' := ⟨M.toNat, by omega⟩
      obtain ⟨Z, hZ⟩ : ∃ Z, Z = wcmp lv ws X M' := ⟨_, rfl⟩
      have HW := hide (HK.out _ X M' hbr (by omega) (by omega))
      rw [← hZ] at HW
      clear hM
      by_cases hcmp : Z < 0
      · have HE2 : Hid (minG (wcmp lv ws) (L.take (k + 1)) = X) := by show _ = _; rw [HE.out, minGS, if_pos (.inr (by simpa [hZ] using hcmp))]
        clear hZ
        go_wp2_with (refine HW.out.mono ?_; rintro e u ⟨rfl, hu⟩; have hcx' : u.cell? ⟨ba, oa + k, none⟩ = some (.int .i64 X) := (rdInt_cell HRL.out hu hlt HX.out))
        exact ⟨⟨k + 1, by omega, by omega, by go_num, by rw [HE2.out], by assumption⟩, by simp [intOf]; omega⟩
      · have HE2 : Hid (minG (wcmp lv ws) (L.take (k + 1)) = M') := by show _ = _; rw [HE.out, minGS, if_neg (by simp [← hZ]; omega)]
        clear hZ
        go_wp2_with (refine HW.out.mono ?_; rintro e u ⟨rfl, hu⟩)
        exact ⟨⟨k + 1, by omega, by omega, by go_num, by rw [HE2.out], by assumption⟩, by simp [intOf]; omega⟩
    · have HE : Hid (L.take k = L) := List.take_of_length_le (by omega)
      go_wp2
      go_ret
      exact ⟨by rw [HE.out]; rfl, by assumption⟩

end Go.Proofs.YtghadfbpcbcpiaaGreat

namespace Go.Proofs.YtghadfbpcbcpiaaGreat
open Go.RowKit

/-- A block that may be cleaned. -/
noncomputable def usd (ps : List ByteArray) (n : Int) (b : Nat) : Bool := !(allClrB (pagesOf ps b)) && !(inB n b)
noncomputable def usedL (ps : List ByteArray) (n : Int) (xs : List (Fin 10)) : List Int := (xs.filter (fun x => usd ps n x.val)).map (fun x => ((x.val : Nat) : Int))
theorem usedL_hit {ps : List ByteArray} {n : Int} (xs : List (Fin 10)) {x : Fin 10} (h : usd ps n x.val = true) : usedL ps n (xs ++ [x]) = usedL ps n xs ++ [((x.val : Nat) : Int)] := by simp [usedL, h]
theorem usedL_miss {ps : List ByteArray} {n : Int} (xs : List (Fin 10)) {x : Fin 10} (h : usd ps n x.val = false) : usedL ps n (xs ++ [x]) = usedL ps n xs := by simp [usedL, h]
theorem usedL_len (ps : List ByteArray) (n : Int) (xs : List (Fin 10)) : (usedL ps n xs).length ≤ xs.length := by
  unfold usedL; rw [List.length_map]; exact List.length_filter_le _ _
theorem usedL_mem {ps : List ByteArray} {n : Int} {xs : List (Fin 10)} {y : Int} (h : y ∈ usedL ps n xs) : ∃ x : Fin 10, x ∈ xs ∧ usd ps n x.val = true ∧ y = ((x.val : Nat) : Int) := by
  simp only [usedL, List.mem_map, List.mem_filter] at h
  obtain ⟨x, ⟨h1, h2⟩, rfl⟩ := h
  exact ⟨x, h1, h2, rfl⟩
theorem usedL_bd {ps : List ByteArray} {n : Int} {xs : List (Fin 10)} {y : Int} (h : y ∈ usedL ps n xs) : 0 ≤ y ∧ y < 10 := by
  obtain ⟨x, -, -, rfl⟩ := usedL_mem h
  have := x.isLt
  omega

/-- What the array 'lives' holds behind the blocks xs. -/
noncomputable def lvL (ps : List ByteArray) (ms : List Int) (n : Int) (xs : List (Fin 10)) (i : Nat) : Int := open Classical in if (∃ x ∈ xs, x.val = i) ∧ usd ps n i = true then ((livesU ms i 6).length : Int) else 0
theorem lvL_nil (ps : List ByteArray) (ms : List Int) (n : Int) (i : Nat) : lvL ps ms n [] i = 0 := by simp [lvL]
theorem lvL_miss {ps : List ByteArray} {ms : List Int} {n : Int} (xs : List (Fin 10)) {x : Fin 10} (h : usd ps n x.val = false) (i : Nat) : lvL ps ms n (xs ++ [x]) i = lvL ps ms n xs i := by
  unfold lvL
  by_cases hi : x.val = i
  · rw [if_neg, if_neg]
    · rintro ⟨-, h2⟩; rw [← hi, h] at h2; cases h2
    · rintro ⟨-, h2⟩; rw [← hi, h] at h2; cases h2
  · congr 1
    simp only [List.mem_append, List.mem_singleton, eq_iff_iff]
    constructor
    · rintro ⟨⟨y, hy | hy, he⟩, h2⟩
      · exact ⟨⟨y, hy, he⟩, h2⟩
      · rw [hy] at he; exact absurd he hi
    · rintro ⟨⟨y, hy, he⟩, h2⟩
      exact ⟨⟨y, .inl hy, he⟩, h2⟩
theorem lvL_other {ps : List ByteArray} {ms : List Int} {n : Int} (xs : List (Fin 10)) {x : Fin 10} {i : Nat} (hi : x.val ≠ i) : lvL ps ms n (xs ++ [x]) i = lvL ps ms n xs i := by
  unfold lvL
  congr 1
  simp only [List.mem_append, List.mem_singleton, eq_iff_iff]
  constructor
  · rintro ⟨⟨y, hy | hy, he⟩, h2⟩
    · exact ⟨⟨y, hy, he⟩, h2⟩
    · rw [hy] at he; exact absurd he hi
  · rintro ⟨⟨y, hy, he⟩, h2⟩
    exact ⟨⟨y, .inl hy, he⟩, h2⟩
theorem lvL_hit {ps : List ByteArray} {ms : List Int} {n : Int} (xs : List (Fin 10)) {x : Fin 10} (h : usd ps n x.val = true) : lvL ps ms n (xs ++ [x]) x.val = ((livesU ms x.val 6).length : Int) := by
  unfold lvL
  rw [if_pos ⟨⟨x, by simp, rfl⟩, h⟩]

theorem wcmp_lt (lv : Nat → Int) (ws : List Int) (A B : Nat) : wcmp lv ws A B < 0 ↔ (lv A < lv B ∨ (lv A = lv B ∧ ws[A]?.getD 0 < ws[B]?.getD 0)) := by
  unfold wcmp orI cmpI
  generalize ws[A]?.getD 0 = p
  generalize ws[B]?.getD 0 = q
  generalize lv A = r
  generalize lv B = s
  repeat' split
  all_goals omega

theorem minG_in {cf : Nat → Nat → Int} : ∀ (L : List Int), (∀ x ∈ L, 0 ≤ x) → L ≠ [] → minG cf L ∈ L := by
  intro L hb hne
  have key : ∀ (L : List Int) (m : Int), (∀ x ∈ L, 0 ≤ x) → L.foldl (minGS cf) m = m ∨ L.foldl (minGS cf) m ∈ L := by
    intro L
    induction L with
    | nil => intro m _; exact .inl rfl
    | cons y L ih =>
      intro m hb
      rw [List.foldl_cons]
      have hs : minGS cf m y = m ∨ minGS cf m y = y := by
        unfold minGS; split
        · exact .inr rfl
        · exact .inl rfl
      rcases ih (minGS cf m y) (fun x hx => hb x (by simp [hx])) with h | h
      · rcases hs with h' | h'
        · exact .inl (h.trans h')
        · exact .inr (by rw [h, h']; simp)
      · exact .inr (by simp [h])
  cases L with
  | nil => exact absurd rfl hne
  | cons y L =>
    unfold minG
    rw [List.foldl_cons]
    have h0 : minGS cf (-1) y = y := by unfold minGS; rw [if_pos (.inl (by decide))]
    rw [h0]
    rcases key L y (fun x hx => hb x (by simp [hx])) with h | h
    · rw [h]; simp
    · simp [h]

/-- Where the next page is the first one of its block, that block is free. -/
theorem next_free {ps : List ByteArray} {ws : List Int} {b : Nat} (_hb : b < 10) (h : nextP ps ws = (b : Int) * 6) : (clr ps b 6).1 = 6 := by
  by_cases hh : ∃ B, B < 10 ∧ hitP ps B
  · classical
    obtain ⟨B, hB, hhit, hmin⟩ : ∃ B, B < 10 ∧ hitP ps B ∧ ∀ b, b < B → ¬ hitP ps b := by
      obtain ⟨B0, hB0, hp0⟩ := hh
      revert hB0 hp0
      refine Nat.strongRecOn (motive := fun B0 => B0 < 10 → hitP ps B0 → ∃ B, B < 10 ∧ hitP ps B ∧ ∀ b, b < B → ¬ hitP ps b) B0 ?_
      intro n ih hn hp
      by_cases hx : ∃ c, c < n ∧ hitP ps c
      · obtain ⟨c, hc, hcp⟩ := hx
        exact ih c hc (by omega) hcp
      · exact ⟨n, hn, hp, fun c hc hcp => hx ⟨c, hc, hcp⟩⟩
    have := nextP_hit (ws := ws) hB hhit hmin
    have hb6 := clr_bd ps B 6
    unfold hitP at hhit
    omega
  · have hno : ∀ b, b < 10 → ¬ hitP ps b := fun b hb hp => hh ⟨b, hb, hp⟩
    have hn := nextP_none (ws := ws) hno
    rw [h] at hn
    by_cases hf : freeB ps 10 = []
    · rw [if_pos hf] at hn; omega
    · rw [if_neg hf] at hn
      have hm : minF ws (freeB ps 10) = b := by omega
      have hmem : ∀ (k : Nat) (y : Int), y ∈ freeB ps k → ∃ c : Nat, y = c ∧ (clr ps c 6).1 = 6 := by
        intro k
        induction k with
        | zero => intro y hy; simp [freeB] at hy
        | succ k ih =>
          intro y hy
          unfold freeB at hy
          split at hy
          · next hk =>
            rcases List.mem_append.1 hy with hy | hy
            · exact ih y hy
            · exact ⟨k, by simpa using hy, hk⟩
          · exact ih y hy
      have hin : minF ws (freeB ps 10) ∈ freeB ps 10 := by
        have key : ∀ (L : List Int) (m : Int), L.foldl (minS ws) m = m ∨ L.foldl (minS ws) m ∈ L := by
          intro L
          induction L with
          | nil => intro m; exact .inl rfl
          | cons y L ih =>
            intro m
            rw [List.foldl_cons]
            have hs : minS ws m y = m ∨ minS ws m y = y := by
              unfold minS; split
              · exact .inr rfl
              · exact .inl rfl
            rcases ih (minS ws m y) with h | h
            · rcases hs with h' | h'
              · exact .inl (h.trans h')
              · exact .inr (by rw [h, h']; simp)
            · exact .inr (by simp [h])
        rcases key (freeB ps 10) (-1) with h' | h'
        · have : minF ws (freeB ps 10) = -1 := h'
          omega
        · exact h'
      rw [hm] at hin
      obtain ⟨c, hc, hcl⟩ := hmem 10 _ hin
      obtain rfl : b = c := by omega
      exact hcl

theorem allClr_clr {ps : List ByteArray} {b : Nat} (hl : ps.length = 60) (hb : b < 10) : allClrB (pagesOf ps b) = true ↔ (clr ps b 6).1 = 6 := by
  have h1 := clr_all ps b 6
  rw [show ((6 : Nat) : Int) = 6 from rfl] at h1
  rw [h1]
  have hiff : allClrB (pagesOf ps b) = true ↔ AllClr (pagesOf ps b) := by
    constructor
    · intro h
      by_cases hc : AllClr (pagesOf ps b)
      · exact hc
      · rw [allClrB_false hc] at h; cases h
    · exact allClrB_true
  rw [hiff]
  unfold AllClr
  constructor
  · intro h j hj
    have hj' : j < (pagesOf ps b).length := by rw [pagesOf_len hl hb]; exact hj
    have e := pagesOf_at (ps := ps) (B := b) hj
    rw [List.getElem?_eq_getElem hj'] at e
    rw [← e]
    exact h _ (List.getElem_mem hj')
  · intro h x hx
    obtain ⟨j, hj, rfl⟩ := List.mem_iff_getElem.1 hx
    rw [pagesOf_len hl hb] at hj
    have e := pagesOf_at (ps := ps) (B := b) hj
    have := h j hj
    rw [← e, List.getElem?_eq_getElem (by rw [pagesOf_len hl hb]; exact hj)] at this
    exact this

theorem usd_iff {ps : List ByteArray} {ws : List Int} {b : Nat} (hl : ps.length = 60) (hb : b < 10) : usd ps (nextP ps ws) b = false ↔ ((clr ps b 6).1 = 6 ∨ (b : Int) = openB ps ws) := by
  have hbd := nextP_bd ps ws
  unfold usd
  rw [Bool.and_eq_false_iff, Bool.not_eq_false', Bool.not_eq_false', allClr_clr hl hb]
  unfold inB openB
  rw [decide_eq_true_iff]
  constructor
  · rintro (h | ⟨h1, h2⟩)
    · exact .inl h
    · by_cases h6 : nextP ps ws % 6 = 0
      · exact .inl (next_free (ws := ws) hb (by omega))
      · right
        rw [if_neg (by omega)]
        omega
  · rintro (h | h)
    · exact .inl h
    · right
      split at h
      · omega
      · omega

/-- What the specification has behind k blocks is the first least of the used ones. -/
theorem worstU_min {ps : List ByteArray} {ws ms : List Int} (hl : ps.length = 60) (lv : Nat → Int) (hlv : ∀ b, b < 10 → usd ps (nextP ps ws) b = true → lv b = ((livesU ms b 6).length : Int)) : ∀ k, k ≤ 10 →
    (worstU ps ws ms (openB ps ws) k).1 = minG (wcmp lv ws) (usedL ps (nextP ps ws) (blk k)) ∧ (worstU ps ws ms (openB ps ws) k).2 = if usedL ps (nextP ps ws) (blk k) = [] then 0 else lv (minG (wcmp lv ws) (usedL ps (nextP ps ws) (blk k))).toNat := by
  intro k
  induction k with
  | zero => intro _; simp [worstU, usedL, blk, minG]
  | succ k ih =>
    intro hk
    obtain ⟨i1, i2⟩ := ih (by omega)
    have hk10 : k < 10 := by omega
    rw [blk_succ hk10]
    unfold worstU worstS
    cases hu : usd ps (nextP ps ws) k with
    | false =>
      rw [usedL_miss (x := ⟨k, hk10⟩) (blk k) hu, if_pos ((usd_iff hl hk10).1 hu)]
      exact ⟨i1, i2⟩
    | true =>
      have hn : ¬ ((clr ps k 6).1 = 6 ∨ (k : Int) = openB ps ws) := fun h => by rw [(usd_iff (ws := ws) hl hk10).2 h] at hu; cases hu
      rw [usedL_hit (x := ⟨k, hk10⟩) (blk k) hu, if_neg hn, minG_snoc]
      have hne : usedL ps (nextP ps ws) (blk k) ++ [((k : Nat) : Int)] ≠ [] := by simp
      rw [if_neg hne]
      have e1 : ∀ M : Int, minGS (wcmp lv ws) M (k : Int) = if M < 0 ∨ lv k < lv M.toNat ∨ (lv k = lv M.toNat ∧ ws[k]?.getD 0 < ws[M.toNat]?.getD 0) then (k : Int) else M := by
        intro M
        have hw := wcmp_lt lv ws k M.toNat
        unfold minGS
        simp only [Int.toNat_natCast]
        by_cases hc : M < 0 ∨ wcmp lv ws k M.toNat < 0
        · rw [if_pos hc, if_pos (hc.imp id hw.1)]
        · rw [if_neg hc, if_neg (fun h => hc (h.imp id hw.2))]
      show (if _ then _ else _ : Int × Int).1 = minGS (wcmp lv ws) _ (k : Int) ∧ (if _ then _ else _ : Int × Int).2 = lv (minGS (wcmp lv ws) _ (k : Int)).toNat
      rw [e1, i1, i2, ← hlv k hk10 hu]
      by_cases hnil : usedL ps (nextP ps ws) (blk k) = []
      · rw [hnil]
        have hm1 : minG (wcmp lv ws) [] < 0 := by simp [minG]
        rw [if_pos (.inl hm1), if_pos (.inl hm1)]
        exact ⟨rfl, by simp⟩
      · rw [if_neg hnil]
        obtain ⟨M, hM⟩ : ∃ M, M = minG (wcmp lv ws) (usedL ps (nextP ps ws) (blk k)) := ⟨_, rfl⟩
        rw [← hM] at i1 i2 ⊢
        rw [if_neg hnil] at i2
        by_cases hc : M < 0 ∨ lv k < lv M.toNat ∨ (lv k = lv M.toNat ∧ ws[k]?.getD 0 < ws[M.toNat]?.getD 0)
        · rw [if_pos hc, if_pos hc]
          exact ⟨rfl, by simp⟩
        · rw [if_neg hc, if_neg hc]
          exact ⟨i1, i2⟩

theorem worstB_min {ps : List ByteArray} {ws ms : List Int} (hl : ps.length = 60) :
    worstB ps ws ms = if usedL ps (nextP ps ws) (blk 10) = [] then -1 else if lvL ps ms (nextP ps ws) (blk 10) (minG (wcmp (lvL ps ms (nextP ps ws) (blk 10)) ws) (usedL ps (nextP ps ws) (blk 10))).toNat = 6 then -1 else minG (wcmp (lvL ps ms (nextP ps ws) (blk 10)) ws) (usedL ps (nextP ps ws) (blk 10)) := by
  have hlv : ∀ b, b < 10 → usd ps (nextP ps ws) b = true → lvL ps ms (nextP ps ws) (blk 10) b = ((livesU ms b 6).length : Int) := by
    intro b hb hu
    unfold lvL
    rw [if_pos ⟨⟨⟨b, hb⟩, mem_blk.2 hb, rfl⟩, hu⟩]
  obtain ⟨h1, h2⟩ := worstU_min (ms := ms) hl _ hlv 10 (Nat.le_refl _)
  unfold worstB
  rw [h1, h2]
  by_cases hnil : usedL ps (nextP ps ws) (blk 10) = []
  · rw [if_pos hnil, if_pos hnil, hnil]
    simp [minG]
  · rw [if_neg hnil, if_neg hnil]

end Go.Proofs.YtghadfbpcbcpiaaGreat

namespace Go.Proofs.YtghadfbpcbcpiaaGreat
open Go.RowKit Go.Shelf

attribute [local go_sem] Oper.semAt_some

theorem cells_set {W : World} {p : Nat} {arr : Array Value} {t : TypeId} (h : W.heap[p]? = some (.cells arr t (0, 0))) (i : Nat) (v : Value) : (W.setCell ⟨p, i, none⟩ v).heap[p]? = some (.cells (arr.setIfInBounds i v) t (0, 0)) := by
  obtain ⟨hlt, hk⟩ := Array.getElem?_eq_some_iff.1 h
  show (W.heap.modify p _)[p]? = _
  rw [Array.getElem?_eq_getElem (by rw [Array.size_modify]; exact hlt), Array.getElem_modify_self, hk]
  rfl
theorem cells_cell {W : World} {p : Nat} {arr : Array Value} {t : TypeId} (h : W.heap[p]? = some (.cells arr t (0, 0))) {i : Nat} {v : Value} (hi : arr[i]? = some v) : W.cell? ⟨p, i, none⟩ = some v := by simp [World.cell?, h, hi]
theorem cells_frozen {W : World} {p : Nat} {arr : Array Value} {t : TypeId} (h : W.heap[p]? = some (.cells arr t (0, 0))) (i : Nat) : W.frozen? ⟨p, i, none⟩ = false := by simp [World.frozen?, h]
theorem cells_kept {A C : World} {row : Option Nat} {p : Nat} {arr : Array Value} {t : TypeId} (h : A.heap[p]? = some (.cells arr t (0, 0))) (hg : A.grownBy C row) (hr : ∀ r, row = some r → ∃ o : Obj, A.heap[r]? = some o ∧ o.isCells = false) : C.heap[p]? = some (.cells arr t (0, 0)) := by
  refine (hg.block p (Array.getElem?_eq_some_iff.1 h).1 (fun e => ?_)).trans h
  obtain ⟨o, ho, hc⟩ := hr p e.symm
  rw [h] at ho; cases ho; cases hc
theorem cells_app {W w1 : World} {Bf p N0 size k : Nat} {v v' : Value} {arr : Array Value} {t e : TypeId} {xs : List Value} {tmp : Obj} (h : W.heap[p]? = some (.cells arr t (0, 0))) (hp : p < N0) (hr : W.ownsRow N0 e size v k xs) (hgrow : (W.alloc tmp).grownBy w1 v.ownBlock) (hne : Bf ≠ p) : (w1.setCell ⟨Bf, 0, none⟩ v').heap[p]? = some (.cells arr t (0, 0)) := by
  have hl := (Array.getElem?_eq_some_iff.1 h).1
  rw [heap_setCell_other w1 ⟨Bf, 0, none⟩ p v' (fun e => hne e.symm), hgrow.block p (by simp; omega) (fun e => by have := (hr.lt p e.symm).1; omega), Below.heap_alloc W _ p hl]
  exact h
theorem keeps_below {B : Nat} {W W' : World} (h : Below W.heap.size W W') : KeepsFrom B W W' :=
  ⟨h.size, fun k _ _ hk _ => (h.block k (Array.getElem?_eq_some_iff.1 hk).1).trans hk⟩

/-- The array 'lives' at block p. -/
def LvA (W : World) (p : Nat) (lv : Nat → Int) : Prop := ∃ arr : Array Value, W.heap[p]? = some (.cells arr 101 (0, 0)) ∧ arr.size = 10 ∧ ∀ i, i < 10 → arr[i]? = some (.int .i64 (lv i))

/-- What holds between two blocks. -/
def WorI (ps : List ByteArray) (ms : List Int) (n : Int) (w : World) (N0 B0 B1 Bl Bu Bn : Nat) (F0 : Array Value) (x y : Value) (pre : List (Fin 10)) (W : World) : Prop :=
  ((∃ v, Boxed W Bu 23 v ∧ W.ownsRow N0 3 1 v (usedL ps n pre).length (vsInt (usedL ps n pre)) ∧ True) ∧ W.heap[Bn]? = some (.cells #[x, y] 30 (0, 0)) ∧ W.heap[B0]? = some (.cells F0 32 (0, 0)) ∧ Boxed W B1 3 (.int .i64 n) ∧ LvA W Bl (lvL ps ms n pre)) ∧ Below w.heap.size w W

theorem worI_own (ps : List ByteArray) (ms : List Int) (n : Int) (w : World) (N0 B0 B1 Bl Bu Bn : Nat) (F0 : Array Value) (x y : Value) (B : Nat) (hB : w.heap.size ≤ B) : OwnFrom B (WorI ps ms n w N0 B0 B1 Bl Bu Bn F0 x y) := by
  refine OwnFrom.and (Own.from ?_ _) (ownFrom_below (Nat.le_refl _) hB)
  intro s A C row hs hg hr
  obtain ⟨h1, h2, h3, h4, arr, h5, h6⟩ := hs
  exact ⟨(holdsRow_own N0 Bu 23 3 1 (fun pre => (usedL ps n pre).length) (fun pre => vsInt (usedL ps n pre)) (fun _ _ => True)) s A C row h1 hg hr, cells_kept h2 hg hr, cells_kept h3 hg hr, cells_kept h4 hg hr, arr, cells_kept h5 hg hr, h6⟩

theorem lv_set {arr : Array Value} {ps : List ByteArray} {ms : List Int} {n : Int} {pre : List (Fin 10)} {x : Fin 10} (hsz : arr.size = 10) (harr : ∀ i, i < 10 → arr[i]? = some (.int .i64 (lvL ps ms n pre i))) (hu : usd ps n x.val = true) : ∀ i, i < 10 → (arr.setIfInBounds x.val (.int .i64 ((livesU ms x.val 6).length : Int)))[i]? = some (.int .i64 (lvL ps ms n (pre ++ [x]) i)) := by
  intro i hi
  by_cases h : x.val = i
  · subst h
    rw [lvL_hit pre hu]
    simp [hsz]
  · rw [lvL_other pre h, Array.getElem?_setIfInBounds_ne h]
    exact harr i hi

theorem worI_miss {ps : List ByteArray} {ms : List Int} {n : Int} {w : World} {N0 B0 B1 Bl Bu Bn : Nat} {F0 : Array Value} {x y : Value} {pre : List (Fin 10)} {z : Fin 10} {W : World} (h : WorI ps ms n w N0 B0 B1 Bl Bu Bn F0 x y pre W) (hu : usd ps n z.val = false) : WorI ps ms n w N0 B0 B1 Bl Bu Bn F0 x y (pre ++ [z]) W := by
  obtain ⟨⟨⟨v, hv, hrow, -⟩, h2, h3, h4, arr, h5, h6, h7⟩, hB⟩ := h
  exact ⟨⟨⟨v, hv, by rw [usedL_miss pre hu]; exact hrow, trivial⟩, h2, h3, h4, arr, h5, h6, fun i hi => by rw [lvL_miss pre hu]; exact h7 i hi⟩, hB⟩

/-- The lives of a block are counted, and noted. -/
theorem worI_step {W u1 : World} {Bl Bu Bn B0 B1 N0 n0 k : Nat} {v z : Value} {arr F0 G0 : Array Value} {t : TypeId} {xs : List Value} {n : Value} (i : Nat) (hb : Below W.heap.size W u1) (hv : Boxed W Bu 23 v) (hrow : W.ownsRow N0 3 1 v k xs) (hbn : W.heap[Bn]? = some (.cells G0 30 (0, 0))) (hb0 : W.heap[B0]? = some (.cells F0 t (0, 0))) (hb1 : Boxed W B1 3 n) (hbl : W.heap[Bl]? = some (.cells arr 101 (0, 0)))
    (hN : Bl < N0) (hn0 : n0 ≤ W.heap.size) (hnl : n0 ≤ Bl) (hu : Bu ≠ Bl) (h1 : Bn ≠ Bl) (h2 : B0 ≠ Bl) (h3 : B1 ≠ Bl) :
    ∃ U2, U2 = u1.setCell ⟨Bl, i, none⟩ z ∧ Boxed U2 Bu 23 v ∧ U2.ownsRow N0 3 1 v k xs ∧ U2.heap[Bn]? = some (.cells G0 30 (0, 0)) ∧ U2.heap[B0]? = some (.cells F0 t (0, 0)) ∧ Boxed U2 B1 3 n ∧ U2.heap[Bl]? = some (.cells (arr.setIfInBounds i z) 101 (0, 0)) ∧ Below n0 W U2 ∧ (∀ B, KeepsFrom B W U2) ∧ W.heap.size ≤ U2.heap.size := by
  have kp : ∀ {p : Nat} {o : Obj}, W.heap[p]? = some o → p ≠ Bl → (u1.setCell ⟨Bl, i, none⟩ z).heap[p]? = some o := fun {p o} h hne =>
    (heap_setCell_other u1 ⟨Bl, i, none⟩ p z (fun e => hne e)).trans ((hb.block p (Array.getElem?_eq_some_iff.1 h).1).trans h)
  have hbU : Below n0 W (u1.setCell ⟨Bl, i, none⟩ z) := (hb.mono hn0).setCell (p := ⟨Bl, i, none⟩) hnl z
  exact ⟨_, rfl, kp hv hu, ownsRow_setCell_below (owns_below hrow hb) hN z, kp hbn h1, kp hb0 h2, kp hb1 h3, cells_set ((hb.block Bl (Array.getElem?_eq_some_iff.1 hbl).1).trans hbl) i z, hbU, fun B => (keeps_below hb).trans ((KeepsOthers.setCell u1 _ _).from B), hbU.size⟩

set_option maxRecDepth 100000 in
set_option maxHeartbeats 12000000 in
theorem implWorstOf_ok (a b e0 : Option Addr) (ps : List ByteArray) (ws : List Int) (c d f : Nat) (q : Int) (w : World) (hp : Rd w a (vsString ps)) (hw : Rd w b (vsInt ws)) (hms : Rd w e0 (vsInt (mMap ps))) (hok : chipOkP ps ws) (hcap : 60 ≤ c) :
    Calls Tryz.prog 53 #[.agg #[.slice a ps.length c, .slice b ws.length d, .slice e0 (mMap ps).length f, .int .i64 q]] w fun e w' => e = .returned (.int .i64 (worstB ps ws (mMap ps))) ∧ Below w.heap.size w w' := by
  obtain ⟨i0, hi, hz0, hz1, hz2⟩ := info_parts infoInt
  have hmf : ∀ (fn : Fn) (first cap : Array Value) (w : World), (Instr.makeFunc fn first cap).run Tryz.prog w = .ok (.func fn first cap) w := fun _ _ _ _ => rfl
  obtain ⟨R, hR⟩ : ∃ R, R = worstB ps ws (mMap ps) := ⟨_, rfl⟩
  rw [← hR]
  obtain ⟨n, hn⟩ : ∃ n, n = nextP ps ws := ⟨_, rfl⟩
  have hnb := nextP_bd ps ws
  have HR : Hid (R = worstB ps ws (mMap ps)) := hR
  clear hR
  have HRM := hide (HR.out.trans (worstB_min (ms := mMap ps) hok.1))
  rw [← hn] at HRM hnb
  obtain ⟨ba, oa, rfl, -⟩ := rd_at (k := 0) hp (by have := hok.1; simp; omega)
  obtain ⟨W1, hW1⟩ : ∃ W1, W1 = w.alloc (Obj.cells #[.slice (some ⟨ba, oa, none⟩) ps.length c, .slice b ws.length d, .slice e0 (mMap ps).length f, .int .i64 q] 32) := ⟨_, rfl⟩
  have hs1 : W1.heap.size = w.heap.size + 1 := by rw [hW1]; simp
  have hbW1 : Below w.heap.size w W1 := by rw [hW1]; exact (Below.refl _ _).alloc (Nat.le_refl _) _
  have f0 : W1.heap[w.heap.size]? = some (.cells #[.slice (some ⟨ba, oa, none⟩) ps.length c, .slice b ws.length d, .slice e0 (mMap ps).length f, .int .i64 q] 32 (0, 0)) := by rw [hW1]; exact World.alloc_heap_new w _
  have HNX := hide (implNext_ok (some ⟨ba, oa, none⟩) b ps ws c d W1 (hp.below hbW1) (hw.below hbW1) hok hcap)
  rw [← hn] at HNX
  have x0 := cells_cell f0 (i := 0) (v := .slice (some ⟨ba, oa, none⟩) ps.length c) rfl
  have x1 := cells_cell f0 (i := 1) (v := .slice b ws.length d) rfl
  have HF0 := hide f0
  have HP := hide hp
  have HW := hide hw
  have HMS := hide hms
  have HOK := hide hok
  have HL := hide hok.1
  have hl60 : ps.length ≤ 60 := by have := hok.1; omega
  clear hp hw hms hok f0 hn
  refine (callsIn_wide (n := 3)).1 ?_
  refine callsIn_of_wp_marks Tryz.func53 rfl trivial ?_ rfl
  simp only [Tryz.ntmps53, List.size_toArray, List.length_cons, List.length_nil, Nat.reduceAdd, Nat.reduceSub, Array.replicate_succ, Array.replicate_zero, List.push_toArray, List.append_toArray, List.nil_append, List.cons_append]
  gi_wp2_with (rw [← hW1]; clear hW1)
  refine ⟨trivial, ?_⟩
  refine (callsIn_wide.2 HNX.out).mono ?_
  rintro e u ⟨rfl, hbu⟩
  obtain ⟨A1, hA1⟩ : ∃ A, A = u.alloc (Obj.cells #[.int .i64 n] 3) := ⟨_, rfl⟩
  obtain ⟨A2, hA2⟩ : ∃ A, A = A1.alloc (Obj.cells #[.int .i64 0, .int .i64 0, .int .i64 0, .int .i64 0, .int .i64 0, .int .i64 0, .int .i64 0, .int .i64 0, .int .i64 0, .int .i64 0] 101) := ⟨_, rfl⟩
  obtain ⟨A3, hA3⟩ : ∃ A, A = A2.alloc (Obj.cells #[.slice none 0 0] 23) := ⟨_, rfl⟩
  obtain ⟨V, hV⟩ : ∃ V, V = A3.alloc (Obj.cells #[.slice (some ⟨ba, oa, none⟩) ps.length c, .slice b ws.length d] 30) := ⟨_, rfl⟩
  have hz1' : A1.heap.size = u.heap.size + 1 := by rw [hA1]; simp
  have hz2' : A2.heap.size = u.heap.size + 1 + 1 := by rw [hA2]; simp [hz1']
  have hz3' : A3.heap.size = u.heap.size + 1 + 1 + 1 := by rw [hA3]; simp [hz2']
  have hsV : V.heap.size = u.heap.size + 1 + 1 + 1 + 1 := by rw [hV]; simp [hz3']
  have g1 : Below u.heap.size u A1 := by rw [hA1]; exact (Below.refl _ _).alloc (Nat.le_refl _) _
  have g2 : Below A1.heap.size A1 A2 := by rw [hA2]; exact (Below.refl _ _).alloc (Nat.le_refl _) _
  have g3 : Below A2.heap.size A2 A3 := by rw [hA3]; exact (Below.refl _ _).alloc (Nat.le_refl _) _
  have g4 : Below A3.heap.size A3 V := by rw [hV]; exact (Below.refl _ _).alloc (Nat.le_refl _) _
  have guV : Below u.heap.size u V := after (after (after g1 g2) g3) g4
  have hsu := hbu.size
  have b0 : V.heap[w.heap.size]? = some (.cells #[.slice (some ⟨ba, oa, none⟩) ps.length c, .slice b ws.length d, .slice e0 (mMap ps).length f, .int .i64 q] 32 (0, 0)) := (guV.block _ (by omega)).trans ((hbu.block _ (by omega)).trans HF0.out)
  have b1 : Boxed V u.heap.size 3 (.int .i64 n) := by
    have h1 : Boxed A1 u.heap.size 3 (.int .i64 n) := by rw [hA1]; exact Boxed.new _ _ _
    exact ((after (after g2 g3) g4).block _ (by omega)).trans h1
  have bl : V.heap[u.heap.size + 1]? = some (.cells #[.int .i64 0, .int .i64 0, .int .i64 0, .int .i64 0, .int .i64 0, .int .i64 0, .int .i64 0, .int .i64 0, .int .i64 0, .int .i64 0] 101 (0, 0)) := by
    have h1 := World.alloc_heap_new A1 (Obj.cells #[.int .i64 0, .int .i64 0, .int .i64 0, .int .i64 0, .int .i64 0, .int .i64 0, .int .i64 0, .int .i64 0, .int .i64 0, .int .i64 0] 101)
    rw [← hA2, hz1'] at h1
    exact ((after g3 g4).block _ (by omega)).trans h1
  have bu : Boxed V (u.heap.size + 1 + 1) 23 (.slice none 0 0) := by
    have h1 := Boxed.new A2 23 (.slice none 0 0)
    rw [← hA3, hz2'] at h1
    exact (g4.block _ (by omega)).trans h1
  have bn : V.heap[u.heap.size + 1 + 1 + 1]? = some (.cells #[.slice (some ⟨ba, oa, none⟩) ps.length c, .slice b ws.length d] 30 (0, 0)) := by
    have h1 := World.alloc_heap_new A3 (Obj.cells #[.slice (some ⟨ba, oa, none⟩) ps.length c, .slice b ws.length d] 30)
    rw [← hV, hz3'] at h1
    exact h1
  have hbV : Below w.heap.size w V := after (after hbW1 hbu) guV
  have y0 : A3.cell? ⟨w.heap.size, 0, none⟩ = some (.slice (some ⟨ba, oa, none⟩) ps.length c) := ((after (after g1 g2) g3).cell (p := ⟨w.heap.size, 0, none⟩) (show w.heap.size < u.heap.size by omega)).trans ((hbu.cell (p := ⟨w.heap.size, 0, none⟩) (show w.heap.size < W1.heap.size by omega)).trans x0)
  have y1 : A3.cell? ⟨w.heap.size, 1, none⟩ = some (.slice b ws.length d) := ((after (after g1 g2) g3).cell (p := ⟨w.heap.size, 1, none⟩) (show w.heap.size < u.heap.size by omega)).trans ((hbu.cell (p := ⟨w.heap.size, 1, none⟩) (show w.heap.size < W1.heap.size by omega)).trans x1)
  have HST := hide (blocks_stops (3 - 1) (by decide) (u.heap.size + 1 + 1 + 1) w.heap.size ba oa b ps ws c d V bn (HP.out.below hbV) (HW.out.below hbV) HOK.out hcap)
  have HBO := hide (blocksOf_any (some ⟨ba, oa, none⟩) b ps.length ws.length c d A3)
  rw [← hV, hz3'] at HBO
  have HBV := hide hbV
  clear x0 x1 HF0 HNX g1 g2 g3 g4 guV hbu hbV
  gi_wp2_with (first | (rw [← hA1, ← hA2, ← hA3]; clear hA1 hA2 hA3) | (refine ⟨trivial, ?_⟩; gi_at_call 80; refine (callsIn_wide.2 HBO.out).mono ?_; rintro e u1 ⟨rfl, hu⟩; have hu' := hu.symm; subst hu') | (gi_at_call 80; refine (callsIn_wide.2 HBO.out).mono ?_; rintro e u1 ⟨rfl, hu⟩; have hu' := hu.symm; subst hu'))
  rw [← hV]
  clear hV HBO hu y0 y1
  have hlv0 : LvA V (u.heap.size + 1) (lvL ps (mMap ps) n []) := by
    refine ⟨_, bl, rfl, fun i hi => ?_⟩
    rw [lvL_nil]
    match i, hi with
    | 0, _ => rfl
    | 1, _ => rfl
    | 2, _ => rfl
    | 3, _ => rfl
    | 4, _ => rfl
    | 5, _ => rfl
    | 6, _ => rfl
    | 7, _ => rfl
    | 8, _ => rfl
    | 9, _ => rfl
  refine wpIn_rangeFunc_ownG (F := Fence.wide) (n := 3) rfl (by decide) (gf := 98) (lb := #[.pointer (some ⟨u.heap.size + 1 + 1 + 1, 0, none⟩)]) rfl trivial (enters_of Tryz.func98 (by kernel_rfl) rfl)
    HST.out kpB_t (kpB_b (by omega) (by omega)) (Below.refl _ _) (fun _ => rfl)
    (WorI ps (mMap ps) n w V.heap.size w.heap.size u.heap.size (u.heap.size + 1) (u.heap.size + 1 + 1) (u.heap.size + 1 + 1 + 1) #[.slice (some ⟨ba, oa, none⟩) ps.length c, .slice b ws.length d, .slice e0 (mMap ps).length f, .int .i64 q] (.slice (some ⟨ba, oa, none⟩) ps.length c) (.slice b ws.length d)) (fun _ _ _ => False)
    (worI_own ps _ n w _ _ _ _ _ _ _ _ _ _ (by omega)) (fun _ _ _ _ _ hs _ _ => hs)
    ⟨⟨⟨_, bu, World.ownsRow_nil _ _ _ _, trivial⟩, bn, b0, b1, hlv0⟩, HBV.out⟩
    (fun x => { tmps := #[.agg #[.slice (some ⟨ba, oa, none⟩) ps.length c, .slice b ws.length d, .slice e0 (mMap ps).length f, .int .i64 q], .pointer (some ⟨w.heap.size, 0, none⟩), .int .i64 0, .pointer (some ⟨u.heap.size, 0, none⟩), .pointer (some ⟨u.heap.size + 1, 0, none⟩), .pointer (some ⟨u.heap.size + 1 + 1, 0, none⟩), .int .i64 ((x.val : Nat) : Int), .slice (some ⟨ba, oa + x.val * 6, none⟩) 6 (c - x.val * 6), undef, .pointer (some ⟨w.heap.size, 0, none⟩), .agg #[.slice (some ⟨ba, oa, none⟩) ps.length c, .slice b ws.length d], .int .i64 n, .pointer (some ⟨w.heap.size, 0, none⟩), .agg #[.slice (some ⟨ba, oa, none⟩) ps.length c, .slice b ws.length d], .func (.func 98) #[] #[.pointer (some ⟨u.heap.size + 1 + 1 + 1, 0, none⟩)], .int .i64 ((x.val : Nat) : Int), .slice (some ⟨ba, oa + x.val * 6, none⟩) 6 (c - x.val * 6), undef, undef, undef, undef, undef, undef, undef, undef, undef, undef, undef, undef, undef, undef, undef, undef, undef, undef, undef, undef, undef, undef, undef, undef, undef, undef, undef, undef, undef], defers := [] }) ?assign ?body ?done ?stop
  case assign =>
    intro l x W K hK
    simp only [encB]
    gi_wp2
    exact hK
  case body =>
    rintro l pre x W hI hlt
    obtain ⟨⟨⟨v, hv, hrow, -⟩, hbn, hb0, hb1, arr, hbl, hsz, harr⟩, hB⟩ := id hI
    have HI := hide hI
    have hx10 := x.isLt
    have HAC := hide (allClear_any (some ⟨ba, oa + x.val * 6, none⟩) (pagesOf ps x.val) (c - x.val * 6) W (rd_pages x.val (HP.out.below hB)) (by rw [pagesOf_len HL.out x.isLt]; decide))
    rw [pagesOf_len HL.out x.isLt] at HAC
    have HIN := hide (inBlock_any n ((x.val : Nat) : Int) W hnb.1 hnb.2 (by omega) (by omega))
    have k1 := hb1.cell
    clear bl bu bn b0 b1 HST hlv0 hI
    cases hcl : allClrB (pagesOf ps x.val) with
    | true =>
      have HE := hide (worI_miss (z := x) HI.out (by simp [usd, hcl]))
      rw [hcl] at HAC
      clear hcl HI hv hrow hbn hb0 hb1 hbl harr
      gi_wp2_with (first
        | (refine ⟨trivial, ?_⟩; gi_at_call 81; refine (CallsIn.inRound l (callsIn_wide.2 HAC.out)).mono ?_; rintro e u ⟨rfl, hu⟩; have hu' := hu.symm; subst hu'; clear HAC)
        | (gi_at_call 81; refine (CallsIn.inRound l (callsIn_wide.2 HAC.out)).mono ?_; rintro e u ⟨rfl, hu⟩; have hu' := hu.symm; subst hu'; clear HAC))
      refine ⟨trivial, ?_⟩
      gi_wp2
      exact ⟨KeepsFrom.refl _ _, KpB.refl _ _ _, HE.out⟩
    | false =>
      rw [hcl] at HAC
      cases hin : inB n ((x.val : Nat) : Int) with
      | true =>
        have HE := hide (worI_miss (z := x) HI.out (by simp [usd, hin]))
        rw [hin] at HIN
        clear hcl hin HI hv hrow hbn hb0 hb1 hbl harr
        gi_wp2_with (first
        | (refine ⟨trivial, ?_⟩; gi_at_call 81; refine (CallsIn.inRound l (callsIn_wide.2 HAC.out)).mono ?_; rintro e u ⟨rfl, hu⟩; have hu' := hu.symm; subst hu'; clear HAC)
        | (gi_at_call 81; refine (CallsIn.inRound l (callsIn_wide.2 HAC.out)).mono ?_; rintro e u ⟨rfl, hu⟩; have hu' := hu.symm; subst hu'; clear HAC)
        | (refine ⟨trivial, ?_⟩; gi_at_call 77; refine (CallsIn.inRound l (callsIn_wide.2 HIN.out)).mono ?_; rintro e u ⟨rfl, hu⟩; have hu' := hu.symm; subst hu'; clear HIN)
        | (gi_at_call 77; refine (CallsIn.inRound l (callsIn_wide.2 HIN.out)).mono ?_; rintro e u ⟨rfl, hu⟩; have hu' := hu.symm; subst hu'; clear HIN))
        exact ⟨KeepsFrom.refl _ _, KpB.refl _ _ _, HE.out⟩
      | false =>
        have hus : usd ps n x.val = true := by simp [usd, hcl, hin]
        rw [hin] at HIN
        have HLI := hide (livesIn_any e0 ps f x.val W (HMS.out.below hB) hx10)
        have z2 := cells_cell hb0 (i := 2) (v := .slice e0 (mMap ps).length f) rfl
        have hlW := hv.lt
        have hpl := usedL_len ps n pre
        have HARR := hide (lv_set hsz harr hus)
        have HUL := hide (usedL_hit (ps := ps) (n := n) pre hus)
        have hax := harr x.val hx10
        have HST2 : Hid (∀ (u1 : World), Below W.heap.size W u1 → _) := fun u1 hb => worI_step (z := .int .i64 ((livesU (mMap ps) x.val 6).length : Int)) (n0 := w.heap.size) x.val hb hv hrow hbn hb0 hb1 hbl (show _ < V.heap.size by omega) hB.size (by omega) (by omega) (by omega) (by omega) (by omega)
        have HBLK := hide hbl
        have HBN := hide hbn
        clear hcl hin hus HI hv hrow hbn hb0 hb1 hbl harr
        gi_wp2_with (first
          | (rw [← hU2]; clear hU2 k3 k4)
          | (refine ⟨trivial, ?_⟩; gi_at_call 81; refine (CallsIn.inRound l (callsIn_wide.2 HAC.out)).mono ?_; rintro e u ⟨rfl, hu⟩; have hu' := hu.symm; subst hu'; clear HAC)
          | (gi_at_call 81; refine (CallsIn.inRound l (callsIn_wide.2 HAC.out)).mono ?_; rintro e u ⟨rfl, hu⟩; have hu' := hu.symm; subst hu'; clear HAC)
          | (refine ⟨trivial, ?_⟩; gi_at_call 77; refine (CallsIn.inRound l (callsIn_wide.2 HIN.out)).mono ?_; rintro e u ⟨rfl, hu⟩; have hu' := hu.symm; subst hu'; clear HIN)
          | (gi_at_call 77; refine (CallsIn.inRound l (callsIn_wide.2 HIN.out)).mono ?_; rintro e u ⟨rfl, hu⟩; have hu' := hu.symm; subst hu'; clear HIN)
          | (refine ⟨trivial, ?_⟩; (gi_at_call 76; refine (CallsIn.inRound l (callsIn_wide.2 HLI.out)).mono ?_; rintro e u1 ⟨v1, rfl, hown1, hbu1⟩; obtain ⟨fa, fc, hv1⟩ := owns_shape hown1; subst hv1; have k3 : u1.cell? ⟨u.heap.size + 1, x.val, none⟩ = some (.int .i64 (lvL ps (mMap ps) n pre x.val)) := cells_cell ((hbu1.block (u.heap.size + 1) (by omega)).trans HBLK.out) hax; have k4 : u1.frozen? ⟨u.heap.size + 1, x.val, none⟩ = false := cells_frozen ((hbu1.block (u.heap.size + 1) (by omega)).trans HBLK.out) x.val; obtain ⟨U2, hU2, hvU, hrowU, hbnU, hb0U, hb1U, hblU, hBU, hKU, hszU⟩ := HST2.out u1 hbu1; have HRU := hide (And.intro hvU hrowU); have HHU := hide (And.intro hbnU (And.intro hb0U (And.intro hb1U hblU))); have HBU := hide hBU; have HKU := hide hKU; have hcU := hvU.cell; clear hown1 hbu1 hbnU hb0U hb1U hblU hBU hKU hvU hrowU HLI))
          | (gi_at_call 76; refine (CallsIn.inRound l (callsIn_wide.2 HLI.out)).mono ?_; rintro e u1 ⟨v1, rfl, hown1, hbu1⟩; obtain ⟨fa, fc, hv1⟩ := owns_shape hown1; subst hv1; have k3 : u1.cell? ⟨u.heap.size + 1, x.val, none⟩ = some (.int .i64 (lvL ps (mMap ps) n pre x.val)) := cells_cell ((hbu1.block (u.heap.size + 1) (by omega)).trans HBLK.out) hax; have k4 : u1.frozen? ⟨u.heap.size + 1, x.val, none⟩ = false := cells_frozen ((hbu1.block (u.heap.size + 1) (by omega)).trans HBLK.out) x.val; obtain ⟨U2, hU2, hvU, hrowU, hbnU, hb0U, hb1U, hblU, hBU, hKU, hszU⟩ := HST2.out u1 hbu1; have HRU := hide (And.intro hvU hrowU); have HHU := hide (And.intro hbnU (And.intro hb0U (And.intro hb1U hblU))); have HBU := hide hBU; have HKU := hide hKU; have hcU := hvU.cell; clear hown1 hbu1 hbnU hb0U hb1U hblU hBU hKU hvU hrowU HLI)
          | (gi_at_builtin; refine wpListIn_append_own _ rfl _ _ 23 rfl V.heap.size 3 i0 (.int .i64 0) 1 8 Tryz.underlying23 hi hz0 hz1 hz2 rfl (by decide) _ _ _ rfl (HRU.out.2.alloc _) ⟨U2.heap.size, 0, none⟩ 1 1 [.int .i64 ((x.val : Nat) : Int)] rfl rfl (cell_one_new _ _ _) (by simp [Value.oneCell']) (by unfold maxLen; omega) (by omega) (by simp; omega) ?_; intro v' w1 hown' hgrow _; obtain ⟨g', cap', rfl⟩ := ownsRow_succ hown'; obtain ⟨hv1, hv2, hr2, hk2, hb2⟩ := HRU.out.1.appended (by decide) (owns_mono HRU.out.2 (show w.heap.size ≤ V.heap.size by omega)) (show w.heap.size ≤ U2.heap.size by omega) (by omega) (owns_mono hown' (show w.heap.size ≤ V.heap.size by omega)) hgrow; have hc1 := hv1.cell; have hf1 := hv1.frozen))
        have hbk := cells_app (Bf := u.heap.size + 1 + 1) (v' := .slice (some ⟨g', 0, none⟩) ((usedL ps n pre).length + 1) cap') HHU.out.1 (show _ < V.heap.size by omega) HRU.out.2 hgrow (by omega)
        exact ⟨(HKU.out _).trans (hk2.from _), ⟨HBU.out.trans hb2, hbk.trans HBN.out.symm⟩, ⟨⟨_, hv2, by rw [HUL.out]; simpa using ownsRow_setCell_below hown' (a := ⟨u.heap.size + 1 + 1, 0, none⟩) (show _ < V.heap.size by simp; omega) _, trivial⟩, hbk, cells_app HHU.out.2.1 (show _ < V.heap.size by omega) HRU.out.2 hgrow (by omega), cells_app HHU.out.2.2.1 (show _ < V.heap.size by omega) HRU.out.2 hgrow (by omega), _, cells_app HHU.out.2.2.2 (show _ < V.heap.size by omega) HRU.out.2 hgrow (by omega), by rw [Array.size_setIfInBounds]; exact hsz, HARR.out⟩, hB.trans (HBU.out.trans hb2)⟩
  case done =>
    rintro D ys W hD rfl ⟨⟨⟨v, hv, hrow, -⟩, hbn, hb0, hb1, arr, hbl, hsz, harr⟩, hB⟩ hK
    have hlv : ∀ i, i < 10 → W.cell? ⟨u.heap.size + 1, i, none⟩ = some (.int .i64 (lvL ps (mMap ps) n (blk 10) i)) := fun i hi => cells_cell hbl (harr i hi)
    have k1 : W.cell? ⟨w.heap.size, 1, none⟩ = some (.slice b ws.length d) := cells_cell hb0 rfl
    have hDW : D < W.heap.size := (Array.getElem?_eq_some_iff.1 hK).1
    have hlW : u.heap.size + 1 < W.heap.size := (Array.getElem?_eq_some_iff.1 hbl).1
    have hul := usedL_len ps n (blk 10)
    rw [blk_len (Nat.le_refl _)] at hul
    obtain ⟨fa, fc, rfl⟩ := owns_shape hrow
    have hcv := hv.cell
    have HLV := hide hlv
    clear bl bu bn b0 b1 HST hlv0 hbn hb0 hb1 hbl harr hlv
    by_cases hnil : usedL ps n (blk 10) = []
    · have HRV : Hid (R = -1) := by show _ = _; rw [HRM.out, if_pos hnil]
      rw [hnil] at hcv
      clear hrow hv HRM k1 HLV
      gi_wp2
      refine ⟨by simp, .inl ⟨_, _, rfl, run_takeDeferred hK, ?_⟩⟩
      exact ⟨_, results_tmp rfl _ _ _, by rw [HRV.out]; rfl, hB.trans (belowK_b (w := w) (Nat.le_refl _) W D _ _ (by omega) hK rfl rfl)⟩
    · have hbd : ∀ x ∈ usedL ps n (blk 10), 0 ≤ x ∧ x < 10 := fun x hx => usedL_bd hx
      have hmb := minG_mem (cf := wcmp (lvL ps (mMap ps) n (blk 10)) ws) _ hbd hnil
      have hpos : 0 < (usedL ps n (blk 10)).length := List.length_pos_iff.2 hnil
      have HMN := hide (minFunc2_any (u.heap.size + 1) w.heap.size (lvL ps (mMap ps) n (blk 10)) fa b (usedL ps n (blk 10)) ws fc d W (rd_of_own hrow) hlW HLV.out k1 (HW.out.below hB) HOK.out.2.1 (by omega) hbd hnil)
      have HRV := hide (HRM.out.trans (if_neg hnil))
      obtain ⟨M, hM⟩ : ∃ M, M = minG (wcmp (lvL ps (mMap ps) n (blk 10)) ws) (usedL ps n (blk 10)) := ⟨_, rfl⟩
      rw [← hM] at hmb HMN HRV
      obtain ⟨m, rfl⟩ : ∃ m : Nat, M = m := ⟨M.toNat, by omega⟩
      rw [Int.toNat_natCast] at HRV
      have hlz : ¬ (((usedL ps n (blk 10)).length : Int) == 0) = true := by simp; omega
      have hlz' : (((usedL ps n (blk 10)).length : Int) == 0) = false := by simp; omega
      have hlm := HLV.out m (by omega)
      obtain ⟨Z, hZ⟩ : ∃ Z, Z = lvL ps (mMap ps) n (blk 10) m := ⟨_, rfl⟩
      rw [← hZ] at hlm HRV
      clear hnil hrow hv HRM k1 HLV hM hbd hZ
      gi_wp2_with fail
      refine ⟨trivial, ?_⟩
      refine (callsIn_wide.2 HMN.out).mono ?_
      rintro e u1 ⟨rfl, hbu⟩
      have hlm1 := (hbu.cell (p := ⟨u.heap.size + 1, m, none⟩) hlW).trans hlm
      have hK1 : u1.heap[D]? = some (.deferred (some [])) := (hbu.block D hDW).trans hK
      have hB1 := after hB hbu
      clear HMN hlm hbu hcv
      by_cases h6 : Z = 6
      · have HV := hide (HRV.out.trans (if_pos h6))
        subst h6
        clear HRV
        gi_wp2
        refine ⟨by simp, .inl ⟨_, _, rfl, run_takeDeferred hK1, ?_⟩⟩
        exact ⟨_, results_tmp rfl _ _ _, by rw [HV.out]; rfl, hB1.trans (belowK_b (w := w) (Nat.le_refl _) u1 D _ _ (by omega) hK1 rfl rfl)⟩
      · have HV := hide (HRV.out.trans (if_neg h6))
        have h6b : (Z == 6) = false := by simpa using h6
        clear HRV
        gi_wp2
        refine ⟨by simp, .inl ⟨_, _, rfl, run_takeDeferred hK1, ?_⟩⟩
        exact ⟨_, results_tmp rfl _ _ _, by rw [HV.out]; rfl, hB1.trans (belowK_b (w := w) (Nat.le_refl _) u1 D _ _ (by omega) hK1 rfl rfl)⟩
  case stop =>
    rintro D c pre W _ _ h _
    exact h.elim

end Go.Proofs.YtghadfbpcbcpiaaGreat

namespace Go.Proofs.YtghadfbpcbcpiaaGreat
open Go.RowKit

theorem FtlOwn.cap {u : World} {base : Nat} {v : Value} {ps : List ByteArray} {ws ms : List Int} {q : Int} (h : FtlOwn u base v ps ws ms q) : CapOk v := by
  obtain ⟨v1, v2, v3, rfl, h1, h2, h3, -⟩ := h
  intro x a n c hx hs
  subst hs
  simp only [Value.cells, List.mem_cons, List.not_mem_nil, or_false] at hx
  rcases hx with rfl | rfl | rfl | hx
  · exact owns_cap h1
  · exact owns_cap h2
  · exact owns_cap h3
  · cases hx
theorem ftl_caps {a b e0 : Option Addr} {n m k c d f : Nat} {q : Int} (h : CapOk (.agg #[.slice a n c, .slice b m d, .slice e0 k f, .int .i64 q])) : n ≤ c :=
  h _ a n c (by simp [Value.cells]) rfl

end Go.Proofs.YtghadfbpcbcpiaaGreat
