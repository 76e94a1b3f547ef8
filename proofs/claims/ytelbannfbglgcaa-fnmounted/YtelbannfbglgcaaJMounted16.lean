/-
  Contracts of what the program's Worst calls: inBlock, cmp.Or at int, the closure that holds two blocks against each other, slices.MinFunc with it.
  Contract of slices.MinFunc with Worst's closure: the first that is least.
  The plain mathematics of Worst: the first of the used blocks with the fewest Lives, and of those the one that was cleared the least often.
-/
import Derived.Test.YtelbannfbglgcaaJMounted15
import Derived.Deep.RegionHeld
import Derived.Test.YtelbannfbglgcaaJMounted13
namespace Go.Proofs.Ytelbannfbglgcaa
open Go.RowKit

def inB (n b : Int) : Bool := decide (b * 6 ≤ n ∧ n < (b + 1) * 6)

def orI (x y : Int) : Int := if x = 0 then y else x

/-- What the closure answers: of two blocks, by their Lives, then by their wear. -/
def wcmp (lv : Nat → Int) (ws : List Int) (A B : Nat) : Int := orI (cmpI (lv A) (lv B)) (cmpI (ws[A]?.getD 0) (ws[B]?.getD 0))

end Go.Proofs.Ytelbannfbglgcaa

namespace Go.Proofs.Ytelbannfbglgcaa
open Go.RowKit

def minGS (cf : Nat → Nat → Int) (m x : Int) : Int := if m < 0 ∨ cf x.toNat m.toNat < 0 then x else m
def minG (cf : Nat → Nat → Int) (L : List Int) : Int := L.foldl (minGS cf) (-1)
theorem minG_snoc (cf : Nat → Nat → Int) (L : List Int) (x : Int) : minG cf (L ++ [x]) = minGS cf (minG cf L) x := by simp [minG]
theorem minG_take {cf : Nat → Nat → Int} {L : List Int} {k : Nat} {x : Int} (h : L[k]? = some x) : minG cf (L.take (k + 1)) = minGS cf (minG cf (L.take k)) x := by
  rw [List.take_add_one, h]
  exact minG_snoc cf _ x
theorem minG_mem {cf : Nat → Nat → Int} : ∀ (L : List Int), (∀ x ∈ L, 0 ≤ x ∧ x < 10) → L ≠ [] → 0 ≤ minG cf L ∧ minG cf L < 10 := by
  intro L hb hne
  have key : ∀ (L : List Int) (m : Int), (∀ x ∈ L, 0 ≤ x ∧ x < 10) → ((0 ≤ m ∧ m < 10) ∨ L ≠ []) → 0 ≤ L.foldl (minGS cf) m ∧ L.foldl (minGS cf) m < 10 ∨ (m < 0 ∧ L = []) ∨ ¬ (m < 0 ∨ (0 ≤ m ∧ m < 10)) := by
    intro L
    induction L with
    | nil => intro m _ h; rcases h with h | h
             · exact .inl h
             · exact absurd rfl h
    | cons y L ih =>
      intro m hb _
      by_cases hm : m < 0 ∨ (0 ≤ m ∧ m < 10)
      · have hy := hb y (by simp)
        have hs : 0 ≤ minGS cf m y ∧ minGS cf m y < 10 := by
          unfold minGS
          split
          · exact hy
          · next h => omega
        rcases ih (minGS cf m y) (fun x hx => hb x (by simp [hx])) (.inl hs) with h | h | h
        · exact .inl h
        · omega
        · exact absurd (.inr hs) h
      · exact .inr (.inr hm)
  rcases key L (-1) hb (.inr hne) with h | h | h
  · exact h
  · exact absurd h.2 hne
  · exact absurd (.inl (by decide)) h

theorem rdInt_cell {w u : World} {ba oa : Nat} {L : List Int} {k : Nat} {x : Int} (h : Rd w (some ⟨ba, oa, none⟩) (vsInt L)) (hu : Below w.heap.size w u) (hk : k < L.length) (hx : L[k]? = some x) : u.cell? ⟨ba, oa + k, none⟩ = some (.int .i64 x) := by
  obtain ⟨ba', oa', y, hb', hcy, HY⟩ := rdInt_at (h.below hu) hk
  simp at hb'
  obtain ⟨rfl, rfl⟩ := hb'
  have := HY.out
  rw [hx] at this
  cases this
  exact hcy

end Go.Proofs.Ytelbannfbglgcaa

namespace Go.Proofs.Ytelbannfbglgcaa
open Go.RowKit

/-- A block that may be cleaned. -/
noncomputable def usd (ps : List ByteArray) (n : Int) (b : Nat) : Bool := !(allClrB (pagesOf ps b)) && !(inB n b)
noncomputable def usedL (ps : List ByteArray) (n : Int) (xs : List (Fin 10)) : List Int := (xs.filter (fun x => usd ps n x.val)).map (fun x => ((x.val : Nat) : Int))
theorem usedL_hit {ps : List ByteArray} {n : Int} (xs : List (Fin 10)) {x : Fin 10} (h : usd ps n x.val = true) : usedL ps n (xs ++ [x]) = usedL ps n xs ++ [((x.val : Nat) : Int)] := by simp [usedL, h]
theorem usedL_miss {ps : List ByteArray} {n : Int} (xs : List (Fin 10)) {x : Fin 10} (h : usd ps n x.val = false) : usedL ps n (xs ++ [x]) = usedL ps n xs := by simp [usedL, h]
theorem usedL_len (ps : List ByteArray) (n : Int) (xs : List (Fin 10)) : (usedL ps n xs).length ≤ xs.length := by
  unfold usedL; rw [List.length_map]; exact List.length_filter_le _ _
theorem usedL_mem {ps : List ByteArray} {n : Int} {xs : List (Fin 10)} {y : Int} (h : y ∈ usedL ps n xs) : ∃ x : Fin 10, x ∈ xs ∧ usd ps n x.val = true ∧ y = ((x.val : Nat) : Int) := by
  simp only [usedL, List.mem_map, List.mem_filter] at h
  obtain ⟨x, ⟨h1, h2⟩, rfl⟩ := h
  exact ⟨x, h1, h2, rfl⟩
theorem usedL_bd {ps : List ByteArray} {n : Int} {xs : List (Fin 10)} {y : Int} (h : y ∈ usedL ps n xs) : 0 ≤ y ∧ y < 10 := by
  obtain ⟨x, -, -, rfl⟩ := usedL_mem h
  have := x.isLt
  omega

/-- What the array 'lives' holds behind the blocks xs. -/
noncomputable def lvL (ps : List ByteArray) (ms : List Int) (n : Int) (xs : List (Fin 10)) (i : Nat) : Int := open Classical in if (∃ x ∈ xs, x.val = i) ∧ usd ps n i = true then ((livesU ms i 6).length : Int) else 0
theorem lvL_nil (ps : List ByteArray) (ms : List Int) (n : Int) (i : Nat) : lvL ps ms n [] i = 0 := by simp [lvL]
theorem lvL_miss {ps : List ByteArray} {ms : List Int} {n : Int} (xs : List (Fin 10)) {x : Fin 10} (h : usd ps n x.val = false) (i : Nat) : lvL ps ms n (xs ++ [x]) i = lvL ps ms n xs i := by
  unfold lvL
  by_cases hi : x.val = i
  · rw [if_neg, if_neg]
    · rintro ⟨-, h2⟩; rw [← hi, h] at h2; cases h2
    · rintro ⟨-, h2⟩; rw [← hi, h] at h2; cases h2
  · congr 1
    simp only [List.mem_append, List.mem_singleton, eq_iff_iff]
    constructor
    · rintro ⟨⟨y, hy | hy, he⟩, h2⟩
      · exact ⟨⟨y, hy, he⟩, h2⟩
      · rw [hy] at he; exact absurd he hi
    · rintro ⟨⟨y, hy, he⟩, h2⟩
      exact ⟨⟨y, .inl hy, he⟩, h2⟩
theorem lvL_other {ps : List ByteArray} {ms : List Int} {n : Int} (xs : List (Fin 10)) {x : Fin 10} {i : Nat} (hi : x.val ≠ i) : lvL ps ms n (xs ++ [x]) i = lvL ps ms n xs i := by
  unfold lvL
  congr 1
  simp only [List.mem_append, List.mem_singleton, eq_iff_iff]
  constructor
  · rintro ⟨⟨y, hy | hy, he⟩, h2⟩
    · exact ⟨⟨y, hy, he⟩, h2⟩
    · rw [hy] at he; exact absurd he hi
  · rintro ⟨⟨y, hy, he⟩, h2⟩
    exact ⟨⟨y, .inl hy, he⟩, h2⟩
theorem lvL_hit {ps : List ByteArray} {ms : List Int} {n : Int} (xs : List (Fin 10)) {x : Fin 10} (h : usd ps n x.val = true) : lvL ps ms n (xs ++ [x]) x.val = ((livesU ms x.val 6).length : Int) := by
  unfold lvL
  rw [if_pos ⟨⟨x, by simp, rfl⟩, h⟩]

theorem wcmp_lt (lv : Nat → Int) (ws : List Int) (A B : Nat) : wcmp lv ws A B < 0 ↔ (lv A < lv B ∨ (lv A = lv B ∧ ws[A]?.getD 0 < ws[B]?.getD 0)) := by
  unfold wcmp orI cmpI
  generalize ws[A]?.getD 0 = p
  generalize ws[B]?.getD 0 = q
  generalize lv A = r
  generalize lv B = s
  repeat' split
  all_goals omega

theorem minG_in {cf : Nat → Nat → Int} : ∀ (L : List Int), (∀ x ∈ L, 0 ≤ x) → L ≠ [] → minG cf L ∈ L := by
  intro L hb hne
  have key : ∀ (L : List Int) (m : Int), (∀ x ∈ L, 0 ≤ x) → L.foldl (minGS cf) m = m ∨ L.foldl (minGS cf) m ∈ L := by
    intro L
    induction L with
    | nil => intro m _; exact .inl rfl
    | cons y L ih =>
      intro m hb
      rw [List.foldl_cons]
      have hs : minGS cf m y = m ∨ minGS cf m y = y := by
        unfold minGS; split
        · exact .inr rfl
        · exact .inl rfl
      rcases ih (minGS cf m y) (fun x hx => hb x (by simp [hx])) with h | h
      · rcases hs with h' | h'
        · exact .inl (h.trans h')
        · exact .inr (by rw [h, h']; simp)
      · exact .inr (by simp [h])
  cases L with
  | nil => exact absurd rfl hne
  | cons y L =>
    unfold minG
    rw [List.foldl_cons]
    have h0 : minGS cf (-1) y = y := by unfold minGS; rw [if_pos (.inl (by decide))]
    rw [h0]
    rcases key L y (fun x hx => hb x (by simp [hx])) with h | h
    · rw [h]; simp
    · simp [h]

/-- Where the next page is the first one of its block, that block is free. -/
theorem next_free {ps : List ByteArray} {ws : List Int} {b : Nat} (_hb : b < 10) (h : nextP ps ws = (b : Int) * 6) : (clr ps b 6).1 = 6 := by
  by_cases hh : ∃ B, B < 10 ∧ hitP ps B
  · classical
    obtain ⟨B, hB, hhit, hmin⟩ : ∃ B, B < 10 ∧ hitP ps B ∧ ∀ b, b < B → ¬ hitP ps b := by
      obtain ⟨B0, hB0, hp0⟩ := hh
      revert hB0 hp0
      refine Nat.strongRecOn (motive := fun B0 => B0 < 10 → hitP ps B0 → ∃ B, B < 10 ∧ hitP ps B ∧ ∀ b, b < B → ¬ hitP ps b) B0 ?_
      intro n ih hn hp
      by_cases hx : ∃ c, c < n ∧ hitP ps c
      · obtain ⟨c, hc, hcp⟩ := hx
        exact ih c hc (by omega) hcp
      · exact ⟨n, hn, hp, fun c hc hcp => hx ⟨c, hc, hcp⟩⟩
    have := nextP_hit (ws := ws) hB hhit hmin
    have hb6 := clr_bd ps B 6
    unfold hitP at hhit
    omega
  · have hno : ∀ b, b < 10 → ¬ hitP ps b := fun b hb hp => hh ⟨b, hb, hp⟩
    have hn := nextP_none (ws := ws) hno
    rw [h] at hn
    by_cases hf : freeB ps 10 = []
    · rw [if_pos hf] at hn; omega
    · rw [if_neg hf] at hn
      have hm : minF ws (freeB ps 10) = b := by omega
      have hmem : ∀ (k : Nat) (y : Int), y ∈ freeB ps k → ∃ c : Nat, y = c ∧ (clr ps c 6).1 = 6 := by
        intro k
        induction k with
        | zero => intro y hy; simp [freeB] at hy
        | succ k ih =>
          intro y hy
          unfold freeB at hy
          split at hy
          · next hk =>
            rcases List.mem_append.1 hy with hy | hy
            · exact ih y hy
            · exact ⟨k, by simpa using hy, hk⟩
          · exact ih y hy
      have hin : minF ws (freeB ps 10) ∈ freeB ps 10 := by
        have key : ∀ (L : List Int) (m : Int), L.foldl (minS ws) m = m ∨ L.foldl (minS ws) m ∈ L := by
          intro L
          induction L with
          | nil => intro m; exact .inl rfl
          | cons y L ih =>
            intro m
            rw [List.foldl_cons]
            have hs : minS ws m y = m ∨ minS ws m y = y := by
              unfold minS; split
              · exact .inr rfl
              · exact .inl rfl
            rcases ih (minS ws m y) with h | h
            · rcases hs with h' | h'
              · exact .inl (h.trans h')
              · exact .inr (by rw [h, h']; simp)
            · exact .inr (by simp [h])
        rcases key (freeB ps 10) (-1) with h' | h'
        · have : minF ws (freeB ps 10) = -1 := h'
          omega
        · exact h'
      rw [hm] at hin
      obtain ⟨c, hc, hcl⟩ := hmem 10 _ hin
      obtain rfl : b = c := by omega
      exact hcl

theorem allClr_clr {ps : List ByteArray} {b : Nat} (hl : ps.length = 60) (hb : b < 10) : allClrB (pagesOf ps b) = true ↔ (clr ps b 6).1 = 6 := by
  have h1 := clr_all ps b 6
  rw [show ((6 : Nat) : Int) = 6 from rfl] at h1
  rw [h1]
  have hiff : allClrB (pagesOf ps b) = true ↔ AllClr (pagesOf ps b) := by
    constructor
    · intro h
      by_cases hc : AllClr (pagesOf ps b)
      · exact hc
      · rw [allClrB_false hc] at h; cases h
    · exact allClrB_true
  rw [hiff]
  unfold AllClr
  constructor
  · intro h j hj
    have hj' : j < (pagesOf ps b).length := by rw [pagesOf_len hl hb]; exact hj
    have e := pagesOf_at (ps := ps) (B := b) hj
    rw [List.getElem?_eq_getElem hj'] at e
    rw [← e]
    exact h _ (List.getElem_mem hj')
  · intro h x hx
    obtain ⟨j, hj, rfl⟩ := List.mem_iff_getElem.1 hx
    rw [pagesOf_len hl hb] at hj
    have e := pagesOf_at (ps := ps) (B := b) hj
    have := h j hj
    rw [← e, List.getElem?_eq_getElem (by rw [pagesOf_len hl hb]; exact hj)] at this
    exact this

theorem usd_iff {ps : List ByteArray} {ws : List Int} {b : Nat} (hl : ps.length = 60) (hb : b < 10) : usd ps (nextP ps ws) b = false ↔ ((clr ps b 6).1 = 6 ∨ (b : Int) = openB ps ws) := by
  have hbd := nextP_bd ps ws
  unfold usd
  rw [Bool.and_eq_false_iff, Bool.not_eq_false', Bool.not_eq_false', allClr_clr hl hb]
  unfold inB openB
  rw [decide_eq_true_iff]
  constructor
  · rintro (h | ⟨h1, h2⟩)
    · exact .inl h
    · by_cases h6 : nextP ps ws % 6 = 0
      · exact .inl (next_free (ws := ws) hb (by omega))
      · right
        rw [if_neg (by omega)]
        omega
  · rintro (h | h)
    · exact .inl h
    · right
      split at h
      · omega
      · omega

/-- What the specification has behind k blocks is the first least of the used ones. -/
theorem worstU_min {ps : List ByteArray} {ws ms : List Int} (hl : ps.length = 60) (lv : Nat → Int) (hlv : ∀ b, b < 10 → usd ps (nextP ps ws) b = true → lv b = ((livesU ms b 6).length : Int)) : ∀ k, k ≤ 10 →
    (worstU ps ws ms (openB ps ws) k).1 = minG (wcmp lv ws) (usedL ps (nextP ps ws) (blk k)) ∧ (worstU ps ws ms (openB ps ws) k).2 = if usedL ps (nextP ps ws) (blk k) = [] then 0 else lv (minG (wcmp lv ws) (usedL ps (nextP ps ws) (blk k))).toNat := by
  intro k
  induction k with
  | zero => intro _; simp [worstU, usedL, blk, minG]
  | succ k ih =>
    intro hk
    obtain ⟨i1, i2⟩ := ih (by omega)
    have hk10 : k < 10 := by omega
    rw [blk_succ hk10]
    unfold worstU worstS
    cases hu : usd ps (nextP ps ws) k with
    | false =>
      rw [usedL_miss (x := ⟨k, hk10⟩) (blk k) hu, if_pos ((usd_iff hl hk10).1 hu)]
      exact ⟨i1, i2⟩
    | true =>
      have hn : ¬ ((clr ps k 6).1 = 6 ∨ (k : Int) = openB ps ws) := fun h => by rw [(usd_iff (ws := ws) hl hk10).2 h] at hu; cases hu
      rw [usedL_hit (x := ⟨k, hk10⟩) (blk k) hu, if_neg hn, minG_snoc]
      have hne : usedL ps (nextP ps ws) (blk k) ++ [((k : Nat) : Int)] ≠ [] := by simp
      rw [if_neg hne]
      have e1 : ∀ M : Int, minGS (wcmp lv ws) M (k : Int) = if M < 0 ∨ lv k < lv M.toNat ∨ (lv k = lv M.toNat ∧ ws[k]?.getD 0 < ws[M.toNat]?.getD 0) then (k : Int) else M := by
        intro M
        have hw := wcmp_lt lv ws k M.toNat
        unfold minGS
        simp only [Int.toNat_natCast]
        by_cases hc : M < 0 ∨ wcmp lv ws k M.toNat < 0
        · rw [if_pos hc, if_pos (hc.imp id hw.1)]
        · rw [if_neg hc, if_neg (fun h => hc (h.imp id hw.2))]
      show (if _ then _ else _ : Int × Int).1 = minGS (wcmp lv ws) _ (k : Int) ∧ (if _ then _ else _ : Int × Int).2 = lv (minGS (wcmp lv ws) _ (k : Int)).toNat
      rw [e1, i1, i2, ← hlv k hk10 hu]
      by_cases hnil : usedL ps (nextP ps ws) (blk k) = []
      · rw [hnil]
        have hm1 : minG (wcmp lv ws) [] < 0 := by simp [minG]
        rw [if_pos (.inl hm1), if_pos (.inl hm1)]
        exact ⟨rfl, by simp⟩
      · rw [if_neg hnil]
        obtain ⟨M, hM⟩ : ∃ M, M = minG (wcmp lv ws) (usedL ps (nextP ps ws) (blk k)) := ⟨_, rfl⟩
        rw [← hM] at i1 i2 ⊢
        rw [if_neg hnil] at i2
        by_cases hc : M < 0 ∨ lv k < lv M.toNat ∨ (lv k = lv M.toNat ∧ ws[k]?.getD 0 < ws[M.toNat]?.getD 0)
        · rw [if_pos hc, if_pos hc]
          exact ⟨rfl, by simp⟩
        · rw [if_neg hc, if_neg hc]
          exact ⟨i1, i2⟩

theorem worstB_min {ps : List ByteArray} {ws ms : List Int} (hl : ps.length = 60) :
    worstB ps ws ms = if usedL ps (nextP ps ws) (blk 10) = [] then -1 else if lvL ps ms (nextP ps ws) (blk 10) (minG (wcmp (lvL ps ms (nextP ps ws) (blk 10)) ws) (usedL ps (nextP ps ws) (blk 10))).toNat = 6 then -1 else minG (wcmp (lvL ps ms (nextP ps ws) (blk 10)) ws) (usedL ps (nextP ps ws) (blk 10)) := by
  have hlv : ∀ b, b < 10 → usd ps (nextP ps ws) b = true → lvL ps ms (nextP ps ws) (blk 10) b = ((livesU ms b 6).length : Int) := by
    intro b hb hu
    unfold lvL
    rw [if_pos ⟨⟨⟨b, hb⟩, mem_blk.2 hb, rfl⟩, hu⟩]
  obtain ⟨h1, h2⟩ := worstU_min (ms := ms) hl _ hlv 10 (Nat.le_refl _)
  unfold worstB
  rw [h1, h2]
  by_cases hnil : usedL ps (nextP ps ws) (blk 10) = []
  · rw [if_pos hnil, if_pos hnil, hnil]
    simp [minG]
  · rw [if_neg hnil, if_neg hnil]

end Go.Proofs.Ytelbannfbglgcaa
