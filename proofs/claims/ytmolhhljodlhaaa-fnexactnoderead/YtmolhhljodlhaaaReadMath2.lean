/-
  The specification's scan of a folder's text, step by step.
-/
import Derived.Test.YtmolhhljodlhaaaImplNodeRead2
namespace Go.Proofs.Ytmolhhljodlhaaa
open Go.RowKit
set_option linter.unusedVariables false

theorem cutU_none {l : List UInt8} (h : ∀ b ∈ l, b ≠ 61) : cutU l = none := by
  induction l with
  | nil => rfl
  | cons b l ih =>
    have hb := h b (List.mem_cons_self ..)
    rw [cutU, if_neg hb, ih (fun x hx => h x (List.mem_cons_of_mem _ hx))]
theorem cutU_at {a rest : List UInt8} (h : ∀ b ∈ a, b ≠ 61) : cutU (a ++ 61 :: rest) = some (a, rest) := by
  induction a with
  | nil => simp [cutU]
  | cons b l ih =>
    have hb := h b (List.mem_cons_self ..)
    rw [List.cons_append, cutU, if_neg hb, ih (fun x hx => h x (List.mem_cons_of_mem _ hx))]

structure ScanAt (t : ByteArray) (p k : Nat) (D : List (ByteArray × Int)) : Prop where
  pk : p ≤ k
  p1 : 1 ≤ p
  ks : k ≤ t.size
  clean : ∀ j, p ≤ j → j < k → t.data.toList[j]? ≠ some 61
  len : 2 * D.length ≤ p
  rest : ∃ f, t.size ≤ f + p ∧ D ++ (scanU f (t.data.toList.drop p)).1 = (readF t).1
theorem tl_len (t : ByteArray) : t.data.toList.length = t.size := by simp
theorem tl_get {t : ByteArray} {k : Nat} (h : k < t.size) : t.data.toList[k]? = some (t[k]'h) := by
  have : k < t.data.toList.length := by simpa using h
  rw [List.getElem?_eq_getElem this]; simp [ByteArray.getElem_eq_getElem_data]
theorem scan_start {t : ByteArray} (h : 1 ≤ t.size) : ScanAt t 1 1 [] := ⟨Nat.le_refl _, Nat.le_refl _, h, fun j h1 h2 => by omega, by simp, ⟨t.size, by omega, rfl⟩⟩
theorem scan_on {t : ByteArray} {p k : Nat} {D : List (ByteArray × Int)} (h : ScanAt t p k D) (hk : k + 1 < t.size) (hne : (t[k]'(by omega)) ≠ 61) : ScanAt t p (k + 1) D := by
  refine ⟨by have := h.pk; omega, h.p1, by omega, fun j h1 h2 => ?_, h.len, h.rest⟩
  by_cases hj : j = k
  · subst hj
    rw [tl_get (by omega)]
    intro e
    exact hne (Option.some.inj e)
  · exact h.clean j h1 (by omega)
theorem drop_split {l : List UInt8} {p k : Nat} {c : UInt8} (hpk : p ≤ k) (hc : l[k]? = some c) : l.drop p = (l.drop p).take (k - p) ++ c :: l.drop (k + 1) := by
  have hk : k < l.length := by
    rcases Nat.lt_or_ge k l.length with h | h
    · exact h
    · rw [List.getElem?_eq_none h] at hc; cases hc
  have e : l.drop k = c :: l.drop (k + 1) := by
    rw [List.drop_eq_getElem_cons hk]
    rw [List.getElem?_eq_getElem hk] at hc
    rw [Option.some.inj hc]
  have e2 : (l.drop p).drop (k - p) = l.drop k := by rw [List.drop_drop]; congr 1; omega
  rw [← e, ← e2, List.take_append_drop]
theorem take_clean {l : List UInt8} {p k : Nat} (hk : ∀ j, p ≤ j → j < k → l[j]? ≠ some 61) : ∀ b ∈ (l.drop p).take (k - p), b ≠ 61 := by
  intro b hb hb61
  subst hb61
  obtain ⟨j, hj⟩ := List.mem_iff_getElem?.mp hb
  rw [List.getElem?_take] at hj
  split at hj
  · rename_i hlt
    rw [List.getElem?_drop] at hj
    exact hk (p + j) (by omega) (by omega) hj
  · cases hj
theorem scan_hit {t : ByteArray} {p k : Nat} {D : List (ByteArray × Int)} (h : ScanAt t p k D) (hk : k + 1 < t.size) (he : (t[k]'(by omega)) = 61) : ScanAt t (k + 2) (k + 2) (D ++ [(t.extract p k, ((t[k + 1]'hk).toNat : Int) - 48)]) := by
  obtain ⟨f, hf, hr⟩ := h.rest
  have hpk := h.pk
  have h1 : t.data.toList[k]? = some 61 := by rw [tl_get (by omega), he]
  have h2 := tl_get hk
  have e1 := drop_split hpk h1
  have e2 : t.data.toList.drop (k + 1) = t[k + 1]'hk :: t.data.toList.drop (k + 2) := by
    have := drop_split (Nat.le_refl (k + 1)) h2
    simpa using this
  obtain ⟨f', rfl⟩ : ∃ f', f = f' + 1 := ⟨f - 1, by omega⟩
  have hcut : cutU (t.data.toList.drop p) = some ((t.data.toList.drop p).take (k - p), t[k + 1]'hk :: t.data.toList.drop (k + 2)) := by
    conv => lhs; rw [e1]
    rw [cutU_at (take_clean h.clean), e2]
  rw [scanU_on hcut] at hr
  refine ⟨Nat.le_refl _, by omega, by omega, fun j h1 h2 => by omega, by have := h.len; simp; omega, ⟨f', by omega, ?_⟩⟩
  rw [← hr, bytes_take, List.append_assoc]
  rfl
theorem scan_end {t : ByteArray} {p k : Nat} {D : List (ByteArray × Int)} (h : ScanAt t p k D) (hk : ¬ k + 1 < t.size) : D = (readF t).1 := by
  obtain ⟨f, hf, hr⟩ := h.rest
  have hks := h.ks
  have hpk := h.pk
  suffices hs : (scanU f (t.data.toList.drop p)).1 = [] by rw [hs, List.append_nil] at hr; exact hr
  by_cases hkz : k < t.size
  · by_cases he : (t[k]'hkz) = 61
    · have h1 : t.data.toList[k]? = some 61 := by rw [tl_get hkz, he]
      have e1 := drop_split hpk h1
      have e2 : t.data.toList.drop (k + 1) = [] := List.drop_eq_nil_of_le (by rw [tl_len]; omega)
      have hcut : cutU (t.data.toList.drop p) = some ((t.data.toList.drop p).take (k - p), []) := by
        conv => lhs; rw [e1]
        rw [cutU_at (take_clean h.clean), e2]
      rw [scanU_no2 hcut]
    · have hcut : cutU (t.data.toList.drop p) = none := by
        refine cutU_none fun b hb hb61 => ?_
        subst hb61
        obtain ⟨j, hj⟩ := List.mem_iff_getElem?.mp hb
        rw [List.getElem?_drop] at hj
        have hlt : p + j < t.size := by
          rcases Nat.lt_or_ge (p + j) t.data.toList.length with h' | h'
          · rwa [tl_len] at h'
          · rw [List.getElem?_eq_none h'] at hj; cases hj
        by_cases hjk : p + j = k
        · rw [hjk, tl_get hkz] at hj
          exact he (Option.some.inj hj)
        · exact h.clean (p + j) (by omega) (by omega) hj
      rw [scanU_no hcut]
  · have hcut : cutU (t.data.toList.drop p) = none := by
      refine cutU_none fun b hb hb61 => ?_
      subst hb61
      obtain ⟨j, hj⟩ := List.mem_iff_getElem?.mp hb
      rw [List.getElem?_drop] at hj
      have hlt : p + j < t.size := by
        rcases Nat.lt_or_ge (p + j) t.data.toList.length with h' | h'
        · rwa [tl_len] at h'
        · rw [List.getElem?_eq_none h'] at hj; cases hj
      exact h.clean (p + j) (by omega) (by omega) hj
    rw [scanU_no hcut]

theorem zip_back (K : List (ByteArray × Int)) : (K.map Prod.fst).zip (K.map Prod.snd) = K := by
  induction K with
  | nil => rfl
  | cons x K ih => simp [ih]
theorem u8_back (s : ByteArray) : strOf (102 :: strB s) = ⟨(102 :: s.data.toList).toArray⟩ := by
  unfold strOf strB
  rw [List.map_cons, back_u8]; rfl
theorem t_mk {t : ByteArray} {l : List UInt8} (h : t.data.toList = l) : t = ⟨l.toArray⟩ := by subst h; rfl
theorem read_text_file {t : ByteArray} {zs : List UInt8} (hL : t.data.toList = 102 :: zs) : (nodeT false [] [] ⟨zs.toArray⟩ = t) ↔ readOk t = true := by
  rw [read_file hL rfl]
  have hb : nodeB false [] [] ⟨zs.toArray⟩ = decide (zs.length ≤ 60) := by unfold nodeB; rw [size_mk]; simp
  by_cases hz : zs.length ≤ 60
  · rw [nodeT_yes (by rw [hb]; simpa using hz), decide_eq_true hz]
    have : nodeZ false [] [] ⟨zs.toArray⟩ = 102 :: strB ⟨zs.toArray⟩ := rfl
    rw [this, u8_back, t_mk hL]
    simp
  · rw [nodeT_no (by rw [hb]; simpa using hz), decide_eq_false hz]
    constructor
    · intro h; rw [← h] at hL; cases hL
    · intro h; cases h
theorem read_text_folder {t : ByteArray} {c : UInt8} {zs : List UInt8} (hL : t.data.toList = c :: zs) (hc : c ≠ 102) : (nodeT true ((readF t).1.map Prod.fst) ((readF t).1.map Prod.snd) ⟨#[]⟩ = t) ↔ readOk t = true := by
  have hb : nodeB true ((readF t).1.map Prod.fst) ((readF t).1.map Prod.snd) ⟨#[]⟩ = fitsB (readF t).1 := by
    unfold nodeB; rw [zip_back]; simp; intro _; rfl
  have hz : nodeZ true ((readF t).1.map Prod.fst) ((readF t).1.map Prod.snd) ⟨#[]⟩ = 100 :: bodyZ (readF t).1 := by
    unfold nodeZ; rw [zip_back]; rfl
  have hX : bodyU (readF t).1 ++ (readF t).2 = zs := by
    have := scanU_text t.size (t.data.toList.drop 1)
    rw [hL] at this
    unfold readF; rw [hL]; exact this
  by_cases hf : fitsB (readF t).1 = true
  · rw [nodeT_yes (by rw [hb]; exact hf), hz, strOf_body]
    constructor
    · intro h
      have h2 := congrArg (fun s : ByteArray => s.data.toList) h
      simp only [hL] at h2
      simp at h2
      obtain ⟨h3, h4⟩ := h2
      have hc1 : c = 100 := h3.symm
      rw [read_folder hL hc1, hf]
      have : (readF t).2 = [] := by
        rw [h4] at hX
        have := congrArg List.length hX
        simp at this
        exact this
      rw [this]; rfl
    · intro h
      by_cases hc1 : c = 100
      · rw [read_folder hL hc1, hf] at h
        have h2 : (readF t).2 = [] := by simpa using h
        rw [h2, List.append_nil] at hX
        conv => rhs; rw [t_mk hL]
        rw [hX, hc1]; rfl
      · rw [read_other hL hc1 hc] at h; cases h
  · have hf' : fitsB (readF t).1 = false := by simpa using hf
    rw [nodeT_no (by rw [hb]; exact hf')]
    constructor
    · intro h; rw [← h] at hL; cases hL
    · intro h
      by_cases hc1 : c = 100
      · rw [read_folder hL hc1, hf'] at h; simp at h
      · rw [read_other hL hc1 hc] at h; cases h
end Go.Proofs.Ytmolhhljodlhaaa
