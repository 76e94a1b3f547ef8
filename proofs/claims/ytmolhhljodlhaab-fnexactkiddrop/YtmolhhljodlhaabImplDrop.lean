/-
  Contracts of the program's dropped and KidDrop.
-/
import Derived.Test.YtmolhhljodlhaabImplDelete
import Derived.Test.YtmolhhljodlhaabImplWith
namespace Go.Proofs.Ytmolhhljodlhaab
open Go.RowKit Go.Deep
set_option maxRecDepth 100000
set_option linter.unusedVariables false

/-- Without the first one of that name. -/
def dropK (K : List (ByteArray × Int)) (name : ByteArray) : List (ByteArray × Int) := match K.findIdx? (isName name) with | some i => K.eraseIdx i | none => K
theorem dropK_hit {K : List (ByteArray × Int)} {name : ByteArray} {k : Nat} (h : firstAt (isName name) K = (k : Nat)) : dropK K name = K.eraseIdx k := by
  unfold firstAt at h
  unfold dropK
  cases hf : K.findIdx? (isName name) with
  | none => rw [hf] at h; simp at h
  | some i =>
    rw [hf] at h
    have : i = k := by have h' : (i : Int) = (k : Int) := h; omega
    subst this
    rfl
theorem dropK_none {K : List (ByteArray × Int)} {name : ByteArray} (h : firstAt (isName name) K = -1) : dropK K name = K := by
  unfold firstAt at h
  unfold dropK
  cases hf : K.findIdx? (isName name) with
  | none => rfl
  | some i => rw [hf] at h; have h' : (i : Int) = -1 := h; omega
theorem dropK_len (K : List (ByteArray × Int)) (name : ByteArray) : (dropK K name).length ≤ K.length := by
  unfold dropK
  cases K.findIdx? (isName name) with
  | none => exact Nat.le_refl _
  | some i => exact List.length_eraseIdx_le _ _

set_option maxHeartbeats 3200000 in
theorem dropped_any (base : Nat) (v : Value) (K : List (ByteArray × Int)) (name : ByteArray) (w : World) (ho : KidsOwn w base v K) (hl : K.length ≤ 1048576) (hb : base ≤ w.heap.size) :
    Calls Try.prog 17 #[v, .string name] w fun e w' => ∃ v', e = .returned v' ∧ KidsOwn w' base v' (dropK K name) ∧ Below base w w' := by
  obtain ⟨a2, c2, hv2, hr⟩ := ho.rd
  subst hv2
  obtain ⟨D, hD⟩ : ∃ D, D = dropK K name := ⟨_, rfl⟩
  rw [← hD]
  have HD := hide hD
  have HO := hide ho
  clear ho hD
  go_enter Try.func17, Try.ntmps17
  go_wp2_with fail
  refine (placeOf_any name a2 K c2 w hr hl).mono ?_
  rintro e w2 ⟨rfl, hb2⟩
  have HO2 := hide (HO.out.below hb2)
  have HB2 := hide (hb2.mono hb)
  have HS2 := hide hb2.size
  clear hb2 hr
  rcases firstAt_cases (isName name) K with ⟨hf, -⟩ | ⟨k, x, hf, hk, hx, -, -⟩
  · have HF : Hid (D = K) := HD.out.trans (dropK_none hf)
    rw [hf]
    clear hf
    go_wp2
    go_ret
    exact ⟨_, rfl, by rw [HF.out]; exact HO2.out, HB2.out⟩
  · have HF : Hid (D = K.eraseIdx k) := HD.out.trans (dropK_hit hf)
    rw [hf]
    obtain ⟨g, rfl⟩ : ∃ g, a2 = some ⟨g, 0, none⟩ := by
      rcases HO.out.2 with ⟨h0, h1⟩ | ⟨g', cap', cur, h0, -⟩
      · omega
      · simp only [Value.slice.injEq] at h0
        exact ⟨g', h0.1⟩
    have hki : ¬ ((k : Int) < 0) := by omega
    have HDL := hide (delete_any base g c2 k K w2 HO2.out hk (by omega) (by have := HS2.out; omega))
    clear hf hx
    go_wp2_with fail
    refine HDL.out.mono ?_
    rintro e w3 ⟨rfl, ho3, hb3⟩
    have HO3 := hide ho3
    have HB3 := hide (HB2.out.trans hb3)
    clear ho3 hb3 HDL
    go_wp2
    go_ret
    exact ⟨_, rfl, by rw [HF.out]; exact HO3.out, HB3.out⟩

set_option maxHeartbeats 6400000 in
theorem implKidDrop_any (dir : Bool) (a b : Option Addr) (ns : List ByteArray) (ks : List Int) (dat name : ByteArray) (c d : Nat) (w : World) (hp : Rd w a (vsString ns)) (hw : Rd w b (vsInt ks)) (hl : ns.length ≤ 1048576) (hm : ks.length ≤ 1048576) :
    Calls Try.prog 7 #[.agg #[.bool dir, .slice a ns.length c, .slice b ks.length d, .string dat], .string name] w fun e w' => ∃ v, e = .returned v ∧ NodeOwn w' w.heap.size v dir ((dropK (ns.zip ks) name).map Prod.fst) ((dropK (ns.zip ks) name).map Prod.snd) dat ∧ Below w.heap.size w w' := by
  obtain ⟨A, hA⟩ : ∃ A, A = w.alloc (Obj.cells #[.bool dir, .slice a ns.length c, .slice b ks.length d, .string dat] 27) := ⟨_, rfl⟩
  obtain ⟨W, hW⟩ : ∃ W, W = A.alloc (Obj.cells #[.bool false, .slice none 0 0, .slice none 0 0, .string ⟨#[]⟩] 27) := ⟨_, rfl⟩
  have hsA : A.heap.size = w.heap.size + 1 := by rw [hA]; simp
  have hsW : W.heap.size = w.heap.size + 1 + 1 := by rw [hW]; simp [hsA]
  have hb0 : Below w.heap.size w A := by rw [hA]; exact (Below.refl _ _).alloc (Nat.le_refl _) _
  have hb1 : Below A.heap.size A W := by rw [hW]; exact (Below.refl _ _).alloc (Nat.le_refl _) _
  have k0 : C4 W w.heap.size (.bool dir) (.slice a ns.length c) (.slice b ks.length d) (.string dat) := by
    have : C4 A w.heap.size (.bool dir) (.slice a ns.length c) (.slice b ks.length d) (.string dat) := by rw [hA]; exact c4_new _ _ _ _ _ _
    exact this.below hb1
  have k1 : C4 W (w.heap.size + 1) (.bool false) (.slice none 0 0) (.slice none 0 0) (.string ⟨#[]⟩) := by
    have : C4 W A.heap.size (.bool false) (.slice none 0 0) (.slice none 0 0) (.string ⟨#[]⟩) := by rw [hW]; exact c4_new _ _ _ _ _ _
    rw [hsA] at this
    exact this
  have hbW : Below w.heap.size w W := after hb0 hb1
  have hlz : (ns.zip ks).length ≤ 1048576 := by simp; omega
  obtain ⟨D, hD⟩ : ∃ D, D = dropK (ns.zip ks) name := ⟨_, rfl⟩
  have hDl : D.length ≤ 2097152 := by have := dropK_len (ns.zip ks) name; rw [hD]; omega
  rw [← hD]
  have HKO : Hid (∀ u, Below W.heap.size W u → Calls Try.prog 18 #[.agg #[.bool dir, .slice a ns.length c, .slice b ks.length d, .string dat]] u fun e w' => ∃ a1 n1 c1, e = .returned (.slice a1 n1 c1) ∧ KidsOwn w' u.heap.size (.slice a1 n1 c1) (ns.zip ks) ∧ Below u.heap.size u w') := fun u hu => by
    refine (kidsOf_any dir a b ns ks dat c d u ((hp.below hbW).below hu) ((hw.below hbW).below hu) hl hm).mono ?_
    rintro e w' ⟨v, rfl, h1, h2⟩
    obtain ⟨a1, c1, rfl⟩ := h1.shape
    exact ⟨_, _, _, rfl, h1, h2⟩
  have HDR : Hid (∀ (u : World) (bs : Nat) (v : Value), KidsOwn u bs v (ns.zip ks) → bs ≤ u.heap.size → Calls Try.prog 17 #[v, .string name] u fun e w' => ∃ a1 c1, e = .returned (.slice a1 D.length c1) ∧ Rd w' a1 (vsKid D) ∧ Below bs u w') := fun u bs v h1 h2 => by
    refine (dropped_any bs v (ns.zip ks) name u h1 hlz h2).mono ?_
    rintro e w' ⟨v', rfl, h3, h4⟩
    rw [← hD] at h3
    obtain ⟨a1, c1, rfl, h5⟩ := h3.rd
    exact ⟨_, _, rfl, h5, h4⟩
  have HWK : Hid (∀ (u : World) a1 c1, Rd u a1 (vsKid D) → Calls Try.prog 16 #[.agg #[.bool dir, .slice a ns.length c, .slice b ks.length d, .string dat], .slice a1 D.length c1] u fun e w' => ∃ a2 c2 b2 d2, e = .returned (.agg #[.bool dir, .slice a2 (D.map Prod.fst).length c2, .slice b2 (D.map Prod.snd).length d2, .string dat]) ∧ NodeOwn w' u.heap.size (.agg #[.bool dir, .slice a2 (D.map Prod.fst).length c2, .slice b2 (D.map Prod.snd).length d2, .string dat]) dir (D.map Prod.fst) (D.map Prod.snd) dat ∧ Below u.heap.size u w') := fun u a1 c1 h1 => by
    refine (withKids_any dir a b a1 ns.length ks.length c d c1 dat D u h1 hDl).mono ?_
    rintro e w' ⟨v, rfl, h2, h3⟩
    obtain ⟨a2, c2, b2, d2, rfl⟩ := h2.shape
    exact ⟨_, _, _, _, rfl, h2, h3⟩
  have HA := hide (And.intro hA hW)
  have HB := hide hbW
  have HS := hide hsW
  have HK0 : Hid (∀ u, Below W.heap.size W u → u.cell? ⟨w.heap.size, 0, none⟩ = some (.bool dir) ∧ u.cell? ⟨w.heap.size, 1, none⟩ = some (.slice a ns.length c) ∧ u.cell? ⟨w.heap.size, 2, none⟩ = some (.slice b ks.length d) ∧ u.cell? ⟨w.heap.size, 3, none⟩ = some (.string dat)) := fun u hu => (k0.below hu).1
  have HK1 : Hid (∀ u, Below W.heap.size W u → C4 u (w.heap.size + 1) (.bool false) (.slice none 0 0) (.slice none 0 0) (.string ⟨#[]⟩)) := fun u hu => k1.below hu
  obtain ⟨n1, hn1⟩ : ∃ n, n = (D.map Prod.fst).length := ⟨_, rfl⟩
  obtain ⟨n2, hn2⟩ : ∃ n, n = (D.map Prod.snd).length := ⟨_, rfl⟩
  rw [← hn1, ← hn2] at HWK
  have HD1 : Hid (Below W.heap.size W W.drew) := after_drew (Below.refl _ _) 1
  obtain ⟨c0, c1, c2, c3⟩ := HK0.out W (Below.refl _ _)
  have hK1 := HK0.out W.drew HD1.out
  clear hp hw hA hW hsA hb0 hb1 k0 k1 hbW hD hsW
  go_enter Try.func7, Try.ntmps7
  go_wp2_with fail
  rw [← HA.out.1]
  rw [← HA.out.2]
  clear HA
  go_region_held (fun u => u.cell? ⟨w.heap.size, 0, none⟩ = some (.bool dir) ∧ u.cell? ⟨w.heap.size, 1, none⟩ = some (.slice a ns.length c) ∧ u.cell? ⟨w.heap.size, 2, none⟩ = some (.slice b ks.length d) ∧ u.cell? ⟨w.heap.size, 3, none⟩ = some (.string dat)) (first | assumption | go_keep)
    ((first
      | (go_at_call 18; refine (HKO.out _ HD1.out).mono ?_; rintro e u1 ⟨a1, m1, d1, rfl, ho1, hb1⟩; have HO1 := hide ho1; have HS1 := hide hb1.size; have HB1 : Hid (Below W.heap.size W u1) := after HD1.out hb1; have hKa := HK0.out u1 HB1.out; clear ho1 hb1)
      | (go_at_call 17; refine (HDR.out _ _ _ HO1.out HS1.out).mono ?_; rintro e u2 ⟨a2, d2, rfl, hr2, hb2⟩; have HR2 := hide hr2; have HB2 : Hid (Below W.heap.size W u2) := HB1.out.trans hb2; have hKb := HK0.out u2 HB2.out; clear hr2 hb2)
      | (go_at_call 16; refine (HWK.out _ _ _ HR2.out).mono ?_; rintro e u3 ⟨a3, d3, b3, e3, rfl, ho3, hb3⟩; have HO3 := hide ho3; have HS3 := hide HB2.out.size; have HB3 : Hid (Below W.heap.size W u3) := after HB2.out hb3; have hKc := HK0.out u3 HB3.out; obtain ⟨⟨q0, q1, q2, q3⟩, qf⟩ := HK1.out u3 HB3.out; have qf0 := qf 0; have qf1 := qf 1; have qf2 := qf 2; have qf3 := qf 3; clear ho3 hb3 qf)))
  have hsW : w.heap.size + 1 < W.heap.size := by have := HS.out; omega
  have HBF := hide (HB.out.trans (HB3.out.mono HB.out.size))
  have hlen1 : n1 = D.length := by rw [hn1]; simp
  have hlen2 : n2 = D.length := by rw [hn2]; simp
  have HOF := hide HO3.out
  rw [hlen1, hlen2] at HOF
  have hs3 := HS3.out
  have HSZ : Hid (W.heap.size ≤ u2.heap.size ∧ w.heap.size + 1 < W.heap.size) := ⟨hs3, hsW⟩
  clear hKa hKb hKc hK1 c0 c1 c2 c3 hs3 hsW hn1 hn2 hlen1 hlen2 HO3
  go_wp2
  refine bodyPost_ret (v := .agg #[.bool dir, .slice a3 D.length d3, .slice b3 D.length e3, .string dat]) (by simp [results, Try.results7, go_sem, q0, q1, q2, q3]) rfl ⟨_, rfl, ?_, ?_⟩
  · obtain ⟨v1, v2, hv, h4, h5, h6⟩ := HOF.out
    have hp : w.heap.size + 1 < u2.heap.size := by have := HSZ.out; omega
    exact ⟨v1, v2, hv, owns_mono (ftlRows_set (ftlRows_set (ftlRows_set (ftlRows_set h4 hp _) hp _) hp _) hp _) (by omega), owns_mono (ftlRows_set (ftlRows_set (ftlRows_set (ftlRows_set h5 hp _) hp _) hp _) hp _) (by omega), h6⟩
  · exact set_below (set_below (set_below (set_below HBF.out (Nat.le_succ _)) (Nat.le_succ _)) (Nat.le_succ _)) (Nat.le_succ _)
end Go.Proofs.Ytmolhhljodlhaab
