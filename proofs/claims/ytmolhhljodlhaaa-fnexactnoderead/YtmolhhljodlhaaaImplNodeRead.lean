/-
  Contracts of the program's contentRead, nodeOf and NodeRead.
-/
import Derived.Test.YtmolhhljodlhaaaImplKidsRead
import Derived.Test.YtmolhhljodlhaaaImplNodeOk
import Derived.Test.YtmolhhljodlhaaaImplWith
namespace Go.Proofs.Ytmolhhljodlhaaa
open Go.RowKit Go.Deep
set_option maxRecDepth 100000
set_option linter.unusedVariables false

theorem kind_idx (c : UInt8) : Lib.indexByte (⟨#[100, 102]⟩ : ByteArray).data.toList c = if c = 100 then 0 else if c = 102 then 1 else -1 := by
  show Lib.indexByte [100, 102] c = _
  by_cases h1 : c = 100
  · subst h1; rfl
  · by_cases h2 : c = 102
    · subst h2; rfl
    · have e1 : ((100 : UInt8) == c) = false := by rw [beq_eq_false_iff_ne]; exact fun e => h1 e.symm
      have e2 : ((102 : UInt8) == c) = false := by rw [beq_eq_false_iff_ne]; exact fun e => h2 e.symm
      simp [Lib.indexByte, e1, e2, h1, h2]

set_option maxHeartbeats 6400000 in
theorem contentRead_any (t : ByteArray) (ht : t.size ≤ 1048576) (w : World) :
    Calls Try.prog 34 #[.string t] w fun e w' => Below w.heap.size w w' ∧
      ((t.data.toList = [] ∧ e = .returned .nilIface) ∨ ∃ c zs, t.data.toList = c :: zs ∧ ((c = 102 ∧ e = .returned (.iface 70 (.string ⟨zs.toArray⟩))) ∨
        (c = 100 ∧ (readF t).2 = [] ∧ ∃ v, e = .returned (.iface 69 v) ∧ KidsOwn w' w.heap.size v (readF t).1) ∨
        (c = 100 ∧ (readF t).2 ≠ [] ∧ e = .returned .nilIface) ∨ (c ≠ 100 ∧ c ≠ 102 ∧ e = .returned .nilIface))) := by
  cases hL : t.data.toList with
  | nil =>
    have hsz : t.size = 0 := by
      have := congrArg List.length hL
      simpa using this
    have hq := list_none hsz
    have hq2 : t.toList.isEmpty = true := by rw [hq]; rfl
    clear hL hsz
    go_enter Try.func34, Try.ntmps34
    go_wp2
    go_ret
    exact ⟨Below.refl _ _, .inl ⟨by first | rfl | trivial, rfl⟩⟩
  | cons c zs =>
    have hszl : t.size = zs.length + 1 := by
      have := congrArg List.length hL
      simpa using this
    have hpos : 0 < t.size := by omega
    have hq := list_some (s := t) (by omega)
    have hq2 : t.toList.isEmpty = false := by simpa using hq
    have hc0 : (t[0]'hpos).toNat = c.toNat := by
      have : t.data.toList[0]? = some c := by rw [hL]; rfl
      have e : t[0]'hpos = c := by
        have h2 : t.data.toList[0]? = some (t[0]'hpos) := by
          have : 0 < t.data.toList.length := by simpa using hpos
          rw [List.getElem?_eq_getElem this]; simp [ByteArray.getElem_eq_getElem_data]
        rw [this] at h2; exact (Option.some.inj h2).symm
      rw [e]
    have hex : t.extract 1 t.size = ⟨zs.toArray⟩ := by
      rw [bytes_take, hL, hszl]
      congr 1
      simp
    have HRF : Hid (readF t = scanU t.size zs) := by show _ = _; unfold readF; rw [hL]; rfl
    have HKR := hide (kidsRead_any t.size zs (by omega) (by omega) w)
    rw [← HRF.out] at HKR
    have HIX := hide (stringsIndexByte_any ⟨#[100, 102]⟩ (c.toNat : Int) w)
    have hcc : ((c.toNat : Int)).toNat.toUInt8 = c := by simp
    rw [hcc, kind_idx] at HIX
    have hsz1 : (1 : Int) ≤ (t.size : Int) := by omega
    have HEX := hide hex
    have hex2 := HEX.out
    clear hL hszl hex hcc
    by_cases h1 : c = 102
    · have hn : ¬ c = 100 := by rw [h1]; decide
      rw [if_neg hn, if_pos h1] at HIX
      have H1 := hide h1
      clear h1 hn
      go_enter Try.func34, Try.ntmps34
      go_wp2_with fail
      refine HIX.out.mono ?_
      rintro e u ⟨rfl, hu⟩
      have hu' := hu.symm
      subst hu'
      clear HIX HKR
      go_wp2
      go_ret
      exact ⟨Below.refl _ _, .inr ⟨c, zs, rfl, .inl ⟨H1.out, by first | rfl | (rw [← HEX.out]; rfl)⟩⟩⟩
    · by_cases h2 : c = 100
      · rw [if_pos h2] at HIX
        have H2 := hide h2
        clear h1 h2
        go_enter Try.func34, Try.ntmps34
        go_wp2_with fail
        refine HIX.out.mono ?_
        rintro e u ⟨rfl, hu⟩
        have hu' := hu.symm
        subst hu'
        clear HIX
        go_wp2_with fail
        refine HKR.out.mono ?_
        rintro e u ⟨hb, ⟨hr, v, rfl, ho⟩ | ⟨hr, rfl⟩⟩
        · obtain ⟨a1, c1, rfl⟩ := ho.shape
          have HO := hide ho
          have HR := hide hr
          have HB := hide hb
          clear ho hr hb HKR
          go_wp2
          go_ret
          exact ⟨HB.out, .inr ⟨c, zs, rfl, .inr (.inl ⟨H2.out, HR.out, _, rfl, HO.out⟩)⟩⟩
        · have HR := hide hr
          have HB := hide hb
          clear hr hb HKR
          go_wp2
          go_ret
          exact ⟨HB.out, .inr ⟨c, zs, rfl, .inr (.inr (.inl ⟨H2.out, HR.out, rfl⟩))⟩⟩
      · rw [if_neg h2, if_neg h1] at HIX
        have H1 := hide h1
        have H2 := hide h2
        clear h1 h2
        go_enter Try.func34, Try.ntmps34
        go_wp2_with fail
        refine HIX.out.mono ?_
        rintro e u ⟨rfl, hu⟩
        have hu' := hu.symm
        subst hu'
        clear HIX HKR
        go_wp2
        go_ret
        exact ⟨Below.refl _ _, .inr ⟨c, zs, rfl, .inr (.inr (.inr ⟨H2.out, H1.out, rfl⟩))⟩⟩

theorem assert_folder (v : Value) (w : World) : (Instr.typeAssert (.iface 69 v) 47 69 true).run Try.prog w = .ok (.tuple #[v, .bool true]) w := by kernel_rfl
theorem assert_file (v : Value) (w : World) : (Instr.typeAssert (.iface 70 v) 47 70 true).run Try.prog w = .ok (.tuple #[v, .bool true]) w := by kernel_rfl
theorem assert_not (v : Value) (w : World) : (Instr.typeAssert (.iface 70 v) 47 69 true).run Try.prog w = .ok (.tuple #[.slice none 0 0, .bool false]) w := by kernel_rfl

set_option maxHeartbeats 3200000 in
theorem nodeOf_folder (a : Option Addr) (K : List (ByteArray × Int)) (c : Nat) (w : World) (hr : Rd w a (vsKid K)) (hl : K.length ≤ 2097152) :
    Calls Try.prog 35 #[.iface 69 (.slice a K.length c)] w fun e w' => ∃ v, e = .returned v ∧ NodeOwn w' w.heap.size v true (K.map Prod.fst) (K.map Prod.snd) ⟨#[]⟩ ∧ Below w.heap.size w w' := by
  obtain ⟨W, hW⟩ : ∃ W, W = w.alloc (Obj.cells #[.bool false, .slice none 0 0, .slice none 0 0, .string ⟨#[]⟩] 29) := ⟨_, rfl⟩
  have hbW : Below w.heap.size w W := by rw [hW]; exact (Below.refl _ _).alloc (Nat.le_refl _) _
  have k0 : C4 W w.heap.size (.bool false) (.slice none 0 0) (.slice none 0 0) (.string ⟨#[]⟩) := by rw [hW]; exact c4_new _ _ _ _ _ _
  have HWK := hide (withKids_any true none none a 0 0 0 0 c ⟨#[]⟩ K W (hr.below hbW) hl)
  have hasr := assert_folder (.slice a K.length c)
  clear hr
  go_enter Try.func35, Try.ntmps35
  go_wp2_with fail
  rw [← hW]
  clear hW
  refine HWK.out.mono ?_
  rintro e u ⟨v, rfl, ho, hb⟩
  obtain ⟨a2, c2, b2, d2, rfl⟩ := ho.shape
  obtain ⟨⟨q0, q1, q2, q3⟩, qf⟩ := k0.below hb
  have qf0 := qf 0
  have qf1 := qf 1
  have qf2 := qf 2
  have qf3 := qf 3
  have HO := hide ho
  have HB := hide (after hbW hb)
  have HS : Hid (w.heap.size < W.heap.size) := k0.lt
  clear ho hb hbW k0 qf HWK
  go_wp2
  refine bodyPost_ret (v := .agg #[.bool true, .slice a2 (K.map Prod.fst).length c2, .slice b2 (K.map Prod.snd).length d2, .string ⟨#[]⟩]) (by simp [results, Try.results35, go_sem, q0, q1, q2, q3]) rfl ⟨_, rfl, ?_, ?_⟩
  · obtain ⟨v1, v2, hv, h4, h5, h6⟩ := HO.out
    have hp := HS.out
    exact ⟨v1, v2, hv, owns_mono (ftlRows_set (ftlRows_set (ftlRows_set (ftlRows_set h4 hp _) hp _) hp _) hp _) (by omega), owns_mono (ftlRows_set (ftlRows_set (ftlRows_set (ftlRows_set h5 hp _) hp _) hp _) hp _) (by omega), h6⟩
  · exact set_below (set_below (set_below (set_below HB.out (Nat.le_refl _)) (Nat.le_refl _)) (Nat.le_refl _)) (Nat.le_refl _)

set_option maxHeartbeats 3200000 in
theorem nodeOf_file (s : ByteArray) (w : World) :
    Calls Try.prog 35 #[.iface 70 (.string s)] w fun e w' => e = .returned (.agg #[.bool false, .slice none 0 0, .slice none 0 0, .string s]) ∧ Below w.heap.size w w' := by
  have has1 := assert_not (.string s)
  have has2 := assert_file (.string s)
  have hb : Below w.heap.size w (w.alloc (Obj.cells #[.bool false, .slice none 0 0, .slice none 0 0, .string s] 29)) := (Below.refl _ _).alloc (Nat.le_refl _) _
  go_enter Try.func35, Try.ntmps35
  go_wp2
  refine bodyPost_ret (v := .agg #[.bool false, .slice none 0 0, .slice none 0 0, .string s]) (by simp [results, Try.results35, go_sem]) rfl ⟨rfl, hb⟩
end Go.Proofs.Ytmolhhljodlhaaa
