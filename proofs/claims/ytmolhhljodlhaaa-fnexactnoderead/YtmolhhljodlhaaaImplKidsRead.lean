/-
  Contract of the program's kidsRead.
-/
import Derived.Test.YtmolhhljodlhaaaStrCut
import Derived.Test.YtmolhhljodlhaaaKidKit
namespace Go.Proofs.Ytmolhhljodlhaaa
open Go.RowKit Go.Deep
set_option maxRecDepth 100000
set_option linter.unusedVariables false

/-- One kid appended to a row of the call's own. -/
theorem wpList_append_kid {P : Program} {w w0 : World} {ops : Array Oper} {rest : List Oper} {o : Oper} {a : Act} {Q : Exit → Act → World → Prop} (hgd : o.guard = none) (s x : Operand) (t : TypeId)
    (ho : o.op = .call { callee := .builtin .append, args := #[s, x], argTypes := #[t, t] })
    (base : Nat) (e : TypeId) (i : TypeInfo) (z : Value) (bytes : Nat) (ht : P.underlying t = some (.slice e)) (hi : P.info? e = some i) (hz : i.zero = some z)
    (hsize : i.size = 2) (hby : i.bytes = bytes) (hzs : z.cells.size = 2)
    (v : Value) (n : Nat) (xs : List Value) (u0 u1 : Value) (hs : a.eval s = v) (hown : w0.ownsRow base e 2 v n xs) (h1 : u0.oneCell' = true ∧ u1.oneCell' = true)
    (hx : a.eval x = .slice (some ⟨w0.heap.size, 0, none⟩) 1 1)
    (hbytes : (n + 1) * bytes ≤ 140737488355328) (hn : n ≤ 140737488355327) (hbase : base ≤ w0.heap.size)
    (hw : w = w0.alloc (.cells #[u0, u1] e)) (h : ∀ v' w', w'.ownsRow base e 2 v' (n + 1) (xs ++ [u0, u1]) → Below base w0 w' → wpList P ops Q rest (a.put o.dst v') w') : wpList P ops Q (o :: rest) a w := by
  subst hw
  refine wpList_append_own _ hgd s x t ho base e i z 2 bytes ht hi hz hsize hby hzs (by decide) v n xs hs (hown.alloc _) ⟨w0.heap.size, 0, none⟩ 1 1 [u0, u1] hx rfl ?_ ?_ (by unfold maxLen; omega) hbytes (by simp; omega) ?_
  · intro j y hj
    match j, hj with
    | 0, hj => simp at hj; subst hj; simp [Addr.add]
    | 1, hj => simp at hj; subst hj; simp [Addr.add]
  · intro y hy; simp at hy
    rcases hy with rfl | rfl
    · exact h1.1
    · exact h1.2
  · intro v' w' k1 k2 _
    refine h v' w' k1 ?_
    have hb0 : Below base w0 (w0.alloc (.cells #[u0, u1] e)) := (Below.refl _ _).alloc hbase _
    exact hb0.grown k2 (by simp; omega) (fun k hk => (hown.lt k hk).1)

theorem tail_extract (r : UInt8) (rest : List UInt8) : (⟨(r :: rest).toArray⟩ : ByteArray).extract 1 (⟨(r :: rest).toArray⟩ : ByteArray).size = ⟨rest.toArray⟩ := by
  have h : (⟨(r :: rest).toArray⟩ : ByteArray).size = rest.length + 1 := by simp [ByteArray.size]
  rw [bytes_take, h]
  congr 1
  simp

def strSz : Value → Nat
  | .string s => s.size
  | _ => 0

set_option maxHeartbeats 6400000 in
theorem kidsRead_any (F : Nat) (l : List UInt8) (hl : l.length ≤ 1048576) (hF : l.length ≤ F) (w : World) :
    Calls Try.prog 50 #[.string ⟨l.toArray⟩] w fun e w' => Below w.heap.size w w' ∧ (((scanU F l).2 = [] ∧ ∃ v, e = .returned (.tuple #[v, .bool true]) ∧ KidsOwn w' w.heap.size v (scanU F l).1) ∨ ((scanU F l).2 ≠ [] ∧ e = .returned (.tuple #[.slice none 0 0, .bool false]))) := by
  obtain ⟨i0, hi, hz0, hz1, hz2⟩ := info_parts infoKid
  obtain ⟨R1, R2, hR⟩ : ∃ R1 R2, scanU F l = (R1, R2) := ⟨_, _, rfl⟩
  rw [hR]
  have HR := hide hR
  have hF' := hF
  clear hR
  go_enter Try.func50, Try.ntmps50
  go_wp2_with fail
  go_loopw [0, 4] (fun b v wr => ∃ (acc : List (ByteArray × Int)) (m : List UInt8) (f : Nat), b = .string ⟨m.toArray⟩ ∧ m.length ≤ f ∧ acc.length + m.length ≤ l.length ∧ Hid ((R1, R2) = (acc ++ (scanU f m).1, (scanU f m).2)) ∧ Hid (wr.ownsRow w.heap.size 62 2 v acc.length (vsKid acc)) ∧ Hid (Below w.heap.size w wr)) (fun b _ _ => strSz b)
  case atStart => exact ⟨[], l, F, rfl, hF, by simp, by show _ = _; rw [← HR.out]; simp, World.ownsRow_nil _ _ _ _, Below.refl _ _⟩
  case round =>
    obtain ⟨acc, m, f, rfl, hmf, hml, hsc, hown, hbel⟩ := hrel
    obtain ⟨B, hB⟩ : ∃ B : ByteArray, B = ⟨m.toArray⟩ := ⟨_, rfl⟩
    have hBm : B.data.toList = m := by rw [hB]
    have hBs : B.size = m.length := by rw [hB]; simp [ByteArray.size]
    rw [← hB]
    have HCUT := hide (stringsCut_any B (by omega) wr)
    rw [hBm] at HCUT
    have HBS := hide hBs
    cases m with
    | nil =>
      have hq := list_none (s := B) (by rw [hBs]; rfl)
      have hq2 : B.toList.isEmpty = true := by rw [hq]; rfl
      have HE : Hid (R1 = acc ∧ R2 = []) := by
        have := hsc.out
        have e : scanU f [] = ([], []) := scanU_no rfl
        rw [e] at this
        simp at this
        exact this
      clear hB hBm hBs HCUT
      go_wp2
      go_ret2
      exact ⟨hbel.out, .inl ⟨HE.out.2, _, rfl, by rw [HE.out.1]; exact hown.out⟩⟩
    | cons b0 m0 =>
      have hq := list_some (s := B) (by rw [hBs]; simp)
      have hq2 : B.toList.isEmpty = false := by simpa using hq
      have HL := hide hmf
      have HML := hide hml
      clear hB hBm hBs hmf hml
      go_wp2_with fail
      refine HCUT.out.mono ?_
      rintro e u ⟨⟨n, hn⟩, ⟨hc, rfl⟩ | ⟨nm, rest, hc, rfl⟩⟩
      · have HE : Hid (R2 ≠ []) := by
          have := hsc.out
          rw [scanU_no hc] at this
          simp at this
          show R2 ≠ []; rw [this.2]; simp
        have HBU : Hid (Below w.heap.size w u) := by rw [hn]; exact after_drew hbel.out n
        clear hc hn HCUT
        go_wp2
        go_ret2
        exact ⟨HBU.out, .inr ⟨HE.out, rfl⟩⟩
      · have HBU : Hid (Below w.heap.size w u) := by rw [hn]; exact after_drew hbel.out n
        have HOU : Hid (u.ownsRow w.heap.size 62 2 u4 acc.length (vsKid acc)) := by rw [hn]; exact owns_below hown.out (after_drew (Below.refl _ _) n)
        cases rest with
        | nil =>
          have HE : Hid (R2 ≠ []) := by
            have := hsc.out
            rw [scanU_no2 hc] at this
            simp at this
            show R2 ≠ []; rw [this.2]; simp
          clear hc hn HCUT HOU
          go_wp2
          go_ret2
          exact ⟨HBU.out, .inr ⟨HE.out, rfl⟩⟩
        | cons r rest =>
          obtain ⟨f', hf'⟩ : ∃ f', f = f' + 1 := ⟨f - 1, by have := HL.out; simp at this; omega⟩
          have hlen : nm.length + rest.length + 2 = (b0 :: m0).length := by rw [cutU_app hc]; simp; omega
          have HSC : Hid ((R1, R2) = ((acc ++ [((⟨nm.toArray⟩ : ByteArray), numU r)]) ++ (scanU f' rest).1, (scanU f' rest).2)) := by
            have := hsc.out
            rw [hf', scanU_on hc] at this
            show _ = _
            rw [this]; simp
          obtain ⟨S, hS⟩ : ∃ S : ByteArray, S = ⟨(r :: rest).toArray⟩ := ⟨_, rfl⟩
          obtain ⟨T, hT⟩ : ∃ T : ByteArray, T = ⟨nm.toArray⟩ := ⟨_, rfl⟩
          have hSs : S.size = rest.length + 1 := by rw [hS]; simp [ByteArray.size]
          have hSpos : 0 < S.size := by omega
          have hS0 : (S[0]'hSpos).toNat = r.toNat := by subst hS; rfl
          have hSq := list_some (s := S) (by omega)
          have hSq2 : S.toList.isEmpty = false := by simpa using hSq
          have HX : Hid (S.extract 1 S.size = ⟨rest.toArray⟩) := by rw [hS]; exact tail_extract r rest
          have hal : acc.length ≤ 1048576 := by have := HML.out; simp at this; omega
          have hr255 : r.toNat ≤ 255 := by have := r.toNat_lt; omega
          rw [← hS, ← hT]
          rw [← hT] at HSC
          have HMS := hide (And.intro hlen hSs)
          have hbase : w.heap.size ≤ u.heap.size := HBU.out.size
          clear hc hn HCUT hS hT hSs hlen hown hsc hbel
          go_wp2_with (at_builtin; go_must (refine wpList_append_kid rfl _ _ 58 rfl w.heap.size 62 i0 (.agg #[.string ⟨#[]⟩, .int .i64 0]) 24 Try.underlying58 hi hz0 hz1 hz2 rfl _ _ _ (.string T) (.int .i64 ((r.toNat : Int) - 48)) rfl HOU.out ⟨rfl, rfl⟩ rfl (by omega) (by omega) hbase rfl ?_); intro v' u2 ho2 hb2)
          have HN : Hid (u2.ownsRow w.heap.size 62 2 v' (acc ++ [(T, numU r)]).length (vsKid (acc ++ [(T, numU r)]))) := by
            rw [← vsKid_snoc, List.length_append, List.length_singleton]; exact ho2
          have HBN := hide (HBU.out.trans hb2)
          clear ho2 hb2
          go_roundw
          case rel => exact ⟨acc ++ [(T, numU r)], rest, f', by rw [HX.out], by have := HL.out; have := HMS.out.1; omega, by have := HML.out; have := HMS.out.1; rw [List.length_append, List.length_singleton]; omega, HSC, HN, HBN⟩
          case measure =>
            show (S.extract 1 S.size).size < B.size
            rw [HX.out, HBS.out]
            have : (⟨rest.toArray⟩ : ByteArray).size = rest.length := by simp [ByteArray.size]
            rw [this]
            have := HMS.out.1
            omega
end Go.Proofs.Ytmolhhljodlhaaa
