/-
  Contract of the program's folder.body.
-/
import Derived.Test.YtmolhhljodlhaaaImplFits
import Derived.Test.YtmolhhljodlhaaaBodyMath
import Derived.Test.YtmolhhljodlhaaaAppendTwo
namespace Go.Proofs.Ytmolhhljodlhaaa
open Go.RowKit Go.Deep
set_option maxRecDepth 100000
set_option linter.unusedVariables false

set_option maxHeartbeats 3200000 in
theorem folderBody_any (a : Option Addr) (K : List (ByteArray × Int)) (c : Nat) (w : World) (hr : Rd w a (vsKid K)) (hl : K.length ≤ 1048576) (hf : ∀ x ∈ K, x.1.size ≤ 6 ∧ 1 ≤ x.2 ∧ x.2 ≤ 11) :
    Calls Try.prog 82 #[.slice a K.length c] w fun e w' => e = .returned (.string (strOf (bodyZ K))) ∧ Below w.heap.size w w' := by
  obtain ⟨i0, hi, hz0, hz1, hz2⟩ := info_parts info5
  have HR := hide hr
  have HF := hide hf
  clear hr hf
  go_enter Try.func82, Try.ntmps82
  go_wp2_with fail
  go_loopw [3, 8] (fun v i wr => ∃ k : Nat, k ≤ K.length ∧ i = .int .i64 k ∧ Hid (∃ acc : List Int, Hid (acc = bodyZ (K.take k)) ∧ acc.length ≤ 8 * k ∧ wr.ownsRow w.heap.size 5 1 v acc.length (u8s acc)) ∧ Hid (Below w.heap.size w wr)) (fun _ i _ => K.length - (intOf i).toNat)
  case atStart => exact ⟨0, Nat.zero_le _, rfl, ⟨[], by show _ = _; simp [bodyZ], by simp, World.ownsRow_nil _ _ _ _⟩, Below.refl _ _⟩
  case round =>
    obtain ⟨k, hk, rfl, hacc, hbel⟩ := hrel
    obtain ⟨acc, HA, hal, hown⟩ := hacc.out
    by_cases hlt : k < K.length
    · have hki : (k : Int) < (K.length : Int) := by omega
      obtain ⟨b1, o1, x, rfl, h0, h1, HX⟩ := rdKid_at (HR.out.below hbel.out) hlt
      obtain ⟨hs6, hx1, hx2⟩ := HF.out x (List.mem_of_getElem? HX.out)
      obtain ⟨s, z⟩ := x
      have hs6 : s.size ≤ 6 := hs6
      have hx1 : 1 ≤ z := hx1
      have hx2 : z ≤ 11 := hx2
      obtain ⟨V, hV⟩ : ∃ V, V = wr.alloc (Obj.cells #[.string s, .int .i64 z] 62) := ⟨_, rfl⟩
      have hbV : Below wr.heap.size wr V := by rw [hV]; exact (Below.refl _ _).alloc (Nat.le_refl _) _
      have c0 : V.cell? ⟨wr.heap.size, 0, none⟩ = some (.string s) := by rw [hV]; simp
      have c1 : V.cell? ⟨wr.heap.size, 1, none⟩ = some (.int .i64 z) := by rw [hV]; simp
      have hownV := owns_below hown hbV
      have hfar := fun e => (hown.lt wr.heap.size e).2
      have hBV := hbel.out.trans (hbV.mono hbel.out.size)
      have hVs : V.heap.size = wr.heap.size + 1 := by rw [hV]; simp
      have hbase : w.heap.size ≤ V.heap.size := by have := hbel.out.size; omega
      have hsz : (s ++ ⟨#[61]⟩ : ByteArray).size = s.size + 1 := by rw [ByteArray.size_append]; rfl
      have HSZ := hide hsz
      have hs7 : (s ++ ⟨#[61]⟩ : ByteArray).size ≤ 7 := by omega
      have HNE : Hid (∀ v : Value, v.ownBlock = some wr.heap.size → (v.ownBlock = some wr.heap.size → wr.heap.size < wr.heap.size) → False) := fun v h h' => by have := h' h; omega
      have HFAR := hide hfar
      have HVS := hide hVs
      clear hsz hfar hown hVs
      have hwz : IntKind.u8.wrap (48 + z) = 48 + z := u8_small (by omega) (by omega)
      have HB := hide hbel
      go_wp2_with (first
        | (at_builtin; rw [← hV]; refine Lib.wpList_append_own_string _ rfl _ _ 52 9 rfl w.heap.size 5 i0 Try.underlying52 Try.underlying9 hi hz0 hz1 hz2 _ _ _ rfl hownV (s ++ ⟨#[61]⟩) rfl (by unfold maxLen; omega) (by omega) hbase ?_; intro v' w2 ho' hg' _; have d1 := cell_grown hg' c1 (fun e => HNE.out _ e HFAR.out); have hb2 := grown_below hownV hg' hbase; have hs2 := hg'.size; clear hV c0 c1 hownV hg')
        | (at_builtin; go_must (refine wpList_append_one rfl _ _ 52 rfl w.heap.size 5 i0 (.int .u8 0) 1 Try.underlying52 hi hz0 hz1 hz2 rfl _ _ _ (.int .u8 (48 + z)) rfl ho' rfl rfl (by omega) (by omega) (by omega) rfl ?_); intro v'' w3 ho'' hb3))
      have HN : Hid (∃ acc : List Int, Hid (acc = bodyZ (K.take (k + 1))) ∧ acc.length ≤ 8 * (k + 1) ∧ w3.ownsRow w.heap.size 5 1 v'' acc.length (u8s acc)) := by
        refine ⟨acc ++ kidZ (s, z), ?_, ?_, ?_⟩
        · show _ = _; rw [bodyZ_take HX.out, HA.out]
        · have h8 : (kidZ (s, z)).length ≤ 8 := kidZ_len hs6
          have h9 : (acc ++ kidZ (s, z)).length = acc.length + (kidZ (s, z)).length := List.length_append
          rw [h9]; clear h9; generalize (kidZ (s, z)).length = L8 at h8 ⊢; omega
        · have e : u8s (acc ++ kidZ (s, z)) = u8s acc ++ Lib.strCells (s ++ ⟨#[61]⟩) ++ [.int .u8 (48 + z)] := by
            unfold kidZ
            rw [← strB_cells]
            have e2 : strB (s ++ ⟨#[61]⟩) = strB s ++ [61] := by simp [strB, ByteArray.data_append]
            rw [e2]
            simp [u8s]
          rw [e]
          have e3 : (acc ++ kidZ (s, z)).length = acc.length + (s ++ ⟨#[61]⟩ : ByteArray).size + 1 := by
            have h2 : ([61, 48 + z] : List Int).length = 2 := rfl
            show (acc ++ (strB s ++ [61, 48 + z])).length = _
            rw [List.length_append, List.length_append, strB_len, HSZ.out, h2]
            omega
          rw [e3]; exact ho''
      have HBN := hide (hBV.trans (hb2.trans hb3))
      clear ho'' hb3 hb2 ho' d1 hacc HA hBV hbel
      go_wp2
      go_roundw
      case rel => exact ⟨k + 1, by omega, by go_num, HN, HBN.out⟩
      case measure => simp [intOf]; omega
    · have hkl : k = K.length := by omega
      have hB : IsBytes acc := by rw [HA.out]; exact bodyZ_bytes (fun x hx => by have := HF.out x (List.mem_of_mem_take hx); exact ⟨this.2.1, this.2.2⟩)
      have HE : Hid (strOf acc = strOf (bodyZ K)) := by show _ = _; rw [HA.out, hkl, List.take_length]
      have HB := hide hbel
      obtain ⟨a8, k8, hv8⟩ := owns_shape hown
      subst hv8
      have hcv := conv_owned hB hown
      clear hown hacc HA hbel
      go_wp2
      go_ret
      exact ⟨by rw [← HE.out]; rfl, HB.out⟩
end Go.Proofs.Ytmolhhljodlhaaa
