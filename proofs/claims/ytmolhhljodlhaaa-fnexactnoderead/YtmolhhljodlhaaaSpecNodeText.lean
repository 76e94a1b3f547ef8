/-
  Contract of the specification's NodeText.
-/
import Derived.Test.YtmolhhljodlhaaaSpecNodeOk
import Derived.Test.YtmolhhljodlhaaaBodyMath
import Derived.Test.YtmolhhljodlhaaaAppendTwo
import Derived.Deep.RegionHeld
namespace Go.Proofs.Ytmolhhljodlhaaa
open Go.RowKit Go.Deep
set_option maxRecDepth 100000
set_option linter.unusedVariables false

theorem conv_one {u : World} {g : Nat} {b : Int} (h0 : 0 ≤ b) (h1 : b ≤ 255) (hc : u.cell? ⟨g, 0, none⟩ = some (.int .u8 b)) : (convert 52 9 (.slice (some ⟨g, 0, none⟩) 1 1)).run Try.prog u = .ok (.string (strOf [b])) u := by
  refine conv_bytes (ys := [b]) (by intro z hz; simp at hz; omega) ?_
  intro i hi
  have : i = 0 := by simp at hi; omega
  subst this
  simpa using hc
theorem strOf_kid (s : ByteArray) (z : Int) : s ++ ⟨#[61]⟩ ++ strOf [48 + z] = strOf (kidZ (s, z)) := by
  unfold kidZ
  rw [strOf_app, strOf_strB]
  have : ([61, 48 + z] : List Int) = [61] ++ [48 + z] := rfl
  rw [this, strOf_app]
  rw [ByteArray.append_assoc]
  rfl

set_option maxHeartbeats 6400000 in
theorem specNodeText_any (dir : Bool) (a b : Option Addr) (ns : List ByteArray) (ks : List Int) (dat : ByteArray) (c d : Nat) (w : World) (hp : Rd w a (vsString ns)) (hw : Rd w b (vsInt ks)) (hl : ns.length ≤ 1048576) (hm : ks.length ≤ 1048576) (hs : ∀ s ∈ ns, s.size ≤ 1048576) (hd : dat.size ≤ 1048576) :
    Calls Try.prog 16 #[.agg #[.bool dir, .slice a ns.length c, .slice b ks.length d, .string dat]] w fun e w' => e = .returned (.string (nodeT dir ns ks dat)) ∧ Below w.heap.size w w' := by
  obtain ⟨W, hW⟩ : ∃ W, W = w.alloc (Obj.cells #[.bool dir, .slice a ns.length c, .slice b ks.length d, .string dat] 29) := ⟨_, rfl⟩
  have hbW : Below w.heap.size w W := by rw [hW]; exact (Below.refl _ _).alloc (Nat.le_refl _) _
  have k0 : At W w.heap.size [.bool dir, .slice a ns.length c, .slice b ks.length d, .string dat] := by rw [hW]; exact at_new w [_, _, _, _] _
  have HP := hide (hp.below hbW)
  have HQ := hide (hw.below hbW)
  have HW := hide hW
  have HB := hide hbW
  have HS := hide hs
  have HK := hide k0
  clear hp hw hs k0 hW hbW
  go_enter Try.func16, Try.ntmps16
  go_wp2_with fail
  rw [← HW.out]
  refine (specNodeOk_any dir a b ns ks dat c d W HP.out HQ.out hl hm HS.out hd).mono ?_
  rintro e w1 ⟨rfl, hb⟩
  have HB1 := hide hb
  cases hF : nodeB dir ns ks dat with
  | false =>
    have HT : Hid (nodeT dir ns ks dat = ⟨#[]⟩) := nodeT_no hF
    clear hb
    go_wp2
    go_ret
    exact ⟨by rw [HT.out]; rfl, after HB.out HB1.out⟩
  | true =>
    have kk := HK.out.below hb
    have c0 : w1.cell? ⟨w.heap.size, 0, none⟩ = some (.bool dir) := kk.2 0 (by simp)
    have c1 : w1.cell? ⟨w.heap.size, 1, none⟩ = some (.slice a ns.length c) := kk.2 1 (by simp)
    have c3 : w1.cell? ⟨w.heap.size, 3, none⟩ = some (.string dat) := kk.2 3 (by simp)
    clear kk hb
    cases dir with
    | false =>
      have hsz : (⟨#[102]⟩ : ByteArray).size = 1 := rfl
      have HT : Hid (nodeT false ns ks dat = ⟨#[102]⟩ ++ dat) := by
        show _ = _
        rw [nodeT_yes hF]
        have := strOf_app [102] (strB dat)
        rw [strOf_strB] at this
        exact this
      go_wp2
      go_ret
      exact ⟨by rw [HT.out]; rfl, after HB.out HB1.out⟩
    | true =>
      have hfit : ns.length = ks.length ∧ fitsB (ns.zip ks) = true := by
        unfold nodeB at hF
        simp only [if_true, Bool.and_eq_true, decide_eq_true_eq] at hF
        exact ⟨hF.1.2, hF.2⟩
      obtain ⟨K, hK⟩ : ∃ K, K = ns.zip ks := ⟨_, rfl⟩
      have hKl : K.length = ns.length := by rw [hK]; simp; omega
      have HT : Hid (nodeT true ns ks dat = strOf (100 :: bodyZ K)) := by show _ = _; rw [nodeT_yes hF, hK]; rfl
      have HM := hide (fun x hx => fitsB_mem (hK ▸ hfit.2) (x := x) hx)
      have HKZ := hide hK
      have HKL := hide hKl
      have HN := hide hfit.1
      clear hK hKl hfit hF
      go_wp2_with fail
      clear c0 c1 c3
      go_loopw [3, 4] (fun v i wr => ∃ k : Nat, ∃ o : ByteArray, k ≤ ns.length ∧ i = .int .i64 k ∧ v = .string o ∧ o.size ≤ 1 + 8 * k ∧ Hid (o = strOf (100 :: bodyZ (K.take k))) ∧ Hid (Below W.heap.size W wr)) (fun _ i _ => ns.length - (intOf i).toNat)
      case atStart => exact ⟨0, ⟨#[100]⟩, Nat.zero_le _, rfl, rfl, by decide, rfl, HB1.out⟩
      case round =>
        obtain ⟨k, o, hk, rfl, rfl, hos, ho, hbel⟩ := hrel
        have kk := HK.out.below hbel.out
        have c1 : wr.cell? ⟨w.heap.size, 1, none⟩ = some (.slice a ns.length c) := kk.2 1 (by simp)
        have c2 : wr.cell? ⟨w.heap.size, 2, none⟩ = some (.slice b ks.length d) := kk.2 2 (by simp)
        by_cases hlt : k < ns.length
        · have hki : (k : Int) < (ns.length : Int) := by omega
          have hkk : k < ks.length := by have := HN.out; omega
          have hki2 : (k : Int) < (ks.length : Int) := by omega
          obtain ⟨b1, o1, s, ha1, h0, HX⟩ := rdString_at (HP.out.below hbel.out) hlt
          subst ha1
          obtain ⟨b2, o2, z, hb2, h1, HY⟩ := rdInt_at (HQ.out.below hbel.out) hkk
          subst hb2
          have hz : K[k]? = some (s, z) := by rw [HKZ.out, List.getElem?_zip_eq_some]; exact ⟨HX.out, HY.out⟩
          obtain ⟨hn6, hz1, hz2⟩ := HM.out _ (List.mem_of_getElem? hz)
          have hz1 : 1 ≤ z := hz1
          have hz2 : z ≤ 11 := hz2
          have hs6 : s.size ≤ 6 := (nameB_size hn6).2
          have hwz : IntKind.u8.wrap (48 + z) = 48 + z := u8_small (by omega) (by omega)
          have HO : Hid (o ++ s ++ ⟨#[61]⟩ ++ strOf [48 + z] = strOf (100 :: bodyZ (K.take (k + 1)))) := by
            show _ = _
            have e : o ++ s ++ ⟨#[61]⟩ ++ strOf [48 + z] = o ++ (s ++ ⟨#[61]⟩ ++ strOf [48 + z]) := by simp only [ByteArray.append_assoc]
            rw [e, bodyZ_take hz, ho.out, strOf_kid, ← strOf_app]; rfl
          have hs1 : (strOf [48 + z]).size = 1 := rfl
          have hs2 : (⟨#[61]⟩ : ByteArray).size = 1 := rfl
          have HSZ : Hid ((o ++ s ++ ⟨#[61]⟩ ++ strOf [48 + z]).size ≤ 1 + 8 * (k + 1)) := by show _ ≤ _; rw [ByteArray.size_append, ByteArray.size_append, ByteArray.size_append, hs1, hs2]; omega
          have hcv1 := conv_one (u := wr.alloc (Obj.cells #[.int .u8 (48 + z)] 5)) (g := wr.heap.size) (b := 48 + z) (by omega) (by omega) (by simp)
          have hcv2 := conv_one (u := (wr.alloc (Obj.cells #[.int .u8 (48 + z)] 5)).drew) (g := wr.heap.size) (b := 48 + z) (by omega) (by omega) (show (wr.alloc (Obj.cells #[.int .u8 (48 + z)] 5)).cell? _ = _ by simp)
          have hw64 : IntKind.i64.wrap (48 + z) = 48 + z := IntWalk.i64_in _ (by omega)
          have hcv3 : (convert 52 9 (.slice (some ⟨wr.heap.size, 0, none⟩) 1 1)).run Try.prog (wr.alloc (Obj.cells #[.int .u8 (IntKind.u8.wrap (IntKind.i64.wrap (48 + z)))] 5)).drew = .ok (.string (strOf [48 + z])) (wr.alloc (Obj.cells #[.int .u8 (IntKind.u8.wrap (IntKind.i64.wrap (48 + z)))] 5)).drew := by rw [hw64, hwz]; exact hcv2
          clear hz hn6 kk hw64
          go_wp2
          go_region_held (fun u => u.cell? ⟨w.heap.size, 1, none⟩ = some (.slice (some ⟨b1, o1, none⟩) ns.length c) ∧ u.cell? ⟨w.heap.size, 2, none⟩ = some (.slice (some ⟨b2, o2, none⟩) ks.length d) ∧ u.cell? ⟨b1, o1 + k, none⟩ = some (.string s) ∧ u.cell? ⟨b2, o2 + k, none⟩ = some (.int .i64 z)) (first | assumption | go_keep) (fail)
          all_goals (
            have HBN : Hid (Below W.heap.size W (wr.alloc (Obj.cells #[.int .u8 (48 + z)] 5)).drew) := (hbel.out.alloc hbel.out.size _).drew
            clear hcv1 hcv2 hcv3 hbel ho hwz h0 h1 c1 c2
            go_wp2
            go_roundw
            case rel => exact ⟨k + 1, _, by omega, by go_num, rfl, HSZ.out, HO, HBN⟩
            case measure => simp [intOf]; omega)
        · have hkl : k = K.length := by have := HKL.out; omega
          have HE : Hid (o = nodeT true ns ks dat) := by show _ = _; rw [HT.out, ho.out, hkl, List.take_length]
          have HBF := hide (after HB.out hbel.out)
          clear ho hbel kk hkl
          go_wp2
          go_ret
          exact ⟨by rw [← HE.out]; rfl, HBF.out⟩
end Go.Proofs.Ytmolhhljodlhaaa
