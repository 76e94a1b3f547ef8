/-
  Mathematics of nodes' texts.
-/
import Derived.Test.YtmolhhljodlhaaaNodeMath
import Derived.Test.YtmolhhljodlhaaaNumMath
namespace Go.Proofs.Ytmolhhljodlhaaa
open Go.RowKit
set_option linter.unusedVariables false

def kidZ (x : ByteArray × Int) : List Int := strB x.1 ++ [61, 48 + x.2]
def bodyZ (K : List (ByteArray × Int)) : List Int := K.flatMap kidZ
def nodeZ (dir : Bool) (ns : List ByteArray) (ks : List Int) (dat : ByteArray) : List Int := if dir then 100 :: bodyZ (ns.zip ks) else 102 :: strB dat
def nodeT (dir : Bool) (ns : List ByteArray) (ks : List Int) (dat : ByteArray) : ByteArray := if nodeB dir ns ks dat = true then strOf (nodeZ dir ns ks dat) else ⟨#[]⟩

theorem bodyZ_take {K : List (ByteArray × Int)} {k : Nat} {x : ByteArray × Int} (h : K[k]? = some x) : bodyZ (K.take (k + 1)) = bodyZ (K.take k) ++ kidZ x := by
  unfold bodyZ; rw [List.take_add_one, h]; simp
theorem bodyZ_app (K M : List (ByteArray × Int)) : bodyZ (K ++ M) = bodyZ K ++ bodyZ M := by simp [bodyZ]
theorem goodB_parts {K : List (ByteArray × Int)} {i : Nat} {x : ByteArray × Int} (h : goodB K i x = true) : nameB x.1 = true ∧ 1 ≤ x.2 ∧ x.2 ≤ 11 := by
  unfold goodB at h
  simp only [Bool.and_eq_true, decide_eq_true_eq] at h
  exact ⟨h.1.1.1, h.1.2.1, h.1.2.2⟩
theorem fitsB_mem {K : List (ByteArray × Int)} (h : fitsB K = true) {x : ByteArray × Int} (hx : x ∈ K) : nameB x.1 = true ∧ 1 ≤ x.2 ∧ x.2 ≤ 11 := by
  obtain ⟨i, hi⟩ := List.mem_iff_getElem?.mp hx
  exact goodB_parts (fitsB_at h hi)
theorem isBytes_app {a b : List Int} (h : IsBytes a) (k : IsBytes b) : IsBytes (a ++ b) := by
  intro z hz
  rcases List.mem_append.mp hz with h' | h'
  · exact h z h'
  · exact k z h'
theorem kidZ_bytes {x : ByteArray × Int} (h0 : 1 ≤ x.2) (h1 : x.2 ≤ 11) : IsBytes (kidZ x) := isBytes_app (strB_bytes _) (by
  intro z hz
  simp at hz
  rcases hz with rfl | rfl <;> omega)
theorem bodyZ_bytes {K : List (ByteArray × Int)} (h : ∀ x ∈ K, 1 ≤ x.2 ∧ x.2 ≤ 11) : IsBytes (bodyZ K) := by
  induction K with
  | nil => intro z hz; simp [bodyZ] at hz
  | cons x K ih =>
    have e : bodyZ (x :: K) = kidZ x ++ bodyZ K := by simp [bodyZ]
    rw [e]
    have := h x (by simp)
    exact isBytes_app (kidZ_bytes this.1 this.2) (ih fun y hy => h y (by simp [hy]))
theorem kidZ_len {x : ByteArray × Int} (h : x.1.size ≤ 6) : (kidZ x).length ≤ 8 := by unfold kidZ; rw [List.length_append, strB_len]; simp; omega
theorem bodyZ_len {K : List (ByteArray × Int)} (h : ∀ x ∈ K, x.1.size ≤ 6) : (bodyZ K).length ≤ 8 * K.length := by
  induction K with
  | nil => simp [bodyZ]
  | cons x K ih =>
    have e : bodyZ (x :: K) = kidZ x ++ bodyZ K := by simp [bodyZ]
    rw [e, List.length_append, List.length_cons]
    have := kidZ_len (h x (by simp)); have := ih fun y hy => h y (by simp [hy])
    omega
theorem strOf_app (a b : List Int) : strOf (a ++ b) = strOf a ++ strOf b := by
  unfold strOf
  apply ByteArray.ext
  simp [ByteArray.data_append]
theorem nodeT_no {dir : Bool} {ns : List ByteArray} {ks : List Int} {dat : ByteArray} (h : nodeB dir ns ks dat = false) : nodeT dir ns ks dat = ⟨#[]⟩ := by unfold nodeT; rw [h]; rfl
theorem nodeT_yes {dir : Bool} {ns : List ByteArray} {ks : List Int} {dat : ByteArray} (h : nodeB dir ns ks dat = true) : nodeT dir ns ks dat = strOf (nodeZ dir ns ks dat) := by unfold nodeT; rw [h]; rfl
theorem cell_grown {w w' : World} {row : Option Nat} (hg : w.grownBy w' row) {p o : Nat} {v : Value} (hc : w.cell? ⟨p, o, none⟩ = some v) (hne : row ≠ some p) : w'.cell? ⟨p, o, none⟩ = some v := by
  have hlt := lt_of_cell hc
  have := hg.block p hlt (fun e => hne e.symm)
  simp only [World.cell?, this] at hc ⊢
  exact hc
theorem u8s_length (zs : List Int) : (u8s zs).length = zs.length := by simp [u8s]
end Go.Proofs.Ytmolhhljodlhaaa
