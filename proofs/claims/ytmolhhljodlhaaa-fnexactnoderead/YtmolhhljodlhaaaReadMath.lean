/-
  Mathematics of nodes read from their texts.
-/
import Derived.Test.YtmolhhljodlhaaaBodyMath
import Derived.Lib.Bytealg
namespace Go.Proofs.Ytmolhhljodlhaaa
open Go.RowKit
set_option linter.unusedVariables false

/-- What stands ahead of the first sign, and behind it. -/
def cutU : List UInt8 → Option (List UInt8 × List UInt8)
  | [] => none
  | b :: l => if b = 61 then some ([], l) else match cutU l with | none => none | some p => some (b :: p.1, p.2)
theorem cutU_index (l : List UInt8) : (Lib.indexByte l 61 = -1 ∧ cutU l = none ∧ ∀ b ∈ l, b ≠ 61) ∨ ∃ i : Nat, Lib.indexByte l 61 = i ∧ i < l.length ∧ cutU l = some (l.take i, l.drop (i + 1)) ∧ l[i]? = some 61 ∧ ∀ b ∈ l.take i, b ≠ 61 := by
  induction l with
  | nil => left; exact ⟨rfl, rfl, by simp⟩
  | cons b l ih =>
    by_cases hb : b = 61
    · right
      subst hb
      exact ⟨0, by simp [Lib.indexByte], by simp, by simp [cutU], by simp, by simp⟩
    · have hbe : (b == 61) = false := by rw [beq_eq_false_iff_ne]; exact hb
      rcases ih with ⟨h1, h2, h3⟩ | ⟨i, h1, h2, h3, h4, h5⟩
      · left
        refine ⟨by simp [Lib.indexByte, hbe, h1], by simp [cutU, hb, h2], ?_⟩
        intro x hx
        rcases List.mem_cons.mp hx with rfl | h'
        · exact hb
        · exact h3 x h'
      · right
        have hi : ((i : Int) == -1) = false := by rw [beq_eq_false_iff_ne]; omega
        refine ⟨i + 1, by simp only [Lib.indexByte, hbe, h1, hi]; simp, by simp; omega, by simp [cutU, hb, h3], by simpa using h4, ?_⟩
        intro x hx
        rw [List.take_succ_cons] at hx
        rcases List.mem_cons.mp hx with rfl | h'
        · exact hb
        · exact h5 x h'
theorem cutU_app {l : List UInt8} {nm rest : List UInt8} (h : cutU l = some (nm, rest)) : l = nm ++ 61 :: rest := by
  induction l generalizing nm rest with
  | nil => simp [cutU] at h
  | cons b l ih =>
    by_cases hb : b = 61
    · subst hb
      simp [cutU] at h
      obtain ⟨rfl, rfl⟩ := h; rfl
    · simp only [cutU, hb, if_false] at h
      cases hc : cutU l with
      | none => rw [hc] at h; simp at h
      | some p =>
        rw [hc] at h
        simp at h
        obtain ⟨rfl, rfl⟩ := h
        rw [ih (nm := p.1) (rest := p.2) hc]; rfl

def numU (r : UInt8) : Int := (r.toNat : Int) - 48
/-- The kids as far as they are whole, and what is left. -/
def scanU : Nat → List UInt8 → List (ByteArray × Int) × List UInt8
  | 0, l => ([], l)
  | f + 1, l => match cutU l with
    | some (nm, r :: rest) => (((⟨nm.toArray⟩ : ByteArray), numU r) :: (scanU f rest).1, (scanU f rest).2)
    | _ => ([], l)
theorem scanU_on {f : Nat} {l nm rest : List UInt8} {r : UInt8} (h : cutU l = some (nm, r :: rest)) : scanU (f + 1) l = (((⟨nm.toArray⟩ : ByteArray), numU r) :: (scanU f rest).1, (scanU f rest).2) := by simp [scanU, h]
theorem scanU_no {f : Nat} {l : List UInt8} (h : cutU l = none) : scanU f l = ([], l) := by cases f <;> simp [scanU, h]
theorem scanU_no2 {f : Nat} {l nm : List UInt8} (h : cutU l = some (nm, [])) : scanU f l = ([], l) := by cases f <;> simp [scanU, h]
/-- The text of kids, byte by byte. -/
def bodyU (K : List (ByteArray × Int)) : List UInt8 := (bodyZ K).map fun z => UInt8.ofNat z.toNat
theorem strB_mk (l : List UInt8) : strB ⟨l.toArray⟩ = l.map fun b => (b.toNat : Int) := by simp [strB]
theorem back_u8 (l : List UInt8) : (l.map fun b => (b.toNat : Int)).map (fun z => UInt8.ofNat z.toNat) = l := by
  rw [List.map_map]
  conv => rhs; rw [← List.map_id l]
  apply List.map_congr_left
  intro b _
  simp
theorem bodyU_cons (nm : List UInt8) (r : UInt8) (K : List (ByteArray × Int)) : bodyU (((⟨nm.toArray⟩ : ByteArray), numU r) :: K) = nm ++ 61 :: r :: bodyU K := by
  have e : bodyZ (((⟨nm.toArray⟩ : ByteArray), numU r) :: K) = kidZ ((⟨nm.toArray⟩ : ByteArray), numU r) ++ bodyZ K := by simp [bodyZ]
  unfold bodyU
  rw [e, List.map_append]
  unfold kidZ
  rw [List.map_append, strB_mk, back_u8]
  have : UInt8.ofNat (48 + numU r).toNat = r := by
    unfold numU
    have : (48 + ((r.toNat : Int) - 48)).toNat = r.toNat := by omega
    rw [this]; simp
  simp [this]
theorem scanU_text : ∀ (f : Nat) (l : List UInt8), bodyU (scanU f l).1 ++ (scanU f l).2 = l := by
  intro f
  induction f with
  | zero => intro l; simp [scanU, bodyU, bodyZ]
  | succ f ih =>
    intro l
    cases h : cutU l with
    | none => rw [scanU_no h]; simp [bodyU, bodyZ]
    | some p =>
      obtain ⟨nm, rest⟩ := p
      cases rest with
      | nil => rw [scanU_no2 h]; simp [bodyU, bodyZ]
      | cons r rest =>
        rw [scanU_on h, bodyU_cons]
        have := ih rest
        rw [cutU_app h]
        simp only [List.append_assoc, List.cons_append, this]
theorem scanU_len : ∀ (f : Nat) (l : List UInt8), 2 * (scanU f l).1.length ≤ l.length := by
  intro f
  induction f with
  | zero => intro l; simp [scanU]
  | succ f ih =>
    intro l
    cases h : cutU l with
    | none => rw [scanU_no h]; simp
    | some p =>
      obtain ⟨nm, rest⟩ := p
      cases rest with
      | nil => rw [scanU_no2 h]; simp
      | cons r rest =>
        rw [scanU_on h]
        have := ih rest
        have e := congrArg List.length (cutU_app h)
        simp at e ⊢
        omega
theorem strOf_body (K : List (ByteArray × Int)) (c : Int) : strOf (c :: bodyZ K) = ⟨(UInt8.ofNat c.toNat :: bodyU K).toArray⟩ := by unfold strOf bodyU; simp

/-- The node of which it is the text. -/
def readF (t : ByteArray) : List (ByteArray × Int) × List UInt8 := scanU t.size (t.data.toList.drop 1)
def readOk (t : ByteArray) : Bool := match t.data.toList with
  | [] => false
  | c :: zs => if c = 102 then decide (zs.length ≤ 60) else if c = 100 then (readF t).2.isEmpty && fitsB (readF t).1 else false
def readDir (t : ByteArray) : Bool := readOk t && decide (t.data.toList.head? = some 100)
def readKids (t : ByteArray) : List (ByteArray × Int) := if readDir t = true then (readF t).1 else []
def readDat (t : ByteArray) : ByteArray := if readOk t = true ∧ readDir t = false then ⟨(t.data.toList.drop 1).toArray⟩ else ⟨#[]⟩
theorem readKids_len (t : ByteArray) : 2 * (readKids t).length ≤ t.size := by
  unfold readKids
  split
  · have := scanU_len t.size (t.data.toList.drop 1)
    rw [List.length_drop] at this
    have e : t.data.toList.length = t.size := by simp
    unfold readF; omega
  · simp
end Go.Proofs.Ytmolhhljodlhaaa
