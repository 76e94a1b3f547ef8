/-
  What the two Mounts answer, of any chip: the same.
-/
import Derived.Test.YtpokjbdipponkaaCMountPart10
import Derived.Test.YtpokjbdipponkaaCMountPart15
import Derived.Test.YtpokjbdipponkaaCMountPart9
namespace Go.Proofs.Ytpokjbdipponkaa
open Go.RowKit

theorem fnExactMount_both (ps : List ByteArray) (ws : List Int)  (hk0 : ps.length ≤ 1048576) (hk1 : ws.length ≤ 1048576) (hs : ∀ s ∈ ps, s.size ≤ 1048576)  :
    ∃ (Gps : List ByteArray) (Gws : List Int) (Gms : List Int) (Gq : Int) , Gps.length ≤ 1000 ∧ Gws.length ≤ 1000 ∧ Gms.length ≤ 1000 ∧ Hid (∀ (u : World) (v : Value), ChipRd u v ps ws → Calls Try.prog 10 #[v] u fun e w' => ∃ v, e = .returned (v) ∧ FtlOwn w' u.heap.size v Gps Gws Gms Gq ∧ Below u.heap.size u w') ∧ Hid (∀ (u : World) (v : Value), ChipRd u v ps ws → Calls Try.prog 12 #[v] u fun e w' => ∃ v, e = .returned (v) ∧ FtlOwn w' u.heap.size v Gps Gws Gms Gq ∧ Below u.heap.size u w') := by
  by_cases hok : chipOkP ps ws
  · refine ⟨ps, ws, mMap ps, mSeq ps, by rw [hok.1]; decide, by rw [hok.2.1]; decide, by rw [mMap_len]; decide, ?_, ?_⟩
    · rintro u v ⟨a, c, b, d, rfl, h1, h2⟩
      exact specMount_ok a b ps ws c d u h1 h2 hok
    · rintro u v ⟨a, c, b, d, rfl, h1, h2⟩
      exact implMount_ok a b ps ws c d u h1 h2 hok
  · refine ⟨[], [], [], 0, by decide, by decide, by decide, ?_, ?_⟩
    · rintro u v ⟨a, c, b, d, rfl, h1, h2⟩
      exact specMount_bad a b ps ws c d u h1 h2 hk0 hk1 hs hok
    · rintro u v ⟨a, c, b, d, rfl, h1, h2⟩
      exact implMount_bad a b ps ws c d u h1 h2 hk0 hk1 hs hok

end Go.Proofs.Ytpokjbdipponkaa
