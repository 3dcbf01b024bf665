/- Contracts: the reference's Get and Put. -/
import Derived.BigRegion
import Derived.Deep.RegionHeldLaw
import Derived.Test.YthpljpbiamjmaaaKit
import Derived.Test.YthpljpbiamjmaaaFrm0
namespace Go.Proofs.Ythpljpbiamjmaaa
open Go.RowKit Go.Proofs

theorem numS_snoc (l : List UInt8) (x : UInt8) : numS (l ++ [x]) = numS l * 256 + x.toNat := by simp [numS]

theorem numS_lt (l : List UInt8) : numS l < 256 ^ l.length := by
  suffices ∀ (n : Nat) (l : List UInt8), l.length = n → numS l < 256 ^ n from this _ l rfl
  intro n
  induction n with
  | zero => intro l h; rw [List.eq_nil_of_length_eq_zero h]; decide
  | succ n ih =>
    intro l h
    have hne : l ≠ [] := by intro e; rw [e] at h; simp at h
    have h1 : l = l.dropLast ++ [l.getLast hne] := (List.dropLast_concat_getLast hne).symm
    have h2 := ih l.dropLast (by rw [List.length_dropLast]; omega)
    rw [h1, numS_snoc, Nat.pow_succ]
    have := (l.getLast hne).toNat_lt
    omega

end Go.Proofs.Ythpljpbiamjmaaa
