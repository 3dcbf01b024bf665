/- Contracts: the reference's Lay and Get. -/
import Derived.BigRegion
import Derived.Test.YthpljpbiamjmaaaKit
import Derived.Test.YthpljpbiamjmaaaFrm0
namespace Go.Proofs.Ythpljpbiamjmaaa
open Go.RowKit Go.Proofs

theorem lay_snoc : ∀ (n V k : Nat), k < n → (layS n V).take (k + 1) = (layS n V).take k ++ [UInt8.ofNat (V / 256 ^ (n - 1 - k))]
  | 0, _, _, h => absurd h (Nat.not_lt_zero _)
  | n + 1, V, 0, _ => by simp [layS]
  | n + 1, V, k + 1, h => by
    have := lay_snoc n V k (by omega)
    rw [layS, List.take_succ_cons, List.take_succ_cons, this, List.cons_append, show n + 1 - 1 - (k + 1) = n - 1 - k by omega]

theorem lay_byte (V j : Nat) : Value.int .u8 ((V : Int) / 2 ^ (8 * j) % 256) = byteV (UInt8.ofNat (V / 256 ^ j)) := by
  unfold byteV
  rw [UInt8.toNat_ofNat', show (256 : Nat) ^ j = 2 ^ (8 * j) by rw [show (256 : Nat) = 2 ^ 8 from rfl, ← Nat.pow_mul]]
  congr 1

end Go.Proofs.Ythpljpbiamjmaaa
