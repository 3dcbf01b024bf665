/- Contracts: the reference's Lay and Get. -/
import Derived.BigRegion
import Derived.Test.YtageldnhchgplaaGreatDoorKit
namespace Go.Proofs.YtageldnhchgplaaGreatDoor
open Go.RowKit Go.Proofs

theorem lay_byte (V j : Nat) : Value.int .u8 ((V : Int) / 2 ^ (8 * j) % 256) = byteV (UInt8.ofNat (V / 256 ^ j)) := by
  unfold byteV
  rw [UInt8.toNat_ofNat', show (256 : Nat) ^ j = 2 ^ (8 * j) by rw [show (256 : Nat) = 2 ^ 8 from rfl, ← Nat.pow_mul]]
  congr 1

end Go.Proofs.YtageldnhchgplaaGreatDoor
