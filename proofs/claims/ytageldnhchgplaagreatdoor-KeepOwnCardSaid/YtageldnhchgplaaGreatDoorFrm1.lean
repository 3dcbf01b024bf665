/- Contracts: the reference's CRC. -/
import Derived.BigRegion
import Derived.Test.YtageldnhchgplaaGreatDoorKit
import Derived.Test.YtageldnhchgplaaGreatDoorFrm0
namespace Go.Proofs.YtageldnhchgplaaGreatDoor
open Go.RowKit Go.Proofs

theorem crcFrom_snoc (c : UInt32) (l : List UInt8) (x : UInt8) : crcFrom c (l ++ [x]) = crcByte (crcFrom c l) x := by rw [crcFrom_append]; rfl

end Go.Proofs.YtageldnhchgplaaGreatDoor
