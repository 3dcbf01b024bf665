/- Contracts: the reference's CRC. -/
import Derived.BigRegion
import Derived.Test.YtdhiikmndpjjdaaGreatDoorKit
import Derived.Test.YtdhiikmndpjjdaaGreatDoorFrm0
namespace Go.Proofs.YtdhiikmndpjjdaaGreatDoor
open Go.RowKit Go.Proofs

theorem crcFrom_snoc (c : UInt32) (l : List UInt8) (x : UInt8) : crcFrom c (l ++ [x]) = crcByte (crcFrom c l) x := by rw [crcFrom_append]; rfl

end Go.Proofs.YtdhiikmndpjjdaaGreatDoor
