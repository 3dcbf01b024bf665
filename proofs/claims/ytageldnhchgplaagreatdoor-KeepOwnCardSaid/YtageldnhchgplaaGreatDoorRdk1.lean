/- Contracts: the reference disk's find, off, Cut. -/
import Derived.BigRegion
import Derived.Test.YtageldnhchgplaaGreatDoorKit
import Derived.Test.YtageldnhchgplaaGreatDoorRdk0
namespace Go.Proofs.YtageldnhchgplaaGreatDoor
open Go.RowKit Go.Proofs

def DiskM.op (D : DiskM) : DiskM := { D with n := D.n + 1 }

end Go.Proofs.YtageldnhchgplaaGreatDoor
