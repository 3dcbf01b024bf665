/- Contracts: the reference disk's find, off, Cut. -/
import Derived.BigRegion
import Derived.Test.YtdhiikmndpjjdaaGreatDoorKit
import Derived.Test.YtdhiikmndpjjdaaGreatDoorRdk0
namespace Go.Proofs.YtdhiikmndpjjdaaGreatDoor
open Go.RowKit Go.Proofs

def DiskM.op (D : DiskM) : DiskM := { D with n := D.n + 1 }

end Go.Proofs.YtdhiikmndpjjdaaGreatDoor
