/- Contracts: the reference disk's find, off, Cut. -/
import Derived.BigRegion
import Derived.Test.YtmfchplplpiogaaDoorKit
import Derived.Test.YtmfchplplpiogaaDoorRdk0
namespace Go.Proofs.YtmfchplplpiogaaDoor
open Go.RowKit Go.Proofs

def DiskM.op (D : DiskM) : DiskM := { D with n := D.n + 1 }

end Go.Proofs.YtmfchplplpiogaaDoor
