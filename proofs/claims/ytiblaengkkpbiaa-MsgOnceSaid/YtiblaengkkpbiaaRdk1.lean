/- Contracts: the reference disk's find, off, Cut. -/
import Derived.BigRegion
import Derived.Test.YtiblaengkkpbiaaKit
import Derived.Test.YtiblaengkkpbiaaRdk0
namespace Go.Proofs.Ytiblaengkkpbiaa
open Go.RowKit Go.Proofs

def DiskM.op (D : DiskM) : DiskM := { D with n := D.n + 1 }

end Go.Proofs.Ytiblaengkkpbiaa
