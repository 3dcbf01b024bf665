/- Contracts: the reference disk's find, off, Cut. -/
import Derived.BigRegion
import Derived.Test.YtmchdfdpajobfaaKit
import Derived.Test.YtmchdfdpajobfaaRdk0
namespace Go.Proofs.Ytmchdfdpajobfaa
open Go.RowKit Go.Proofs

def DiskM.op (D : DiskM) : DiskM := { D with n := D.n + 1 }

end Go.Proofs.Ytmchdfdpajobfaa
