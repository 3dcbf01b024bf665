/- Contracts: the reference disk's find, off, Cut. -/
import Derived.BigRegion
import Derived.Test.YthpljpbiamjmaaaKit
import Derived.Test.YthpljpbiamjmaaaRdk0
namespace Go.Proofs.Ythpljpbiamjmaaa
open Go.RowKit Go.Proofs

def DiskM.op (D : DiskM) : DiskM := { D with n := D.n + 1 }

end Go.Proofs.Ythpljpbiamjmaaa
