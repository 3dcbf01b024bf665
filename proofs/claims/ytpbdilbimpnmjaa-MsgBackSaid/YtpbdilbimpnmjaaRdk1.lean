/- Contracts: the reference disk's find, off, Cut. -/
import Derived.BigRegion
import Derived.Test.YtpbdilbimpnmjaaKit
import Derived.Test.YtpbdilbimpnmjaaRdk0
namespace Go.Proofs.Ytpbdilbimpnmjaa
open Go.RowKit Go.Proofs

def DiskM.op (D : DiskM) : DiskM := { D with n := D.n + 1 }

end Go.Proofs.Ytpbdilbimpnmjaa
