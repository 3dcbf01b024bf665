/- Rows of the table of types. -/
import Derived.Deep.WholeRow
import Derived.Test.YthpljpbiamjmaaaProg
import Derived.Test.YthpljpbiamjmaaaKit
namespace Go.Proofs.Ythpljpbiamjmaaa


theorem Try.infoByte : (Try.prog.info? 5).map (fun i => (i.zero, i.size, i.bytes)) = some (some (.int .u8 0), 1, 1) := by kernel_rfl

end Go.Proofs.Ythpljpbiamjmaaa
