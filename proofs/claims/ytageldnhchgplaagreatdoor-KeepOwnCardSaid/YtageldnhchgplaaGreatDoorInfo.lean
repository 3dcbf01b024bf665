/- Rows of the table of types. -/
import Derived.Deep.WholeRow
import Derived.Test.YtageldnhchgplaaGreatDoorProg
import Derived.Test.YtageldnhchgplaaGreatDoorKit
namespace Go.Proofs.YtageldnhchgplaaGreatDoor


theorem Tryz.infoByte : (Tryz.prog.info? 5).map (fun i => (i.zero, i.size, i.bytes)) = some (some (.int .u8 0), 1, 1) := by kernel_rfl

end Go.Proofs.YtageldnhchgplaaGreatDoor
