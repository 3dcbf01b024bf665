/- Rows of the table of types. -/
import Derived.Deep.WholeRow
import Derived.Test.YtnecjofgjbfheaaGreatDoorProg
import Derived.Test.YtnecjofgjbfheaaGreatDoorKit
namespace Go.Proofs.YtnecjofgjbfheaaGreatDoor

set_option maxRecDepth 100000

theorem Tryz.infoByte : (Tryz.prog.info? 5).map (fun i => (i.zero, i.size, i.bytes)) = some (some (.int .u8 0), 1, 1) := by kernel_rfl

theorem Tryz.infoStr : (Tryz.prog.info? 9).map (fun i => (i.zero, i.size, i.bytes)) = some (some (.string ByteArray.empty), 1, 16) := by kernel_rfl

end Go.Proofs.YtnecjofgjbfheaaGreatDoor
