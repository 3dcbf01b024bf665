/- Rows of the table of types. -/
import Derived.Test.YtfbimjfgklldaaaDoorProg
import Derived.Test.YtfbimjfgklldaaaDoorKit
namespace Go.Proofs.YtfbimjfgklldaaaDoor


theorem Tryd.infoByte : (Tryd.prog.info? 5).map (fun i => (i.zero, i.size, i.bytes)) = some (some (.int .u8 0), 1, 1) := by kernel_rfl

theorem Tryd.infoStr : (Tryd.prog.info? 9).map (fun i => (i.zero, i.size, i.bytes)) = some (some (.string ByteArray.empty), 1, 16) := by kernel_rfl

end Go.Proofs.YtfbimjfgklldaaaDoor
