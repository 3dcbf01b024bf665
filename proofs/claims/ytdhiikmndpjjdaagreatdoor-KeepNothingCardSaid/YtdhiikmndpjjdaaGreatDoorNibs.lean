/- What a row's list gives: the table of sixteen words. -/
import Derived.Lib.LaidTab
import Derived.Stop.LaidErr
import Derived.Deep.DeepHandedRow
import Derived.Test.YtdhiikmndpjjdaaGreatDoorRows
import Derived.Test.YtdhiikmndpjjdaaGreatDoorKit
import Derived.Test.YtdhiikmndpjjdaaGreatDoorFrm3
namespace Go.Proofs.YtdhiikmndpjjdaaGreatDoor
open Go.RowKit Go.Proofs

theorem Tryz.nibType : (Tryz.prog.globals[0]?).map (·.type) = some 156 := by kernel_rfl

theorem Tryz.nibCells : Tryz.prog.cellsOf 156 = 16 := by kernel_rfl

theorem Tryz.u32Cells : Tryz.prog.cellsOf 141 = 1 := by kernel_rfl

theorem nib_of {W : World} (h : laidMetH Tryz.prog [("parapet/frame.nibbles", Rows.laid_parapet_frame_nibbles)] W) : NibAt W :=
  Lib.tabIs_of_head (rest := []) Tryz.nibNamed Tryz.nibType Tryz.underlying156 Tryz.underlying141 Tryz.u32Cells Tryz.nibCells h

end Go.Proofs.YtdhiikmndpjjdaaGreatDoor
