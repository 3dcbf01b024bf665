/- What a row's list gives: the table of sixteen words. -/
import Derived.Lib.LaidTab
import Derived.Stop.LaidErr
import Derived.Deep.DeepHandedRow
import Derived.Test.YtageldnhchgplaaGreatDoorRows
import Derived.Test.YtageldnhchgplaaGreatDoorKit
import Derived.Test.YtageldnhchgplaaGreatDoorFrm3
namespace Go.Proofs.YtageldnhchgplaaGreatDoor
open Go.RowKit Go.Proofs

theorem Tryz.nibType : (Tryz.prog.globals[0]?).map (·.type) = some 151 := by kernel_rfl

theorem Tryz.nibCells : Tryz.prog.cellsOf 151 = 16 := by kernel_rfl

theorem Tryz.u32Cells : Tryz.prog.cellsOf 136 = 1 := by kernel_rfl

theorem nib_of {W : World} (h : laidMetH Tryz.prog [("parapet/frame.nibbles", Rows.laid_parapet_frame_nibbles)] W) : NibAt W :=
  Lib.tabIs_of_head (rest := []) Tryz.nibNamed Tryz.nibType Tryz.underlying151 Tryz.underlying136 Tryz.u32Cells Tryz.nibCells h

end Go.Proofs.YtageldnhchgplaaGreatDoor
