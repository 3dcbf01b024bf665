/- What a row's list gives: the table of sixteen words. -/
import Derived.Lib.LaidTab
import Derived.Stop.LaidErr
import Derived.Deep.DeepHandedRow
import Derived.Test.YtblocggiljdamaaDoorRows
import Derived.Test.YtblocggiljdamaaDoorKit
import Derived.Test.YtblocggiljdamaaDoorFrm3
namespace Go.Proofs.YtblocggiljdamaaDoor
open Go.RowKit Go.Proofs

theorem Tryd.nibType : (Tryd.prog.globals[0]?).map (·.type) = some 49 := by kernel_rfl

theorem Tryd.nibCells : Tryd.prog.cellsOf 49 = 16 := by kernel_rfl

theorem Tryd.u32Cells : Tryd.prog.cellsOf 30 = 1 := by kernel_rfl

theorem nib_of {W : World} (h : laidMetH Tryd.prog [("parapet/frame.nibbles", Rows.laid_parapet_frame_nibbles)] W) : NibAt W :=
  Lib.tabIs_of_head (rest := []) Tryd.nibNamed Tryd.nibType Tryd.underlying49 Tryd.underlying30 Tryd.u32Cells Tryd.nibCells h

end Go.Proofs.YtblocggiljdamaaDoor
