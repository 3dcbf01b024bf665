/- What the rows' list gives: the library's table of powers of ten. -/
import Derived.Stop.LaidErr
import Derived.Deep.DeepHandedRow
import Derived.Test.YtmfchplplpiogaaDoorRows
import Derived.Test.YtmfchplplpiogaaDoorKit
import Derived.Test.YtmfchplplpiogaaDoorHst3
namespace Go.Proofs.YtmfchplplpiogaaDoor
open Go.RowKit Go.Proofs

theorem Tryd.p10Type : (Tryd.prog.globals[1]?).map (·.type) = some 89 := by kernel_rfl

theorem Tryd.p10Cells : Tryd.prog.cellsOf 89 = 20 := by kernel_rfl

theorem Tryd.p10One : Tryd.prog.cellsOf 41 = 1 := by kernel_rfl

theorem Tryd.p10Named : Tryd.prog.globalNamed "internal/strconv.uint64pow10" = some 1 := by kernel_rfl

theorem tab10_of {W : World} (h : laidMetH Tryd.prog [("math/bits.deBruijn32tab", Rows.laid_math_bits_deBruijn32tab), ("math/bits.deBruijn64tab", Rows.laid_math_bits_deBruijn64tab), ("internal/strconv.uint64pow10", Rows.laid_internal_strconv_uint64pow10)] W) : Tab10 W :=
  Lib.tabIs_of_head (rest := []) Tryd.p10Named Tryd.p10Type Tryd.underlying89 Tryd.underlying41 Tryd.p10One Tryd.p10Cells (laidMet.tail (laidMet.tail h))

end Go.Proofs.YtmfchplplpiogaaDoor
