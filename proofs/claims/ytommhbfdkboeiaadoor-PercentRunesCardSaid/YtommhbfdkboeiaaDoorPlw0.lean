/- What the rows' list gives: the library's two tables. -/
import Derived.Test.YtommhbfdkboeiaaDoorVshelf
import Derived.Lib.LaidU8T
import Derived.PinnedBridge
import Derived.Stop.LaidErr
import Derived.Deep.DeepHandedRow
import Derived.Test.YtommhbfdkboeiaaDoorRows
import Derived.Test.YtommhbfdkboeiaaDoorKit
import Derived.Test.YtommhbfdkboeiaaDoorPct6
namespace Go.Proofs.YtommhbfdkboeiaaDoor
open Go.RowKit Go.Proofs

theorem u8extra : U8Extra Tryd.prog Tryd.lays196_ren := ⟨by kernel_rfl, by kernel_rfl, by kernel_rfl, by kernel_rfl, by kernel_rfl, by kernel_rfl, by kernel_rfl⟩

theorem accept_eq : (Rows.laid_unicode_utf8_acceptRanges : DataW Unit) = Lib.acceptData := by kernel_rfl

theorem tabs_of {W : World} (h : laidMetH Tryd.prog [("unicode/utf8.acceptRanges", Rows.laid_unicode_utf8_acceptRanges), ("unicode/utf8.first", Rows.laid_unicode_utf8_first)] W) : Tabs9 W := by
  have h2 : laidMet Tryd.prog [("unicode/utf8.acceptRanges", Rows.laid_unicode_utf8_acceptRanges), ("unicode/utf8.first", Rows.laid_unicode_utf8_first)] W := h
  have r1 := Lib.laidMet.reads h2 (.head _)
  have r2 := Lib.laidMet.reads h2 (.tail _ (.head _))
  rw [accept_eq] at r1
  have e2 : (Rows.laid_unicode_utf8_first : DataW Unit) = Lib.firstData := Pinned.utf8First_eq
  rw [e2] at r2
  exact utf8Tabs_of_readsT (U8Types.of196 Tryd.lays196) u8extra r2 r1

end Go.Proofs.YtommhbfdkboeiaaDoor
