/- Same, UTF8, and what the document fixes (awake): at this program, where the library's two tables lie as its text lays them. -/
import Derived.Test.YtlhdafinfgdlkaaGreatDoorShelf
import Derived.Test.YtlhdafinfgdlkaaGreatDoorVshelf
import Derived.Lib.Strings
import Derived.Test.YtlhdafinfgdlkaaGreatDoorProg
import Derived.Test.YtlhdafinfgdlkaaGreatDoorKit
import Derived.Test.YtlhdafinfgdlkaaGreatDoorRow
namespace Go.Proofs.YtlhdafinfgdlkaaGreatDoor
open Go.RowKit Go.Proofs
set_option maxRecDepth 100000

/-- The library's two tables. -/
def Tabs9 (w : World) : Prop := Lib.Utf8Tabs 0 1 w

theorem utf8_any (s : ByteArray) (hs : s.size ≤ 1073741824) (w : World) (hT : Tabs9 w) :
    Calls Tryz.prog 23 #[.string s] w fun e w' => e = .returned (.bool (Lib.validD s.data.toList)) ∧ Below w.heap.size w w' := by
  have hv := Tryz.utf8_ValidString s w (by omega) hT
  go_enter Tryz.func23, Tryz.ntmps23
  go_wp2_with fail
  refine hv.mono ?_
  rintro e w1 ⟨rfl, hb⟩
  go_wp2
  go_ret
  exact ⟨rfl, hb⟩

end Go.Proofs.YtlhdafinfgdlkaaGreatDoor
