/- What the preparation makes of a text that is UTF-8: bytes at the ends go, tabs and line ends go. -/
import Derived.Test.YtnecjofgjbfheaaGreatDoorShelf
import Derived.Lib.TrimUEq
import Derived.Lib.MapLaws
import Derived.Lib.ValidLaws
import Derived.Shelf.GgClosure.StringsTrimFunc
import Derived.Test.YtnecjofgjbfheaaGreatDoorKit
import Derived.Test.YtnecjofgjbfheaaGreatDoorUrl0
namespace Go.Proofs.YtnecjofgjbfheaaGreatDoor
open Go.RowKit Go.Proofs
set_option maxRecDepth 100000

theorem clean_len (l : List UInt8) : (cleanL l).length ≤ l.length := by
  unfold cleanL trimC
  refine Nat.le_trans (List.length_filter_le _ _) ?_
  rw [List.length_reverse]
  refine Nat.le_trans ((List.dropWhile_sublist _).length_le) ?_
  rw [List.length_reverse]
  exact (List.dropWhile_sublist _).length_le

end Go.Proofs.YtnecjofgjbfheaaGreatDoor
