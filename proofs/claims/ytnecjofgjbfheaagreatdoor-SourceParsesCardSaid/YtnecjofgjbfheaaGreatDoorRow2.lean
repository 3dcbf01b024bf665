/- Rows more: a part of a block, an element of an array by value, a copy into a block. -/
import Derived.Deep.MidRow
import Derived.Laws.CopyOwn
import Derived.Shelf.Abstract
import Derived.Test.YtnecjofgjbfheaaGreatDoorKit
import Derived.Test.YtnecjofgjbfheaaGreatDoorRow
namespace Go.Proofs.YtnecjofgjbfheaaGreatDoor
open Go.RowKit Go.Proofs
set_option maxRecDepth 100000

theorem Rw.drew {w w' : World} {base g : Nat} {e : TypeId} {xs : List Value} (h : Rw w base g e xs) (hd : Drew w w') : Rw w' base g e xs := by
  obtain ⟨m, rfl⟩ := hd
  exact h

end Go.Proofs.YtnecjofgjbfheaaGreatDoor
