/- Contracts: rows of bytes: an append of a whole slice, two rows held against each other, rows joined. -/
import Derived.Laws.AppendOwnNone
import Derived.Deep.RegionHeld3
import Derived.BigRegion
import Derived.Test.YtnecjofgjbfheaaGreatDoorKit
import Derived.Test.YtnecjofgjbfheaaGreatDoorCod7
namespace Go.Proofs.YtnecjofgjbfheaaGreatDoor
open Go.RowKit Go.Proofs
set_option maxRecDepth 100000

/-- A slice of bytes below block B: nil, or so many with an address. -/
def ByteSl (w : World) (B : Nat) (v : Value) (l : List UInt8) : Prop :=
  (v = .slice none 0 0 ∧ l = []) ∨ ∃ ad c, v = .slice (some ad) l.length c ∧ l.length ≤ c ∧ Lies w B (some ad) l

end Go.Proofs.YtnecjofgjbfheaaGreatDoor
