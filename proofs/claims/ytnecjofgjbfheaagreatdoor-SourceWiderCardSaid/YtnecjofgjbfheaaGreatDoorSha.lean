/- The sum by words: no dump. -/
import Derived.Test.YtnecjofgjbfheaaGreatDoorKit
namespace Go.Proofs.YtnecjofgjbfheaaGreatDoor
open Go.RowKit Go.Proofs
set_option maxRecDepth 100000

/-- Eight words. -/
structure H8 where
  a : UInt32
  b : UInt32
  c : UInt32
  d : UInt32
  e : UInt32
  f : UInt32
  g : UInt32
  h : UInt32

/-- Four bytes, the first the greatest. -/
def word4 (l : List UInt8) (i : Nat) : UInt32 := (l.getD (4 * i) 0).toUInt32 <<< 24 ||| (l.getD (4 * i + 1) 0).toUInt32 <<< 16 ||| (l.getD (4 * i + 2) 0).toUInt32 <<< 8 ||| (l.getD (4 * i + 3) 0).toUInt32

def words (l : List UInt8) (n : Nat) : List UInt32 := (List.range n).map (word4 l)

end Go.Proofs.YtnecjofgjbfheaaGreatDoor
