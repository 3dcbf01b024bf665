/- Numbers of four bytes: the code's number and setNumber; a made row with room; the checksum of a frame. -/
import Derived.BigRegion
import Derived.Deep.RegionHeld3
import Derived.Test.YtfiocghgjjandaaKit
import Derived.Test.YtfiocghgjjandaaCod2
namespace Go.Proofs.Ytfiocghgjjandaa
open Go.RowKit Go.Proofs

def w4 (a b c d : UInt8) : UInt32 := a.toUInt32 <<< 24 ||| b.toUInt32 <<< 16 ||| c.toUInt32 <<< 8 ||| d.toUInt32

theorem byAt_take {w : World} {b o : Nat} {l : List UInt8} (h : ByAt w b o l) (n : Nat) : ByAt w b o (l.take n) := fun j x hj => by
  rw [List.getElem?_take] at hj
  split at hj
  · exact h j x hj
  · cases hj

end Go.Proofs.Ytfiocghgjjandaa
