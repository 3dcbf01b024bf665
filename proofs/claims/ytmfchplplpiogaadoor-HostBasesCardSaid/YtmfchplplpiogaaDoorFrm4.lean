/- Numbers of four bytes: the code's number and setNumber; a made row with room; the checksum of a frame. -/
import Derived.BigRegion
import Derived.Deep.RegionHeld3
import Derived.Test.YtmfchplplpiogaaDoorKit
namespace Go.Proofs.YtmfchplplpiogaaDoor
open Go.RowKit Go.Proofs

def w4 (a b c d : UInt8) : UInt32 := a.toUInt32 <<< 24 ||| b.toUInt32 <<< 16 ||| c.toUInt32 <<< 8 ||| d.toUInt32

end Go.Proofs.YtmfchplplpiogaaDoor
