/- Contracts: the reference's Put. -/
import Derived.BigRegion
import Derived.Deep.RegionHeldLaw
import Derived.Test.YtifkebjfedpaoaaKit
namespace Go.Proofs.Ytifkebjfedpaoaa
open Go.RowKit Go.Proofs

theorem own_sliceAt {w : World} {base : Nat} {e : TypeId} {v : Value} {n : Nat} {l : List UInt8} (h : w.ownsRow base e 1 v n (l.map byteV)) : SliceAt w v (l.map byteV) := SliceAt.own h

end Go.Proofs.Ytifkebjfedpaoaa
