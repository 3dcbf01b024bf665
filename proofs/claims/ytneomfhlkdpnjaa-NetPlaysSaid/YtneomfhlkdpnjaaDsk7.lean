/- Contracts: the code's Append. -/
import Derived.BigRegion
import Derived.Deep.RegionHeld3
import Derived.Maps.OwnSet
import Derived.Test.YtneomfhlkdpnjaaKit
import Derived.Test.YtneomfhlkdpnjaaRow
import Derived.Test.YtneomfhlkdpnjaaFp
namespace Go.Proofs.Ytneomfhlkdpnjaa
open Go.RowKit Go.Proofs Go.Maps

theorem kept_mono {F G : Nat → Prop} {w w' : World} (h : Kept G w w') (hG : ∀ k, G k → F k ∨ w.heap.size ≤ k) : Kept F w w' := kept_then (kept_refl F w) h hG

end Go.Proofs.Ytneomfhlkdpnjaa
