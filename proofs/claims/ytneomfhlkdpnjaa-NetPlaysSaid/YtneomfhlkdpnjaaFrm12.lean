/- Contracts: what the document fixes of frames. -/
import Derived.BigRegion
import Derived.Deep.RegionHeld3
import Derived.Test.YtneomfhlkdpnjaaKit
import Derived.Test.YtneomfhlkdpnjaaCod7
import Derived.Test.YtneomfhlkdpnjaaCod9
namespace Go.Proofs.Ytneomfhlkdpnjaa
open Go.RowKit Go.Proofs

theorem ByteSl.more3 {w : World} {B B' : Nat} {v : Value} {l : List UInt8} (h : ByteSl w B v l) (hB : B ≤ B') : ByteSl w B' v l := by
  rcases h with h | ⟨ad, c, hv, hc, hl⟩
  · exact .inl h
  · exact .inr ⟨ad, c, hv, hc, Lies.more hl hB⟩

end Go.Proofs.Ytneomfhlkdpnjaa
