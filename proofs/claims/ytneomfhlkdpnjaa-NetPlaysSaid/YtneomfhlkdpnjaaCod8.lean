/- Contracts: awake: what the document fixes of two sums. -/
import Derived.Deep.RegionHeld3
import Derived.BigRegion
import Derived.Lib.SlBytesConst
import Derived.Test.YtneomfhlkdpnjaaKit
import Derived.Test.YtneomfhlkdpnjaaRow
import Derived.Test.YtneomfhlkdpnjaaCod2
namespace Go.Proofs.Ytneomfhlkdpnjaa
open Go.RowKit Go.Proofs

theorem ByAt.more {w : World} {b o : Nat} {l : List UInt8} (h : ByAt w b o l) (x : Obj) : ByAt (w.alloc x) b o l := fun j y hj => by
  have h1 := h j y hj
  rw [World.cell?_alloc_lt w x ⟨b, o + j, none⟩ (block_of_cell h1)]
  exact h1

end Go.Proofs.Ytneomfhlkdpnjaa
