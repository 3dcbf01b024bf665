/- Contracts: awake: what the document fixes of two sums. -/
import Derived.Deep.RegionHeld3
import Derived.BigRegion
import Derived.Lib.SlBytesConst
import Derived.Test.YtceajdpjablfiaaKit
import Derived.Test.YtceajdpjablfiaaRow
namespace Go.Proofs.Ytceajdpjablfiaa
open Go.RowKit Go.Proofs

theorem alloc_cell (w : World) (cs : Array Value) (e : TypeId) (fr : Nat × Nat) (j : Nat) : (w.alloc (.cells cs e fr)).cell? ⟨w.heap.size, j, none⟩ = cs[j]? := cell_of_row _ _ _ cs e fr (heap_alloc_new w _)

end Go.Proofs.Ytceajdpjablfiaa
