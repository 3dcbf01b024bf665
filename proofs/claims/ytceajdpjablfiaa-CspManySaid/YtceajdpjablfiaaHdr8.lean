/- Contracts: the values of some names, the code's and the reference's. -/
import Derived.Test.YtceajdpjablfiaaShelf
import Derived.BigQuiet
import Derived.Test.YtceajdpjablfiaaKit
namespace Go.Proofs.Ytceajdpjablfiaa
open Go.RowKit Go.Proofs

theorem drewN_two {w w1 w2 : World} (h : ∃ m, w1 = w.drewN m) (h2 : ∃ m, w2 = w1.drewN m) : ∃ m, w2 = w.drewN m := by
  obtain ⟨m, rfl⟩ := h2
  exact drewN_more h m

def tx (zs : List ByteArray) : List (List UInt8) := zs.map (fun z => z.data.toList)

end Go.Proofs.Ytceajdpjablfiaa
