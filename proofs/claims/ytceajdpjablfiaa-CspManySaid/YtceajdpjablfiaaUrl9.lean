/- Parse and Port. -/
import Derived.Test.YtceajdpjablfiaaShelf
import Derived.Deep.MidRow
import Derived.BigQuiet
import Derived.BigRegion
import Derived.Deep.RegionHeld3
import Derived.Lib.ItoaLen
import Derived.Test.YtceajdpjablfiaaKit
import Derived.Test.YtceajdpjablfiaaRow
namespace Go.Proofs.Ytceajdpjablfiaa
open Go.RowKit Go.Proofs

theorem app_size (a b : ByteArray) : (a ++ b).size = a.size + b.size := ByteArray.size_append

theorem cell_stays {w w' : World} {a : Addr} {v : Value} (h : w.cell? a = some v) (hb : Below w.heap.size w w') : w'.cell? a = some v := by
  obtain ⟨b, o, m⟩ := a
  rcases Nat.lt_or_ge b w.heap.size with hl | hl
  · unfold World.cell? at h ⊢
    rw [hb.block b hl]
    exact h
  · exfalso
    unfold World.cell? at h
    rw [Array.getElem?_eq_none hl] at h
    cases h

end Go.Proofs.Ytceajdpjablfiaa
