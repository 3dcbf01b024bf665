/- Contracts: the code's Write. -/
import Derived.Deep.RegionHeld3
import Derived.Deep.RegionLaw
import Derived.BigRegion
import Derived.Test.YtmfchplplpiogaaDoorKit
import Derived.Test.YtmfchplplpiogaaDoorCod2
namespace Go.Proofs.YtmfchplplpiogaaDoor
open Go.RowKit Go.Proofs

/-- Bytes that lie outside block g. -/
def Out (w : World) (g : Nat) (a : Option Addr) (m : List UInt8) : Prop := m = [] ∨ ∃ b o, a = some ⟨b, o, none⟩ ∧ b ≠ g ∧ ByAt w b o m

end Go.Proofs.YtmfchplplpiogaaDoor
