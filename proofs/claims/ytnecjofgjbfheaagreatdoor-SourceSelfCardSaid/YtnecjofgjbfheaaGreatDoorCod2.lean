/- Contracts: the code's schedule. -/
import Derived.Deep.RegionHeld3
import Derived.BigRegion
import Derived.Test.YtnecjofgjbfheaaGreatDoorKit
namespace Go.Proofs.YtnecjofgjbfheaaGreatDoor
open Go.RowKit Go.Proofs
set_option maxRecDepth 100000

/-- The bytes of a block: they stand one by one. -/
def ByAt (w : World) (g o : Nat) (l : List UInt8) : Prop := ∀ j (x : UInt8), l[j]? = some x → w.cell? ⟨g, o + j, none⟩ = some (.int .u8 (x.toNat : Int))

end Go.Proofs.YtnecjofgjbfheaaGreatDoor
