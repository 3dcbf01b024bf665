/- Contracts: the code's Sum of parts, and New. -/
import Derived.Deep.RegionHeld3
import Derived.Deep.RegionLaw
import Derived.BigRegion
import Derived.Test.YtnecjofgjbfheaaGreatDoorKit
import Derived.Test.YtnecjofgjbfheaaGreatDoorCod2
namespace Go.Proofs.YtnecjofgjbfheaaGreatDoor
open Go.RowKit Go.Proofs
set_option maxRecDepth 100000

/-- Bytes that lie below block B. -/
def Lies (w : World) (B : Nat) (a : Option Addr) (m : List UInt8) : Prop := m = [] ∨ ∃ b o, a = some ⟨b, o, none⟩ ∧ b < B ∧ ByAt w b o m

end Go.Proofs.YtnecjofgjbfheaaGreatDoor
