/- Contracts: the code's Write. -/
import Derived.Deep.RegionHeld3
import Derived.Deep.RegionLaw
import Derived.BigRegion
import Derived.Test.YtmfchplplpiogaaDoorKit
import Derived.Test.YtmfchplplpiogaaDoorRow
import Derived.Test.YtmfchplplpiogaaDoorCod2
namespace Go.Proofs.YtmfchplplpiogaaDoor
open Go.RowKit Go.Proofs

theorem Save.cell {B g : Nat} {w w' : World} (h : Save B g w w') {p : Addr} (hp : p.block < B) (hg : p.block ≠ g) : w'.cell? p = w.cell? p := by
  unfold World.cell?
  rw [h.block p.block hp hg]

/-- Bytes that lie outside block g. -/
def Out (w : World) (g : Nat) (a : Option Addr) (m : List UInt8) : Prop := m = [] ∨ ∃ b o, a = some ⟨b, o, none⟩ ∧ b ≠ g ∧ ByAt w b o m

end Go.Proofs.YtmfchplplpiogaaDoor
