/- Contracts: the code's Sum of parts, and New. -/
import Derived.Deep.RegionHeld3
import Derived.Deep.RegionLaw
import Derived.BigRegion
import Derived.Test.YtmfchplplpiogaaDoorKit
import Derived.Test.YtmfchplplpiogaaDoorCod2
import Derived.Test.YtmfchplplpiogaaDoorCod5
namespace Go.Proofs.YtmfchplplpiogaaDoor
open Go.RowKit Go.Proofs

/-- Bytes that lie below block B. -/
def Lies (w : World) (B : Nat) (a : Option Addr) (m : List UInt8) : Prop := m = [] ∨ ∃ b o, a = some ⟨b, o, none⟩ ∧ b < B ∧ ByAt w b o m

theorem Lies.out {w : World} {B g : Nat} {a : Option Addr} {m : List UInt8} (h : Lies w B a m) (hg : B ≤ g) : Out w g a m := by
  rcases h with h | ⟨b, o, ha, hb, h⟩
  · exact .inl h
  · exact .inr ⟨b, o, ha, by omega, h⟩

end Go.Proofs.YtmfchplplpiogaaDoor
