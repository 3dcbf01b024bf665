/- Contracts: the code's Sum of parts, and New. -/
import Derived.Deep.RegionHeld3
import Derived.Deep.RegionLaw
import Derived.BigRegion
import Derived.Test.YthpljpbiamjmaaaKit
import Derived.Test.YthpljpbiamjmaaaRow
import Derived.Test.YthpljpbiamjmaaaCod2
import Derived.Test.YthpljpbiamjmaaaCod5
namespace Go.Proofs.Ythpljpbiamjmaaa
open Go.RowKit Go.Proofs

/-- Bytes that lie below block B. -/
def Lies (w : World) (B : Nat) (a : Option Addr) (m : List UInt8) : Prop := m = [] ∨ ∃ b o, a = some ⟨b, o, none⟩ ∧ b < B ∧ ByAt w b o m

theorem Lies.out {w : World} {B g : Nat} {a : Option Addr} {m : List UInt8} (h : Lies w B a m) (hg : B ≤ g) : Out w g a m := by
  rcases h with h | ⟨b, o, ha, hb, h⟩
  · exact .inl h
  · exact .inr ⟨b, o, ha, by omega, h⟩

theorem ByAt.keep {w w' : World} {b o B : Nat} {m : List UInt8} (h : ByAt w b o m) (hb : Below B w w') (hB : b < B) : ByAt w' b o m := fun j x hj => by
  rw [hb.cell (p := ⟨b, o + j, none⟩) hB]
  exact h j x hj

theorem Lies.keep {w w' : World} {B B' : Nat} {a : Option Addr} {m : List UInt8} (h : Lies w B a m) (hb : Below B' w w') (hB : B ≤ B') : Lies w' B a m := by
  rcases h with h | ⟨b, o, ha, hlt, h⟩
  · exact .inl h
  · exact .inr ⟨b, o, ha, hlt, h.keep hb (by omega)⟩

theorem Lies.more {w : World} {B B' : Nat} {a : Option Addr} {m : List UInt8} (h : Lies w B a m) (hB : B ≤ B') : Lies w B' a m := by
  rcases h with h | ⟨b, o, ha, hlt, h⟩
  · exact .inl h
  · exact .inr ⟨b, o, ha, by omega, h⟩

end Go.Proofs.Ythpljpbiamjmaaa
