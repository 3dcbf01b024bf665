/- Contracts: the code's Write. -/
import Derived.Deep.RegionHeld3
import Derived.Deep.RegionLaw
import Derived.BigRegion
import Derived.Test.YthpljpbiamjmaaaKit
import Derived.Test.YthpljpbiamjmaaaRow
import Derived.Test.YthpljpbiamjmaaaCod2
namespace Go.Proofs.Ythpljpbiamjmaaa
open Go.RowKit Go.Proofs

theorem Save.cell {B g : Nat} {w w' : World} (h : Save B g w w') {p : Addr} (hp : p.block < B) (hg : p.block ≠ g) : w'.cell? p = w.cell? p := by
  unfold World.cell?
  rw [h.block p.block hp hg]

/-- Bytes that lie outside block g. -/
def Out (w : World) (g : Nat) (a : Option Addr) (m : List UInt8) : Prop := m = [] ∨ ∃ b o, a = some ⟨b, o, none⟩ ∧ b ≠ g ∧ ByAt w b o m

theorem run_size1 {P : Program} {t : TypeId} (hs : (P.info? t).map (·.size) = some 1) (W : World) : (sizeOf t).run P W = .ok 1 W := by
  cases hq : P.info? t with
  | none => simp [hq] at hs
  | some i =>
    have : i.size = 1 := by simpa [hq] using hs
    simp [sizeOf, typeInfo, hq, this, Sem.run_bind]

end Go.Proofs.Ythpljpbiamjmaaa
