/- Contracts: the code's Crash. -/
import Derived.BigRegion
import Derived.Deep.RegionHeld3
import Derived.Maps.OwnSet
import Derived.Test.YtceajdpjablfiaaKit
namespace Go.Proofs.Ytceajdpjablfiaa
open Go.RowKit Go.Proofs Go.Maps

def RangeI (ps : List Int) : Prop := (∀ p ∈ ps, -9223372036854775808 ≤ p ∧ p ≤ 9223372036854775807) ∧ ps.length < 9223372036854775807

/-- Picks as they came. -/
def PickAt (w : World) (pc : Value) (ps : List Int) : Prop :=
  ∃ a c, pc = .slice a ps.length c ∧ ps.length ≤ c ∧ (ps = [] ∨ ∃ b o, a = some ⟨b, o, none⟩ ∧ ∀ (j : Nat) (p : Int), ps[j]? = some p → w.cell? ⟨b, o + j, none⟩ = some (.int .i64 p))

end Go.Proofs.Ytceajdpjablfiaa
