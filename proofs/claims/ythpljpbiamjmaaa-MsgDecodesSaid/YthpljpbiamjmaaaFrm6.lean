/- Contracts: the code's Next. -/
import Derived.BigRegion
import Derived.Deep.RegionHeld3
import Derived.Test.YthpljpbiamjmaaaKit
import Derived.Test.YthpljpbiamjmaaaCod2
import Derived.Test.YthpljpbiamjmaaaCod9
namespace Go.Proofs.Ythpljpbiamjmaaa
open Go.RowKit Go.Proofs

theorem byteSl_len {w : World} {B : Nat} {v : Value} {l : List UInt8} (h : ByteSl w B v l) : ∃ a c, v = .slice a l.length c ∧ l.length ≤ c ∧ (l = [] ∨ ∃ b o, a = some ⟨b, o, none⟩ ∧ b < B ∧ ByAt w b o l) := by
  rcases h with ⟨rfl, rfl⟩ | ⟨ad, c, rfl, hc, hl⟩
  · exact ⟨none, 0, rfl, Nat.le_refl _, .inl rfl⟩
  · exact ⟨some ad, c, rfl, hc, hl⟩

end Go.Proofs.Ythpljpbiamjmaaa
