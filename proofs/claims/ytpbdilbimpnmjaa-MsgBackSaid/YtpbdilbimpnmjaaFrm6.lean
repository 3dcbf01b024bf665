/- Contracts: the code's Next. -/
import Derived.BigRegion
import Derived.Deep.RegionHeld3
import Derived.Test.YtpbdilbimpnmjaaKit
import Derived.Test.YtpbdilbimpnmjaaCod2
import Derived.Test.YtpbdilbimpnmjaaCod9
namespace Go.Proofs.Ytpbdilbimpnmjaa
open Go.RowKit Go.Proofs

theorem byteSl_len {w : World} {B : Nat} {v : Value} {l : List UInt8} (h : ByteSl w B v l) : ∃ a c, v = .slice a l.length c ∧ l.length ≤ c ∧ (l = [] ∨ ∃ b o, a = some ⟨b, o, none⟩ ∧ b < B ∧ ByAt w b o l) := by
  rcases h with ⟨rfl, rfl⟩ | ⟨ad, c, rfl, hc, hl⟩
  · exact ⟨none, 0, rfl, Nat.le_refl _, .inl rfl⟩
  · exact ⟨some ad, c, rfl, hc, hl⟩

end Go.Proofs.Ytpbdilbimpnmjaa
