/- Contracts: the code's Put. -/
import Derived.BigRegion
import Derived.Deep.RegionHeld3
import Derived.Test.YtfiocghgjjandaaKit
import Derived.Test.YtfiocghgjjandaaRow
import Derived.Test.YtfiocghgjjandaaCod2
namespace Go.Proofs.Ytfiocghgjjandaa
open Go.RowKit Go.Proofs

theorem byAt_own {w : World} {B g N C : Nat} {e : TypeId} {l : List UInt8} (h : w.ownsRow B e 1 (.slice (some ⟨g, 0, none⟩) N C) N (l.map byteV)) : ByAt w g 0 l := fun j x hj => by
  have hl : l.length = N := by have := h.1; simpa using this
  have hjl : j < l.length := (List.getElem?_eq_some_iff.1 hj).1
  rw [Nat.zero_add, h.cellAt j (by omega), List.getElem?_map, hj]
  rfl

theorem own_cap {w : World} {B g N C : Nat} {e : TypeId} {xs : List Value} (h : w.ownsRow B e 1 (.slice (some ⟨g, 0, none⟩) N C) N xs) : B ≤ g ∧ N ≤ C ∧ g < w.heap.size := by
  rcases h.2 with ⟨hv, _⟩ | ⟨g2, cap, cur, hv, hb, hh, hnc, _⟩
  · cases hv
  · injection hv with e1 e2 e3
    injection e1 with e1
    injection e1 with e1
    subst e1 e3
    refine ⟨hb, hnc, ?_⟩
    rcases Nat.lt_or_ge g w.heap.size with hg | hg
    · exact hg
    · rw [Array.getElem?_eq_none hg] at hh; cases hh

end Go.Proofs.Ytfiocghgjjandaa
