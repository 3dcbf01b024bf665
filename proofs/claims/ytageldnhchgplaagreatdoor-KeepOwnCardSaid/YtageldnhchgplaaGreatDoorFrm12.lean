/- Contracts: what the document fixes of frames. -/
import Derived.BigRegion
import Derived.Deep.RegionHeld3
import Derived.Test.YtageldnhchgplaaGreatDoorKit
import Derived.Test.YtageldnhchgplaaGreatDoorRow
import Derived.Test.YtageldnhchgplaaGreatDoorCod8
import Derived.Test.YtageldnhchgplaaGreatDoorCod9
import Derived.Test.YtageldnhchgplaaGreatDoorJoin
namespace Go.Proofs.YtageldnhchgplaaGreatDoor
open Go.RowKit Go.Proofs

/-- A literal of one part. -/
theorem partsB_one (w : World) (v : Value) (e : TypeId) (fr : Nat × Nat) (l : List UInt8) (g : Nat) (h : ByteSl w w.heap.size v l) (hg : g = w.heap.size) : PartsB (w.alloc (.cells #[v] e fr)) (w.alloc (.cells #[v] e fr)).heap.size (.slice (some ⟨g, 0, none⟩) 1 1) [l] := by
  subst hg
  refine .inr ⟨_, 1, rfl, .inr ⟨w.heap.size, 0, rfl, by simp, fun j m hj => ?_⟩⟩
  match j, hj with
  | 0, hj =>
    cases hj
    refine ⟨v, by rw [Nat.zero_add, alloc_cell]; rfl, ?_⟩
    rcases h with h | ⟨ad, c, hv, hc, hl⟩
    · exact .inl h
    · refine .inr ⟨ad, c, hv, hc, ?_⟩
      rcases hl with h0 | ⟨b, o, ha, hb, hat⟩
      · exact .inl h0
      · exact .inr ⟨b, o, ha, by simp; omega, ByAt.more hat _⟩

end Go.Proofs.YtageldnhchgplaaGreatDoor
