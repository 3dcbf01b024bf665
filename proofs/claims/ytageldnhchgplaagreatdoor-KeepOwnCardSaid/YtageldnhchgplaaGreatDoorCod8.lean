/- Contracts: awake: what the document fixes of two sums. -/
import Derived.Deep.RegionHeld3
import Derived.BigRegion
import Derived.Lib.SlBytesConst
import Derived.Test.YtageldnhchgplaaGreatDoorKit
import Derived.Test.YtageldnhchgplaaGreatDoorRow
import Derived.Test.YtageldnhchgplaaGreatDoorCod2
import Derived.Test.YtageldnhchgplaaGreatDoorCod7
namespace Go.Proofs.YtageldnhchgplaaGreatDoor
open Go.RowKit Go.Proofs

theorem alloc_cell (w : World) (cs : Array Value) (e : TypeId) (fr : Nat × Nat) (j : Nat) : (w.alloc (.cells cs e fr)).cell? ⟨w.heap.size, j, none⟩ = cs[j]? := cell_of_row _ _ _ cs e fr (heap_alloc_new w _)

theorem ByAt.more {w : World} {b o : Nat} {l : List UInt8} (h : ByAt w b o l) (x : Obj) : ByAt (w.alloc x) b o l := fun j y hj => by
  have h1 := h j y hj
  rw [World.cell?_alloc_lt w x ⟨b, o + j, none⟩ (block_of_cell h1)]
  exact h1

/-- A literal slice of slices. -/
theorem parts_alloc (w : World) (vs : Array Value) (e : TypeId) (fr : Nat × Nat) (ls : List (List UInt8)) (h : ∀ (j : Nat) (l : List UInt8), ls[j]? = some l → ∃ u, vs[j]? = some u ∧ PartV w w.heap.size u l) (c : Nat) :
    PartsAt (w.alloc (.cells vs e fr)) (w.alloc (.cells vs e fr)).heap.size (.slice (some ⟨w.heap.size, 0, none⟩) ls.length c) ls := by
  refine ⟨_, c, rfl, .inr ⟨w.heap.size, 0, rfl, by simp, fun j l hj => ?_⟩⟩
  obtain ⟨u, hu, a, c2, rfl, hc, hlies⟩ := h j l hj
  rw [Nat.zero_add, alloc_cell]
  refine ⟨_, hu, a, c2, rfl, hc, ?_⟩
  rcases hlies with h0 | ⟨b, o, ha, hb, hby⟩
  · exact .inl h0
  · exact .inr ⟨b, o, ha, by simp; omega, hby.more _⟩

end Go.Proofs.YtageldnhchgplaaGreatDoor
