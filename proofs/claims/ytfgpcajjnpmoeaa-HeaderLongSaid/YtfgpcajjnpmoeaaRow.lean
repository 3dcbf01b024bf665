/- Arrays and structs in memory: block g holds the cells xs, one by one. -/
import Derived.Deep.MidRow
import Derived.Deep.WholeRow
import Derived.Test.YtfgpcajjnpmoeaaKit
namespace Go.Proofs.Ytfgpcajjnpmoeaa
open Go.RowKit Go.Proofs

/-- Block g holds just the cells xs, may be written, and is none below base. -/
def Rw (w : World) (base g : Nat) (e : TypeId) (xs : List Value) : Prop := base ≤ g ∧ w.heap[g]? = some (.cells xs.toArray e (0, 0))

theorem Rw.alloc (w : World) (e : TypeId) (cs : Array Value) {base : Nat} (h : base ≤ w.heap.size) : Rw (w.alloc (.cells cs e)) base w.heap.size e cs.toList :=
  ⟨h, by rw [Array.toArray_toList]; exact heap_alloc_new w _⟩

theorem Rw.cell {w : World} {base g : Nat} {e : TypeId} {xs : List Value} (h : Rw w base g e xs) {j : Nat} {v : Value} (hj : xs[j]? = some v) : w.cell? ⟨g, j, none⟩ = some v := by
  rw [cell_of_row w g j _ e _ h.2]
  simpa using hj

theorem Rw.size {w : World} {base g : Nat} {e : TypeId} {xs : List Value} (h : Rw w base g e xs) : g < w.heap.size := by
  rcases Nat.lt_or_ge g w.heap.size with hg | hg
  · exact hg
  · have := h.2; rw [Array.getElem?_eq_none hg] at this; cases this

/-- Below B nothing turned but block g. -/
structure Save (B g : Nat) (w w' : World) : Prop where
  os : w'.os = w.os
  tape : w'.tape = w.tape
  output : w'.output = w.output
  size : w.heap.size ≤ w'.heap.size
  block : ∀ k, k < B → k ≠ g → w'.heap[k]? = w.heap[k]?

theorem Save.refl (B g : Nat) (w : World) : Save B g w w := ⟨rfl, rfl, rfl, Nat.le_refl _, fun _ _ _ => rfl⟩

theorem Save.trans {B g : Nat} {a b c : World} (h : Save B g a b) (k : Save B g b c) : Save B g a c :=
  ⟨k.os.trans h.os, k.tape.trans h.tape, k.output.trans h.output, Nat.le_trans h.size k.size, fun i hi hg => (k.block i hi hg).trans (h.block i hi hg)⟩

theorem Save.put {B g : Nat} {a w : World} (h : Save B g a w) (j : Nat) (u : Value) : Save B g a (w.setCell ⟨g, j, none⟩ u) :=
  h.trans ⟨rfl, rfl, rfl, by simp [World.setCell], fun k _ hg => by simp only [World.setCell, Array.getElem?_modify]; rw [if_neg (fun e => hg e.symm)]⟩

/-- w' is w after some draws. -/
def Drew (w w' : World) : Prop := ∃ m, w' = w.drewN m

end Go.Proofs.Ytfgpcajjnpmoeaa
