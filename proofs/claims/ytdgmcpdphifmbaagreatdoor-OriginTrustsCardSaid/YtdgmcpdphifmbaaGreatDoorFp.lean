/- Footprints: which blocks a call may turn: no dump. -/
import Derived.Deep.MidRow
import Derived.Test.YtdgmcpdphifmbaaGreatDoorKit
import Derived.Test.YtdgmcpdphifmbaaGreatDoorRow
namespace Go.Proofs.YtdgmcpdphifmbaaGreatDoor
open Go.RowKit Go.Proofs
set_option maxRecDepth 100000

/-- Nothing that was there turned but in blocks of F. -/
structure Kept (F : Nat → Prop) (w w' : World) : Prop where
  os : w'.os = w.os
  tape : w'.tape = w.tape
  output : w'.output = w.output
  size : w.heap.size ≤ w'.heap.size
  blk : ∀ k, k < w.heap.size → ¬ F k → w'.heap[k]? = w.heap[k]?

theorem kept_refl (F : Nat → Prop) (w : World) : Kept F w w := ⟨rfl, rfl, rfl, Nat.le_refl _, fun _ _ _ => rfl⟩

theorem kept_then {F G : Nat → Prop} {a b c : World} (h : Kept F a b) (k : Kept G b c) (hG : ∀ x, G x → F x ∨ a.heap.size ≤ x) : Kept F a c :=
  ⟨k.os.trans h.os, k.tape.trans h.tape, k.output.trans h.output, Nat.le_trans h.size k.size, fun x hx hF =>
    (k.blk x (Nat.lt_of_lt_of_le hx h.size) (fun hg => (hG x hg).elim hF (fun h2 => by omega))).trans (h.blk x hx hF)⟩

theorem kept_trans {F : Nat → Prop} {a b c : World} (h : Kept F a b) (k : Kept F b c) : Kept F a c := kept_then h k (fun _ hx => .inl hx)

theorem kept_below {F : Nat → Prop} {w w' : World} (h : Below w.heap.size w w') : Kept F w w' := ⟨h.os, h.tape, h.output, h.size, fun k hk _ => h.block k hk⟩

theorem kept_put {F : Nat → Prop} {a w : World} (h : Kept F a w) {g : Nat} (hg : F g ∨ a.heap.size ≤ g) (j : Nat) (u : Value) : Kept F a (w.setCell ⟨g, j, none⟩ u) :=
  kept_then (G := fun k => k = g) h ⟨rfl, rfl, rfl, by simp [World.setCell], fun k _ hk => by simp only [World.setCell, Array.getElem?_modify]; rw [if_neg (fun e => hk e.symm)]⟩ (fun x hx => by subst hx; exact hg)

theorem rw_kept {F : Nat → Prop} {w w' : World} {g : Nat} {e : TypeId} {cs : List Value} (h : Rw w 0 g e cs) (hk : Kept F w w') (hF : ¬ F g) : Rw w' 0 g e cs :=
  ⟨Nat.zero_le _, by rw [hk.blk g (Rw.size h) hF]; exact h.2⟩

end Go.Proofs.YtdgmcpdphifmbaaGreatDoor
