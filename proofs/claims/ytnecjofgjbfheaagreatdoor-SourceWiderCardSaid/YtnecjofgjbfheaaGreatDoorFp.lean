/- Footprints: which blocks a call may turn: no dump. -/
import Derived.Deep.MidRow
import Derived.Test.YtnecjofgjbfheaaGreatDoorKit
import Derived.Test.YtnecjofgjbfheaaGreatDoorRow
namespace Go.Proofs.YtnecjofgjbfheaaGreatDoor
open Go.RowKit Go.Proofs
set_option maxRecDepth 100000

/-- Nothing that was there turned but in blocks of F. -/
structure Kept (F : Nat → Prop) (w w' : World) : Prop where
  os : w'.os = w.os
  tape : w'.tape = w.tape
  output : w'.output = w.output
  size : w.heap.size ≤ w'.heap.size
  blk : ∀ k, k < w.heap.size → ¬ F k → w'.heap[k]? = w.heap[k]?

theorem kept_refl (F : Nat → Prop) (w : World) : Kept F w w := ⟨rfl, rfl, rfl, Nat.le_refl _, fun _ _ _ => rfl⟩

theorem kept_then {F G : Nat → Prop} {a b c : World} (h : Kept F a b) (k : Kept G b c) (hG : ∀ x, G x → F x ∨ a.heap.size ≤ x) : Kept F a c :=
  ⟨k.os.trans h.os, k.tape.trans h.tape, k.output.trans h.output, Nat.le_trans h.size k.size, fun x hx hF =>
    (k.blk x (Nat.lt_of_lt_of_le hx h.size) (fun hg => (hG x hg).elim hF (fun h2 => by omega))).trans (h.blk x hx hF)⟩

theorem kept_trans {F : Nat → Prop} {a b c : World} (h : Kept F a b) (k : Kept F b c) : Kept F a c := kept_then h k (fun _ hx => .inl hx)

theorem kept_below {F : Nat → Prop} {w w' : World} (h : Below w.heap.size w w') : Kept F w w' := ⟨h.os, h.tape, h.output, h.size, fun k hk _ => h.block k hk⟩

theorem below_kept {w w' : World} (h : Kept (fun _ => False) w w') : Below w.heap.size w w' := ⟨h.os, h.tape, h.output, h.size, fun k hk => h.blk k hk (fun x => x)⟩

theorem kept_put {F : Nat → Prop} {a w : World} (h : Kept F a w) {g : Nat} (hg : F g ∨ a.heap.size ≤ g) (j : Nat) (u : Value) : Kept F a (w.setCell ⟨g, j, none⟩ u) :=
  kept_then (G := fun k => k = g) h ⟨rfl, rfl, rfl, by simp [World.setCell], fun k _ hk => by simp only [World.setCell, Array.getElem?_modify]; rw [if_neg (fun e => hk e.symm)]⟩ (fun x hx => by subst hx; exact hg)

theorem kept_puts {F : Nat → Prop} {a : World} {g : Nat} (hg : F g ∨ a.heap.size ≤ g) : ∀ (ys : List Value) (o : Nat) {w : World}, Kept F a w → Kept F a (w.setCells g o ys)
  | [], _, _, h => h
  | y :: ys, o, w, h => by
    rw [World.setCells]
    exact kept_puts hg ys (o + 1) (kept_put h hg o y)

theorem kept_alloc {F : Nat → Prop} {a w : World} (h : Kept F a w) (o : Obj) : Kept F a (w.alloc o) :=
  kept_then (G := fun _ => False) h (kept_below (below_more (Below.refl _ _) o)) (fun _ hx => hx.elim)

theorem kept_draw {F : Nat → Prop} {a w w' : World} (h : Kept F a w) (hd : ∃ m, w' = w.drewN m) : Kept F a w' :=
  kept_then (G := fun _ => False) h (kept_below (below_draws (Below.refl _ _) hd)) (fun _ hx => hx.elim)

theorem kept_grown {F : Nat → Prop} {a w w' : World} {r : Option Nat} (h : Kept F a w) (hg : w.grownBy w' r) (hr : ∀ g, r = some g → F g ∨ a.heap.size ≤ g) : Kept F a w' :=
  kept_then (G := fun k => r = some k) h ⟨hg.os, hg.tape, hg.output, hg.size, fun k hk hn => hg.block k hk (fun e => hn e.symm)⟩ (fun x hx => hr x hx)

/-- What is owned, and lies in F, stays while F's blocks do. -/
def OwnF (w : World) (F : Nat → Prop) (e : TypeId) (s : Nat) (v : Value) (n : Nat) (xs : List Value) : Prop := w.ownsRow 0 e s v n xs ∧ ∀ g, v.ownBlock = some g → F g

theorem ownF_blk {w : World} {F : Nat → Prop} {e : TypeId} {s : Nat} {v : Value} {n : Nat} {xs : List Value} (h : OwnF w F e s v n xs) {g : Nat} (hv : v.ownBlock = some g) : g < w.heap.size := by
  rcases h.1.2 with ⟨rfl, _⟩ | ⟨g2, cap, cur, rfl, _, hh, _⟩
  · simp [Value.ownBlock] at hv
  · simp [Value.ownBlock] at hv
    subst hv
    rcases Nat.lt_or_ge g2 w.heap.size with hg | hg
    · exact hg
    · rw [Array.getElem?_eq_none hg] at hh; cases hh

theorem ownF_same {w w' : World} {F : Nat → Prop} {e : TypeId} {s : Nat} {v : Value} {n : Nat} {xs : List Value} (h : OwnF w F e s v n xs) (hs : ∀ g, v.ownBlock = some g → w'.heap[g]? = w.heap[g]?) : OwnF w' F e s v n xs := by
  refine ⟨⟨h.1.1, ?_⟩, h.2⟩
  rcases h.1.2 with hn | ⟨g, cap, cur, rfl, hb, hh, r⟩
  · exact .inl hn
  · exact .inr ⟨g, cap, cur, rfl, hb, (hs g rfl).trans hh, r⟩

theorem ownF_keep {w w' : World} {F G : Nat → Prop} {e : TypeId} {s : Nat} {v : Value} {n : Nat} {xs : List Value} (h : OwnF w F e s v n xs) (hk : Kept G w w') (hG : ∀ g, v.ownBlock = some g → ¬ G g) : OwnF w' F e s v n xs :=
  ownF_same h (fun g hg => hk.blk g (ownF_blk h hg) (hG g hg))

theorem ownF_more {w : World} {F G : Nat → Prop} {e : TypeId} {s : Nat} {v : Value} {n : Nat} {xs : List Value} (h : OwnF w F e s v n xs) (hF : ∀ g, F g → G g) : OwnF w G e s v n xs := ⟨h.1, fun g hg => hF g (h.2 g hg)⟩

/-- Blocks of unlike element types are unlike. -/
theorem types_apart {w : World} {F : Nat → Prop} {e1 e2 : TypeId} {s : Nat} {v : Value} {n : Nat} {xs : List Value} {g : Nat} {cs : Array Value} {fr : Nat × Nat} (h : OwnF w F e1 s v n xs) (hg : w.heap[g]? = some (.cells cs e2 fr)) (he : e1 ≠ e2) : v.ownBlock ≠ some g := by
  intro hv
  rcases h.1.2 with ⟨rfl, _⟩ | ⟨g2, cap, cur, rfl, _, hh, _⟩
  · simp [Value.ownBlock] at hv
  · simp [Value.ownBlock] at hv
    subst hv
    rw [hh] at hg
    injection hg with hg
    injection hg with _ e _
    exact he e

theorem kept_mono {F G : Nat → Prop} {w w' : World} (h : Kept G w w') (hG : ∀ k, G k → F k ∨ w.heap.size ≤ k) : Kept F w w' := kept_then (kept_refl F w) h hG

theorem rw_kept {F : Nat → Prop} {w w' : World} {g : Nat} {e : TypeId} {cs : List Value} (h : Rw w 0 g e cs) (hk : Kept F w w') (hF : ¬ F g) : Rw w' 0 g e cs :=
  ⟨Nat.zero_le _, by rw [hk.blk g (Rw.size h) hF]; exact h.2⟩

end Go.Proofs.YtnecjofgjbfheaaGreatDoor
