/- Stage 5: packets in a row: the plain model, and how they lie in memory. -/
import Derived.Deep.MidRow
import Derived.Test.YtageldnhchgplaaGreatDoorKit
import Derived.Test.YtageldnhchgplaaGreatDoorRow
import Derived.Test.YtageldnhchgplaaGreatDoorFp
namespace Go.Proofs.YtageldnhchgplaaGreatDoor
open Go.RowKit Go.Proofs

/-- What a call may turn. -/
def Foot (g : Nat) (v : Value) : Nat → Prop := fun k => k = g ∨ v.ownBlock = some k

theorem own_blk {w : World} {base : Nat} {e : TypeId} {s : Nat} {v : Value} {n : Nat} {xs : List Value} (h : w.ownsRow base e s v n xs) {k : Nat} (hk : v.ownBlock = some k) : ∃ cur, w.heap[k]? = some (.cells cur e (0, 0)) := by
  rcases h.2 with ⟨rfl, _⟩ | ⟨g, cap, cur, rfl, _, hh, _⟩
  · simp [Value.ownBlock] at hk
  · simp [Value.ownBlock] at hk
    subst hk
    exact ⟨cur, hh⟩

theorem own_lt {w : World} {base : Nat} {e : TypeId} {s : Nat} {v : Value} {n : Nat} {xs : List Value} (h : w.ownsRow base e s v n xs) {k : Nat} (hk : v.ownBlock = some k) : k < w.heap.size := by
  obtain ⟨cur, hc⟩ := own_blk h hk
  rcases Nat.lt_or_ge k w.heap.size with hg | hg
  · exact hg
  · rw [Array.getElem?_eq_none hg] at hc; cases hc

/-- A row stays where its block does. -/
theorem own_same {w w' : World} {base : Nat} {e : TypeId} {s : Nat} {v : Value} {n : Nat} {xs : List Value} (h : w.ownsRow base e s v n xs) (hs : ∀ g, v.ownBlock = some g → w'.heap[g]? = w.heap[g]?) : w'.ownsRow base e s v n xs := by
  refine ⟨h.1, ?_⟩
  rcases h.2 with hn | ⟨g, cap, cur, rfl, hb, hh, r⟩
  · exact .inl hn
  · exact .inr ⟨g, cap, cur, rfl, hb, (hs g rfl).trans hh, r⟩

theorem own_keep {w w' : World} {F : Nat → Prop} {base : Nat} {e : TypeId} {s : Nat} {v : Value} {n : Nat} {xs : List Value} (h : w.ownsRow base e s v n xs) (hk : Kept F w w') (hF : ∀ k, v.ownBlock = some k → ¬ F k) : w'.ownsRow base e s v n xs :=
  own_same h (fun g hg => hk.blk g (own_lt h hg) (hF g hg))

theorem own_unlike {w : World} {b1 b2 : Nat} {e1 e2 : TypeId} {s1 s2 : Nat} {v1 v2 : Value} {n1 n2 : Nat} {x1 x2 : List Value} (h1 : w.ownsRow b1 e1 s1 v1 n1 x1) (h2 : w.ownsRow b2 e2 s2 v2 n2 x2) (he : e1 ≠ e2) {k : Nat} (hk : v1.ownBlock = some k) : v2.ownBlock ≠ some k := by
  intro hk2
  obtain ⟨c1, a⟩ := own_blk h1 hk
  obtain ⟨c2, b⟩ := own_blk h2 hk2
  rw [a] at b
  injection b with b
  injection b with _ e _
  exact he e

theorem own_rw {w : World} {base b2 g : Nat} {e1 e2 : TypeId} {s : Nat} {v : Value} {n : Nat} {xs cs : List Value} (h1 : w.ownsRow base e1 s v n xs) (h2 : Rw w b2 g e2 cs) (he : e1 ≠ e2) : v.ownBlock ≠ some g := by
  intro hk
  obtain ⟨c1, a⟩ := own_blk h1 hk
  rw [h2.2] at a
  injection a with a
  injection a with _ e _
  exact he e.symm

theorem foot_next {g : Nat} {v v' : Value} {w : World} (h : ∀ k, v'.ownBlock = some k → v.ownBlock = some k ∨ w.heap.size ≤ k) : ∀ k, Foot g v' k → Foot g v k ∨ w.heap.size ≤ k := fun k hk => by
  rcases hk with rfl | hk
  · exact .inl (.inl rfl)
  · exact (h k hk).imp .inr id

end Go.Proofs.YtageldnhchgplaaGreatDoor
