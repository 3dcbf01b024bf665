/- Contracts: the code's Scan and the reference's; two rows of rows held against each other. -/
import Derived.BigRegion
import Derived.Deep.RegionHeld3
import Derived.Test.YtageldnhchgplaaGreatDoorProg
import Derived.Test.YtageldnhchgplaaGreatDoorKit
import Derived.Test.YtageldnhchgplaaGreatDoorRow
import Derived.Test.YtageldnhchgplaaGreatDoorSha
namespace Go.Proofs.YtageldnhchgplaaGreatDoor
open Go.RowKit Go.Proofs

theorem Tryz.infoSl : (Tryz.prog.info? 29).map (fun i => (i.zero, i.size, i.bytes)) = some (some (.slice none 0 0), 1, 24) := by kernel_rfl

/-- Rows of bytes of the call's own, each of the call's own. -/
def RowsOf (w : World) (base : Nat) (v : Value) (ls : List (List UInt8)) : Prop :=
  ∃ xs : List Value, w.ownsRow base 29 1 v ls.length xs ∧ ∀ (j : Nat) (l : List UInt8), ls[j]? = some l → ∃ u, xs[j]? = some u ∧ w.ownsRow base 5 1 u l.length (l.map byteV)

theorem rowsOf_nil (w : World) (base : Nat) : RowsOf w base (.slice none 0 0) [] := ⟨[], ⟨rfl, .inl ⟨rfl, rfl⟩⟩, fun j l h => by simp at h⟩

theorem rowsOf_keep {w w' : World} {base : Nat} {v : Value} {ls : List (List UInt8)} (h : RowsOf w base v ls) (hb : Below w.heap.size w w') : RowsOf w' base v ls := by
  obtain ⟨xs, h1, h2⟩ := h
  refine ⟨xs, own_below h1 hb, fun j l hj => ?_⟩
  obtain ⟨u, hu, ho⟩ := h2 j l hj
  exact ⟨u, hu, own_below ho hb⟩

theorem own_apart {w : World} {b1 b2 : Nat} {v1 v2 : Value} {n1 n2 : Nat} {xs1 xs2 : List Value} {e1 e2 : TypeId} (he : e1 ≠ e2) (h1 : w.ownsRow b1 e1 1 v1 n1 xs1) (h2 : w.ownsRow b2 e2 1 v2 n2 xs2) : v1.ownBlock = none ∨ v1.ownBlock ≠ v2.ownBlock := by
  rcases h1.2 with ⟨hv, _⟩ | ⟨g1, c1, cur1, hv1, _, hh1, _⟩
  · exact .inl (by rw [hv]; rfl)
  · rcases h2.2 with ⟨hv, _⟩ | ⟨g2, c2, cur2, hv2, _, hh2, _⟩
    · exact .inr (by rw [hv, hv1]; simp [Value.ownBlock])
    · refine .inr ?_
      rw [hv1, hv2]
      intro e
      simp [Value.ownBlock] at e
      subst e
      rw [hh1] at hh2
      injection hh2 with hh2
      injection hh2 with _ e2 _
      exact he e2

end Go.Proofs.YtageldnhchgplaaGreatDoor
