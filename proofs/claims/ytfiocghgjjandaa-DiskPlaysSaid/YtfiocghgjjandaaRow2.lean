/- Rows more: a part of a block, an element of an array by value, a copy into a block. -/
import Derived.Deep.MidRow
import Derived.Laws.CopyOwn
import Derived.Shelf.Abstract
import Derived.Test.YtfiocghgjjandaaKit
import Derived.Test.YtfiocghgjjandaaRow
namespace Go.Proofs.Ytfiocghgjjandaa
open Go.RowKit Go.Proofs

theorem setCells_mid {base g : Nat} {e : TypeId} : ∀ (ys : List Value) (w : World) (pre xs post : List Value), Rw w base g e (pre ++ (xs ++ post)) → xs.length = ys.length → Rw (w.setCells g pre.length ys) base g e (pre ++ (ys ++ post))
  | [], w, pre, xs, post, h, hl => by
    have : xs = [] := List.eq_nil_of_length_eq_zero hl
    subst this
    exact h
  | y :: ys, w, pre, [], post, h, hl => by simp at hl
  | y :: ys, w, pre, x :: xs, post, h, hl => by
    have h1 := h.stored pre.length y
    have e1 : (pre ++ (x :: xs ++ post)).set pre.length y = (pre ++ [y]) ++ (xs ++ post) := by simp
    rw [e1] at h1
    have := setCells_mid ys _ (pre ++ [y]) xs post h1 (by simpa using hl)
    rw [List.length_append, List.append_assoc] at this
    exact this

theorem Rw.storedMid {w : World} {base g : Nat} {e : TypeId} {pre xs post : List Value} (h : Rw w base g e (pre ++ (xs ++ post))) (o : Nat) (ys : List Value) (ho : pre.length = o) (hl : xs.length = ys.length) : Rw (w.setCells g o ys) base g e (pre ++ (ys ++ post)) := by
  subst ho
  exact setCells_mid ys w pre xs post h hl

theorem Rw.drew {w w' : World} {base g : Nat} {e : TypeId} {xs : List Value} (h : Rw w base g e xs) (hd : Drew w w') : Rw w' base g e xs := by
  obtain ⟨m, rfl⟩ := hd
  exact h

end Go.Proofs.Ytfiocghgjjandaa
