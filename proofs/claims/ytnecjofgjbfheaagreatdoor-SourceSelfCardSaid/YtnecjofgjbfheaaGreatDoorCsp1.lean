/- csp: how lists of directives lie in memory; the append of one; both ASCII. -/
import Derived.Test.YtnecjofgjbfheaaGreatDoorShelf
import Derived.BigQuiet
import Derived.Maps.AppendAt
import Derived.Test.YtnecjofgjbfheaaGreatDoorKit
import Derived.Test.YtnecjofgjbfheaaGreatDoorAsc4
import Derived.Test.YtnecjofgjbfheaaGreatDoorRow
namespace Go.Proofs.YtnecjofgjbfheaaGreatDoor
open Go.RowKit Go.Proofs
set_option maxRecDepth 100000

/-- A list of texts: nil, or in a block of texts. -/
def StrSl (w : World) (u : Value) (xs : List (List UInt8)) : Prop :=
  (u = .slice none 0 0 ∧ xs = []) ∨ ∃ b o c cur fr, u = .slice (some ⟨b, o, none⟩) xs.length c ∧ w.heap[b]? = some (.cells cur 9 fr) ∧ ∀ (j : Nat) x, xs[j]? = some x → w.cell? ⟨b, o + j, none⟩ = some (strL x)

theorem heap_lt {w : World} {b : Nat} {x : Obj} (h : w.heap[b]? = some x) : b < w.heap.size := by
  rcases Nat.lt_or_ge b w.heap.size with hb | hb
  · exact hb
  · rw [Array.getElem?_eq_none hb] at h; cases h

theorem strSl_at {w : World} {u : Value} {xs : List (List UInt8)} (h : StrSl w u xs) : SliceAt w u (xs.map strL) := by
  rcases h with ⟨rfl, rfl⟩ | ⟨b, o, c, cur, fr, rfl, _, hat⟩
  · exact SliceAt.nil w
  · refine ⟨some ⟨b, o, none⟩, c, by rw [List.length_map], .inr ⟨b, o, rfl, fun j x hj => ?_⟩⟩
    rw [List.getElem?_map] at hj
    cases hx : xs[j]? with
    | none => rw [hx] at hj; cases hj
    | some y => rw [hx] at hj; cases hj; exact hat j y hx

theorem strSl_len {w : World} {u : Value} {xs : List (List UInt8)} (h : StrSl w u xs) : ∃ a c, u = .slice a xs.length c := by
  rcases h with ⟨rfl, rfl⟩ | ⟨b, o, c, cur, fr, rfl, _, _⟩
  · exact ⟨_, _, rfl⟩
  · exact ⟨_, _, rfl⟩

theorem cell_heap {w w' : World} {b o : Nat} (h : w'.heap[b]? = w.heap[b]?) : w'.cell? ⟨b, o, none⟩ = w.cell? ⟨b, o, none⟩ := by
  unfold World.cell?
  rw [h]

theorem strSl_same {w w' : World} {u : Value} {xs : List (List UInt8)} (h : StrSl w u xs) (hk : ∀ (b : Nat) (cur : Array Value) (fr : Nat × Nat), w.heap[b]? = some (Obj.cells cur 9 fr) → w'.heap[b]? = w.heap[b]?) : StrSl w' u xs := by
  rcases h with h | ⟨b, o, c, cur, fr, rfl, hb, hat⟩
  · exact .inl h
  · have e := hk b cur fr hb
    exact .inr ⟨b, o, c, cur, fr, rfl, e.trans hb, fun j x hj => (cell_heap e).trans (hat j x hj)⟩

theorem strSl_below {w w' : World} {u : Value} {xs : List (List UInt8)} (h : StrSl w u xs) (hb : Below w.heap.size w w') : StrSl w' u xs :=
  strSl_same h fun b _ _ he => hb.block b (heap_lt he)

theorem strSl_own {w : World} {base : Nat} {v : Value} {xs : List (List UInt8)} (h : w.ownsRow base 9 1 v xs.length (xs.map strL)) : StrSl w v xs := by
  rcases h.2 with ⟨hv, hn⟩ | ⟨g, cap, cur, hv, _, hg, _⟩
  · exact .inl ⟨hv, List.eq_nil_of_length_eq_zero hn⟩
  · subst hv
    refine .inr ⟨g, 0, cap, cur, _, rfl, hg, fun j x hj => ?_⟩
    have hl : j < xs.length := (List.getElem?_eq_some_iff.1 hj).1
    rw [Nat.zero_add, h.cellAt j (by omega), List.getElem?_map, hj]
    rfl

end Go.Proofs.YtnecjofgjbfheaaGreatDoor
