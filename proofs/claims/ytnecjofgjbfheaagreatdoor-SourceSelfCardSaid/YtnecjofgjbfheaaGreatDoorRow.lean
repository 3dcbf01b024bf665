/- Arrays and structs in memory: block g holds the cells xs, one by one. -/
import Derived.Deep.MidRow
import Derived.Deep.WholeRow
import Derived.Test.YtnecjofgjbfheaaGreatDoorKit
namespace Go.Proofs.YtnecjofgjbfheaaGreatDoor
open Go.RowKit Go.Proofs
set_option maxRecDepth 100000

/-- Block g holds just the cells xs, may be written, and is none below base. -/
def Rw (w : World) (base g : Nat) (e : TypeId) (xs : List Value) : Prop := base ≤ g ∧ w.heap[g]? = some (.cells xs.toArray e (0, 0))

theorem Rw.alloc (w : World) (e : TypeId) (cs : Array Value) {base : Nat} (h : base ≤ w.heap.size) : Rw (w.alloc (.cells cs e)) base w.heap.size e cs.toList :=
  ⟨h, by rw [Array.toArray_toList]; exact heap_alloc_new w _⟩

theorem Rw.cell {w : World} {base g : Nat} {e : TypeId} {xs : List Value} (h : Rw w base g e xs) {j : Nat} {v : Value} (hj : xs[j]? = some v) : w.cell? ⟨g, j, none⟩ = some v := by
  rw [cell_of_row w g j _ e _ h.2]
  simpa using hj

theorem Rw.free {w : World} {base g : Nat} {e : TypeId} {xs : List Value} (h : Rw w base g e xs) (j : Nat) : w.frozen? ⟨g, j, none⟩ = false := by
  simp [World.frozen?, h.2]

theorem Rw.size {w : World} {base g : Nat} {e : TypeId} {xs : List Value} (h : Rw w base g e xs) : g < w.heap.size := by
  rcases Nat.lt_or_ge g w.heap.size with hg | hg
  · exact hg
  · have := h.2; rw [Array.getElem?_eq_none hg] at this; cases this

theorem Rw.below {w w' : World} {base g : Nat} {e : TypeId} {xs : List Value} (h : Rw w base g e xs) (hb : Below w.heap.size w w') : Rw w' base g e xs :=
  ⟨h.1, by rw [hb.block g h.size]; exact h.2⟩

theorem Rw.more {w : World} {base g : Nat} {e : TypeId} {xs : List Value} (h : Rw w base g e xs) (o : Obj) : Rw (w.alloc o) base g e xs :=
  ⟨h.1, by show (w.heap.push o)[g]? = _; rw [Array.getElem?_push_lt h.size, ← Array.getElem?_eq_getElem]; exact h.2⟩

theorem Rw.stored {w : World} {base g : Nat} {e : TypeId} {xs : List Value} (h : Rw w base g e xs) (j : Nat) (u : Value) : Rw (w.setCell ⟨g, j, none⟩ u) base g e (xs.set j u) := by
  refine ⟨h.1, ?_⟩
  simp only [World.setCell, Array.getElem?_modify, h.2]
  simp

theorem Rw.other {w : World} {base g g' : Nat} {e : TypeId} {xs : List Value} (h : Rw w base g e xs) (hg : g' ≠ g) (j : Nat) (u : Value) : Rw (w.setCell ⟨g', j, none⟩ u) base g e xs := by
  refine ⟨h.1, ?_⟩
  simp only [World.setCell, Array.getElem?_modify]
  rw [if_neg hg]
  exact h.2

theorem Rw.range {w : World} {base g : Nat} {e : TypeId} {xs : List Value} (h : Rw w base g e xs) (o : Nat) (ys : List Value) (hy : ∀ j v, ys[j]? = some v → xs[o + j]? = some v) : w.rangeAt g o ys :=
  fun j v hv => h.cell (hy j v hv)

theorem Rw.whole {w : World} {base g : Nat} {e : TypeId} {xs : List Value} (h : Rw w base g e xs) : w.rangeAt g 0 xs :=
  h.range 0 xs (fun j v hv => by rw [Nat.zero_add]; exact hv)

theorem Rw.there {w : World} {base g : Nat} {e : TypeId} {xs : List Value} (h : Rw w base g e xs) (o n : Nat) (hn : o + n ≤ xs.length) : w.there g o n := fun j hj => by
  refine ⟨?_, h.free _⟩
  rw [h.cell (List.getElem?_eq_getElem (by omega : o + j < xs.length))]
  rfl

theorem setCells_rw {base g : Nat} {e : TypeId} : ∀ (ys : List Value) (w : World) (pre xs : List Value), Rw w base g e (pre ++ xs) → xs.length = ys.length → Rw (w.setCells g pre.length ys) base g e (pre ++ ys)
  | [], w, pre, xs, h, hl => by
    have : xs = [] := List.eq_nil_of_length_eq_zero hl
    subst this
    exact h
  | y :: ys, w, pre, [], h, hl => by simp at hl
  | y :: ys, w, pre, x :: xs, h, hl => by
    have h1 := h.stored pre.length y
    have e1 : (pre ++ x :: xs).set pre.length y = (pre ++ [y]) ++ xs := by simp
    rw [e1] at h1
    have := setCells_rw ys _ (pre ++ [y]) xs h1 (by simpa using hl)
    rw [List.length_append, List.append_assoc] at this
    exact this

theorem Rw.storedAll {w : World} {base g : Nat} {e : TypeId} {xs : List Value} (h : Rw w base g e xs) (ys : List Value) (hl : xs.length = ys.length) : Rw (w.setCells g 0 ys) base g e ys :=
  setCells_rw ys w [] xs h hl

theorem setCells_heap (g : Nat) : ∀ (ys : List Value) (o : Nat) (w : World) (k : Nat), k ≠ g → (w.setCells g o ys).heap[k]? = w.heap[k]?
  | [], _, _, _, _ => rfl
  | y :: ys, o, w, k, hk => by
    rw [World.setCells, setCells_heap g ys (o + 1) _ k hk]
    simp only [World.setCell, Array.getElem?_modify]
    rw [if_neg (fun e => hk e.symm)]

theorem Rw.otherAll {w : World} {base g g' : Nat} {e : TypeId} {xs : List Value} (h : Rw w base g e xs) (hg : g' ≠ g) (o : Nat) (ys : List Value) : Rw (w.setCells g' o ys) base g e xs :=
  ⟨h.1, by rw [setCells_heap g' ys o w g (fun e => hg e.symm)]; exact h.2⟩

theorem below_setCells {B g : Nat} {w0 : World} (hg : B ≤ g) : ∀ (ys : List Value) (o : Nat) (w : World), Below B w0 w → Below B w0 (w.setCells g o ys)
  | [], _, _, h => h
  | y :: ys, o, w, h => by
    rw [World.setCells]
    exact below_setCells hg ys (o + 1) _ (h.setCell hg y)

/-- The zero array of n integers of a kind, as 'alloc' lays it. -/
theorem zero_cells {P : Program} {t : TypeId} {cs : Array Value} {n : Nat} (h : (P.info? t).map (fun i => (i.zero, i.size)) = some (some (.agg cs), n)) : ∀ w, (zeroValue t).run P w = .ok (.agg cs) w := (zero_of_info h).1

theorem own_other {w : World} {base : Nat} {e : TypeId} {size : Nat} {v : Value} {n : Nat} {xs : List Value} (h : w.ownsRow base e size v n xs) {g' : Nat} (hg : g' < base) (j : Nat) (u : Value) : (w.setCell ⟨g', j, none⟩ u).ownsRow base e size v n xs := by
  refine ⟨h.1, ?_⟩
  rcases h.2 with h | ⟨g, cap, cur, hv, hb, hh, r⟩
  · exact .inl h
  · refine .inr ⟨g, cap, cur, hv, hb, ?_, r⟩
    simp only [World.setCell, Array.getElem?_modify]
    rw [if_neg (by omega)]
    exact hh

theorem own_some {w : World} {base : Nat} {e : TypeId} {size : Nat} {v : Value} {n : Nat} {xs : List Value} (h : w.ownsRow base e size v n xs) (hn : n ≠ 0) : ∃ g c, v = .slice (some ⟨g, 0, none⟩) n c ∧ base ≤ g := by
  rcases h.2 with ⟨_, h⟩ | ⟨g, cap, cur, hv, hb, _⟩
  · exact absurd h hn
  · exact ⟨g, cap, hv, hb⟩

/-- Below B nothing turned but block g. -/
structure Save (B g : Nat) (w w' : World) : Prop where
  os : w'.os = w.os
  tape : w'.tape = w.tape
  output : w'.output = w.output
  size : w.heap.size ≤ w'.heap.size
  block : ∀ k, k < B → k ≠ g → w'.heap[k]? = w.heap[k]?

theorem Save.refl (B g : Nat) (w : World) : Save B g w w := ⟨rfl, rfl, rfl, Nat.le_refl _, fun _ _ _ => rfl⟩

theorem Save.of {B g : Nat} {w w' : World} (h : Below B w w') : Save B g w w' := ⟨h.os, h.tape, h.output, h.size, fun k hk _ => h.block k hk⟩

theorem Save.trans {B g : Nat} {a b c : World} (h : Save B g a b) (k : Save B g b c) : Save B g a c :=
  ⟨k.os.trans h.os, k.tape.trans h.tape, k.output.trans h.output, Nat.le_trans h.size k.size, fun i hi hg => (k.block i hi hg).trans (h.block i hi hg)⟩

theorem Save.put {B g : Nat} {a w : World} (h : Save B g a w) (j : Nat) (u : Value) : Save B g a (w.setCell ⟨g, j, none⟩ u) :=
  h.trans ⟨rfl, rfl, rfl, by simp [World.setCell], fun k _ hg => by simp only [World.setCell, Array.getElem?_modify]; rw [if_neg (fun e => hg e.symm)]⟩

theorem Save.then {B g : Nat} {a w w' : World} (h : Save B g a w) (hb : Below B w w') : Save B g a w' := h.trans (Save.of hb)

theorem Save.draws {B g : Nat} {a w w' : World} (h : Save B g a w) (hm : ∃ m, w' = w.drewN m) : Save B g a w' := h.then (below_draws (Below.refl _ _) hm)

/-- What lies elsewhere stays. -/
theorem Rw.save {B g : Nat} {w w' : World} {base g' : Nat} {e : TypeId} {xs : List Value} (h : Rw w base g' e xs) (hs : Save B g w w') (hB : g' < B) (hg : g' ≠ g) : Rw w' base g' e xs :=
  ⟨h.1, by rw [hs.block g' hB hg]; exact h.2⟩

theorem Save.below {B B' g : Nat} {w0 w w' : World} (hs : Save B g w w') (h : Below B' w0 w) (hg : B' ≤ g) (hB : B' ≤ B) : Below B' w0 w' :=
  h.trans ⟨hs.os, hs.tape, hs.output, hs.size, fun k hk => hs.block k (by omega) (by omega)⟩

/-- 'alloc t' of an array or a struct: its cells under one name. -/
theorem wpList_alloc_z {P : Program} {ops : Array Oper} {rest : List Oper} {o : Oper} {a : Act} {w : World} {Q : Exit → Act → World → Prop} (hg : o.guard = none) (t : TypeId) (ho : o.op = .alloc t) (cs : Array Value)
    (hz : ∀ w, (zeroValue t).run P w = .ok (.agg cs) w) (h : wpList P ops Q rest (a.put o.dst (.pointer (some ⟨w.heap.size, 0, none⟩))) (w.alloc (.cells cs t))) : wpList P ops Q (o :: rest) a w := by
  refine wpList_plain hg fun K hK => ?_
  unfold Oper.wp
  simp [execOp, ho, Instr.alloc, hz, Result.andThen]
  exact hK _ _ h

/-- w' is w after some draws. -/
def Drew (w w' : World) : Prop := ∃ m, w' = w.drewN m

theorem Drew.more {w w' : World} (h : Drew w w') (m : Nat) : Drew w (w'.drewN m) := by
  obtain ⟨k, rfl⟩ := h
  exact ⟨k + m, World.drewN_drewN _ _ _⟩

theorem cell_keep {w : World} {g k n : Nat} {x : Value} (h : w.cell? ⟨g, k, none⟩ = some x) (hk : k ≠ n) (u : Value) : (w.setCell ⟨g, n, none⟩ u).cell? ⟨g, k, none⟩ = some x := by
  rw [World.cell?_setCell_other]
  · exact h
  · intro e
    injection e with _ e2 _
    omega

end Go.Proofs.YtnecjofgjbfheaaGreatDoor
