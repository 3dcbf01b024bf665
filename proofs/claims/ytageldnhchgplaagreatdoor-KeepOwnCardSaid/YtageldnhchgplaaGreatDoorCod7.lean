/- Contracts: the code's Sum of parts, and New. -/
import Derived.Deep.RegionHeld3
import Derived.Deep.RegionLaw
import Derived.BigRegion
import Derived.Test.YtageldnhchgplaaGreatDoorKit
import Derived.Test.YtageldnhchgplaaGreatDoorRow
import Derived.Test.YtageldnhchgplaaGreatDoorCod2
import Derived.Test.YtageldnhchgplaaGreatDoorCod5
namespace Go.Proofs.YtageldnhchgplaaGreatDoor
open Go.RowKit Go.Proofs

/-- Bytes that lie below block B. -/
def Lies (w : World) (B : Nat) (a : Option Addr) (m : List UInt8) : Prop := m = [] ∨ ∃ b o, a = some ⟨b, o, none⟩ ∧ b < B ∧ ByAt w b o m

theorem Lies.out {w : World} {B g : Nat} {a : Option Addr} {m : List UInt8} (h : Lies w B a m) (hg : B ≤ g) : Out w g a m := by
  rcases h with h | ⟨b, o, ha, hb, h⟩
  · exact .inl h
  · exact .inr ⟨b, o, ha, by omega, h⟩

theorem ByAt.keep {w w' : World} {b o B : Nat} {m : List UInt8} (h : ByAt w b o m) (hb : Below B w w') (hB : b < B) : ByAt w' b o m := fun j x hj => by
  rw [hb.cell (p := ⟨b, o + j, none⟩) hB]
  exact h j x hj

theorem Lies.keep {w w' : World} {B B' : Nat} {a : Option Addr} {m : List UInt8} (h : Lies w B a m) (hb : Below B' w w') (hB : B ≤ B') : Lies w' B a m := by
  rcases h with h | ⟨b, o, ha, hlt, h⟩
  · exact .inl h
  · exact .inr ⟨b, o, ha, hlt, h.keep hb (by omega)⟩

theorem Lies.more {w : World} {B B' : Nat} {a : Option Addr} {m : List UInt8} (h : Lies w B a m) (hB : B ≤ B') : Lies w B' a m := by
  rcases h with h | ⟨b, o, ha, hlt, h⟩
  · exact .inl h
  · exact .inr ⟨b, o, ha, by omega, h⟩

/-- One slice of bytes as a cell's value. -/
def PartV (w : World) (B : Nat) (v : Value) (m : List UInt8) : Prop := ∃ a c, v = .slice a m.length c ∧ m.length ≤ c ∧ Lies w B a m

/-- A slice of slices of bytes. -/
def PartsAt (w : World) (B : Nat) (v : Value) (ls : List (List UInt8)) : Prop :=
  ∃ A C, v = .slice A ls.length C ∧ (ls = [] ∨ ∃ b o, A = some ⟨b, o, none⟩ ∧ b < B ∧ ∀ j l, ls[j]? = some l → ∃ u, w.cell? ⟨b, o + j, none⟩ = some u ∧ PartV w B u l)

theorem PartV.later {w w' : World} {B B' : Nat} {v : Value} {m : List UInt8} (h : PartV w B v m) (hb : Below B w w') (hB : B ≤ B') : PartV w' B' v m := by
  obtain ⟨a, c, hv, hc, hl⟩ := h
  exact ⟨a, c, hv, hc, (hl.keep hb (Nat.le_refl _)).more hB⟩

theorem PartsAt.later {w w' : World} {v : Value} {ls : List (List UInt8)} (h : PartsAt w w.heap.size v ls) (hb : Below w.heap.size w w') : PartsAt w' w'.heap.size v ls := by
  obtain ⟨A, C, hv, h⟩ := h
  refine ⟨A, C, hv, ?_⟩
  rcases h with h | ⟨b, o, ha, hlt, h⟩
  · exact .inl h
  · refine .inr ⟨b, o, ha, Nat.lt_of_lt_of_le hlt hb.size, fun j l hj => ?_⟩
    obtain ⟨u, hu, hp⟩ := h j l hj
    exact ⟨u, by rw [hb.cell (p := ⟨b, o + j, none⟩) hlt]; exact hu, hp.later hb hb.size⟩

theorem flat_succ {ls : List (List UInt8)} {k : Nat} {m : List UInt8} (h : ls[k]? = some m) : (ls.take (k + 1)).flatten = (ls.take k).flatten ++ m := by
  rw [take_succ_of h]
  simp

theorem flat_le {ls : List (List UInt8)} {k : Nat} {m : List UInt8} (h : ls[k]? = some m) : (ls.take k).flatten.length + m.length ≤ ls.flatten.length := by
  have h1 := flat_succ h
  have h2 : ls.flatten = (ls.take (k + 1)).flatten ++ (ls.drop (k + 1)).flatten := by rw [← List.flatten_append, List.take_append_drop]
  rw [h2, h1]
  simp

end Go.Proofs.YtageldnhchgplaaGreatDoor
