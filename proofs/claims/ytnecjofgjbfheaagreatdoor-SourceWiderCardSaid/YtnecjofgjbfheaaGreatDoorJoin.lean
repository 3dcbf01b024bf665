/- Contracts: rows of bytes joined. -/
import Derived.Laws.AppendOwnNone
import Derived.Test.YtnecjofgjbfheaaGreatDoorKit
import Derived.Test.YtnecjofgjbfheaaGreatDoorCod9
namespace Go.Proofs.YtnecjofgjbfheaaGreatDoor
open Go.RowKit Go.Proofs
set_option maxRecDepth 100000

/-- A slice of slices of bytes below block B, each nil or with an address. -/
def PartsB (w : World) (B : Nat) (v : Value) (ls : List (List UInt8)) : Prop :=
  (v = .slice none 0 0 ∧ ls = []) ∨ ∃ A C, v = .slice (some A) ls.length C ∧ (ls = [] ∨ ∃ b o, A = ⟨b, o, none⟩ ∧ b < B ∧ ∀ j l, ls[j]? = some l → ∃ u, w.cell? ⟨b, o + j, none⟩ = some u ∧ ByteSl w B u l)

theorem PartsB.len {w : World} {B : Nat} {v : Value} {ls : List (List UInt8)} (h : PartsB w B v ls) : ∃ A C, v = .slice A ls.length C ∧ (ls = [] ∨ ∃ b o, A = some ⟨b, o, none⟩ ∧ b < B ∧ ∀ j l, ls[j]? = some l → ∃ u, w.cell? ⟨b, o + j, none⟩ = some u ∧ ByteSl w B u l) := by
  rcases h with ⟨rfl, rfl⟩ | ⟨A, C, rfl, h⟩
  · exact ⟨none, 0, rfl, .inl rfl⟩
  · refine ⟨some A, C, rfl, ?_⟩
    rcases h with h | ⟨b, o, rfl, hb, h⟩
    · exact .inl h
    · exact .inr ⟨b, o, rfl, hb, h⟩

end Go.Proofs.YtnecjofgjbfheaaGreatDoor
