/- Contracts: the code's Sum of parts, and New. -/
import Derived.Deep.RegionHeld3
import Derived.Deep.RegionLaw
import Derived.BigRegion
import Derived.Test.YtfiocghgjjandaaKit
import Derived.Test.YtfiocghgjjandaaCod2
import Derived.Test.YtfiocghgjjandaaCod5
namespace Go.Proofs.Ytfiocghgjjandaa
open Go.RowKit Go.Proofs

/-- Bytes that lie below block B. -/
def Lies (w : World) (B : Nat) (a : Option Addr) (m : List UInt8) : Prop := m = [] ∨ ∃ b o, a = some ⟨b, o, none⟩ ∧ b < B ∧ ByAt w b o m

theorem Lies.out {w : World} {B g : Nat} {a : Option Addr} {m : List UInt8} (h : Lies w B a m) (hg : B ≤ g) : Out w g a m := by
  rcases h with h | ⟨b, o, ha, hb, h⟩
  · exact .inl h
  · exact .inr ⟨b, o, ha, by omega, h⟩

theorem flat_succ {ls : List (List UInt8)} {k : Nat} {m : List UInt8} (h : ls[k]? = some m) : (ls.take (k + 1)).flatten = (ls.take k).flatten ++ m := by
  rw [take_succ_of h]
  simp

theorem flat_le {ls : List (List UInt8)} {k : Nat} {m : List UInt8} (h : ls[k]? = some m) : (ls.take k).flatten.length + m.length ≤ ls.flatten.length := by
  have h1 := flat_succ h
  have h2 : ls.flatten = (ls.take (k + 1)).flatten ++ (ls.drop (k + 1)).flatten := by rw [← List.flatten_append, List.take_append_drop]
  rw [h2, h1]
  simp

end Go.Proofs.Ytfiocghgjjandaa
