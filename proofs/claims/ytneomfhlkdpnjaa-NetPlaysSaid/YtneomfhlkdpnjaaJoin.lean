/- Contracts: rows of bytes joined. -/
import Derived.Laws.AppendOwnNone
import Derived.Test.YtneomfhlkdpnjaaKit
import Derived.Test.YtneomfhlkdpnjaaCod9
namespace Go.Proofs.Ytneomfhlkdpnjaa
open Go.RowKit Go.Proofs

/-- A slice of slices of bytes below block B, each nil or with an address. -/
def PartsB (w : World) (B : Nat) (v : Value) (ls : List (List UInt8)) : Prop :=
  (v = .slice none 0 0 ∧ ls = []) ∨ ∃ A C, v = .slice (some A) ls.length C ∧ (ls = [] ∨ ∃ b o, A = ⟨b, o, none⟩ ∧ b < B ∧ ∀ j l, ls[j]? = some l → ∃ u, w.cell? ⟨b, o + j, none⟩ = some u ∧ ByteSl w B u l)

end Go.Proofs.Ytneomfhlkdpnjaa
