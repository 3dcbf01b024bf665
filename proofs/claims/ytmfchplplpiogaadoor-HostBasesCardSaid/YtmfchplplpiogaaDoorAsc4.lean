/- Contracts: lists of texts. -/
import Derived.Test.YtmfchplplpiogaaDoorKit
namespace Go.Proofs.YtmfchplplpiogaaDoor
open Go.RowKit Go.Proofs

/-- A text as a value, by the list of its bytes. -/
def strL (l : List UInt8) : Value := .string ⟨l.toArray⟩

end Go.Proofs.YtmfchplplpiogaaDoor
