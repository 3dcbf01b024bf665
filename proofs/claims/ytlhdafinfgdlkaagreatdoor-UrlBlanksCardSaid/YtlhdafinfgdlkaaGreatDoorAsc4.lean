/- Contracts: lists of texts. -/
import Derived.Test.YtlhdafinfgdlkaaGreatDoorKit
namespace Go.Proofs.YtlhdafinfgdlkaaGreatDoor
open Go.RowKit Go.Proofs
set_option maxRecDepth 100000

/-- A text as a value, by the list of its bytes. -/
def strL (l : List UInt8) : Value := .string ⟨l.toArray⟩

end Go.Proofs.YtlhdafinfgdlkaaGreatDoor
