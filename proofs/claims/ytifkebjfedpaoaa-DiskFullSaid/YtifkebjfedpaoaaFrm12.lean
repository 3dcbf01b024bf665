/- Contracts: what the document fixes of frames. -/
import Derived.BigRegion
import Derived.Deep.RegionHeld3
import Derived.Test.YtifkebjfedpaoaaKit
namespace Go.Proofs.Ytifkebjfedpaoaa
open Go.RowKit Go.Proofs

theorem flat_one (l : List UInt8) : ([l] : List (List UInt8)).flatten = l := by simp

end Go.Proofs.Ytifkebjfedpaoaa
