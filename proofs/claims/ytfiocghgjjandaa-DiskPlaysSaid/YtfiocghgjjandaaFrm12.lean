/- Contracts: what the document fixes of frames. -/
import Derived.BigRegion
import Derived.Deep.RegionHeld3
import Derived.Test.YtfiocghgjjandaaKit
namespace Go.Proofs.Ytfiocghgjjandaa
open Go.RowKit Go.Proofs

theorem flat_one (l : List UInt8) : ([l] : List (List UInt8)).flatten = l := by simp

end Go.Proofs.Ytfiocghgjjandaa
