/- The reference's reader of URLs: its path, its authority. -/
import Derived.Lib.OthersKept
import Derived.Test.YtfgpcajjnpmoeaaKit
import Derived.Test.YtfgpcajjnpmoeaaUrl0
namespace Go.Proofs.Ytfgpcajjnpmoeaa
open Go.RowKit Go.Proofs

theorem up_take (of l : List UInt8) : l.take (upL of l).length = upL of l ∧ l.drop (upL of l).length = fromL of l := by
  have h := up_from of l
  constructor
  · conv => lhs; rw [← h]
    rw [List.take_left' (by rw [h])]
  · conv => lhs; rw [← h]
    rw [List.drop_left' (by rw [h])]

end Go.Proofs.Ytfgpcajjnpmoeaa
