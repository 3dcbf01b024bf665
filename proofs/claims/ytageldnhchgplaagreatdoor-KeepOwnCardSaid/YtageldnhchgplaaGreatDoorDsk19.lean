/- awake. -/
import Derived.BigRegion
import Derived.Lib.SlBytesConst
import Derived.Deep.RegionHeld3
import Derived.Test.YtageldnhchgplaaGreatDoorKit
import Derived.Test.YtageldnhchgplaaGreatDoorRow
import Derived.Test.YtageldnhchgplaaGreatDoorDsk9
import Derived.Test.YtageldnhchgplaaGreatDoorDsk17
namespace Go.Proofs.YtageldnhchgplaaGreatDoor
open Go.RowKit Go.Proofs Go.Maps

theorem dIn_new0 {w w1 : World} {room : Nat} (hw : w1 = w.alloc (.cells #[.int .i64 room, .map none, .int .i64 0, .bool false, .int .i64 0] 70)) : DIn w w1 (fun _ => False) w.heap.size (newM room) :=
  dIn_less (dIn_made (codAt_new hw) (Below.refl _ _) (by rw [hw]; exact below_more (Below.refl _ _) _)) (fun _ h => h.elim)

end Go.Proofs.YtageldnhchgplaaGreatDoor
