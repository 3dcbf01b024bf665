/- Stage 4's reference disk: its plain model, and how it lies in memory. -/
import Derived.Deep.MidRow
import Derived.Test.YtageldnhchgplaaGreatDoorKit
namespace Go.Proofs.YtageldnhchgplaaGreatDoor
open Go.RowKit Go.Proofs

structure FileM where
  name : List UInt8
  b : List UInt8
  syn : Nat

structure DiskM where
  room : Int
  fs : List FileM
  n : Nat
  last : Int

end Go.Proofs.YtageldnhchgplaaGreatDoor
