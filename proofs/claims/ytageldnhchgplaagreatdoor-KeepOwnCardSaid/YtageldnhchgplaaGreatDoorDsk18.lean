/- A disk that is none; literals; awake. -/
import Derived.BigRegion
import Derived.Deep.RegionHeld3
import Derived.Test.YtageldnhchgplaaGreatDoorProg
import Derived.Test.YtageldnhchgplaaGreatDoorKit
import Derived.Test.YtageldnhchgplaaGreatDoorRow
import Derived.Test.YtageldnhchgplaaGreatDoorDsk0
import Derived.Test.YtageldnhchgplaaGreatDoorDsk6
import Derived.Test.YtageldnhchgplaaGreatDoorDsk11
import Derived.Test.YtageldnhchgplaaGreatDoorDsk17
namespace Go.Proofs.YtageldnhchgplaaGreatDoor
open Go.RowKit Go.Proofs Go.Maps

theorem zread_any {w0 w : World} {Z : Nat → Prop} {g : Nat} {D : CodM} (h : DIn w0 w Z g D) (s : ByteArray) (hs : s.size ≤ maxLen) (hz : sizeM D.fs < 1099511627776) :
    Calls Tryz.prog 22 #[.pointer (some ⟨g, 0, none⟩), .string s] w fun e w' => DReadV w w' D.fs s.data.toList e := by
  obtain ⟨F, hc, hF, hZ, hb⟩ := h
  exact dread_any F g D s w hc hs hz

end Go.Proofs.YtageldnhchgplaaGreatDoor
