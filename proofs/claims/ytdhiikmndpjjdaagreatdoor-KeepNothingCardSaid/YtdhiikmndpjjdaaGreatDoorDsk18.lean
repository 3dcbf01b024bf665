/- A disk that is none; literals; awake. -/
import Derived.BigRegion
import Derived.Deep.RegionHeld3
import Derived.Test.YtdhiikmndpjjdaaGreatDoorProg
import Derived.Test.YtdhiikmndpjjdaaGreatDoorKit
import Derived.Test.YtdhiikmndpjjdaaGreatDoorRow
import Derived.Test.YtdhiikmndpjjdaaGreatDoorDsk0
import Derived.Test.YtdhiikmndpjjdaaGreatDoorDsk6
import Derived.Test.YtdhiikmndpjjdaaGreatDoorDsk11
import Derived.Test.YtdhiikmndpjjdaaGreatDoorDsk17
namespace Go.Proofs.YtdhiikmndpjjdaaGreatDoor
open Go.RowKit Go.Proofs Go.Maps

theorem zread_any {w0 w : World} {Z : Nat → Prop} {g : Nat} {D : CodM} (h : DIn w0 w Z g D) (s : ByteArray) (hs : s.size ≤ maxLen) (hz : sizeM D.fs < 1099511627776) :
    Calls Tryz.prog 26 #[.pointer (some ⟨g, 0, none⟩), .string s] w fun e w' => DReadV w w' D.fs s.data.toList e := by
  obtain ⟨F, hc, hF, hZ, hb⟩ := h
  exact dread_any F g D s w hc hs hz

end Go.Proofs.YtdhiikmndpjjdaaGreatDoor
