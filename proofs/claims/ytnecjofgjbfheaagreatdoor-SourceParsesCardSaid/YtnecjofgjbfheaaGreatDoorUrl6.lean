/- The reader's parts: path, user, query, fragment, scheme, authority. -/
import Derived.Test.YtnecjofgjbfheaaGreatDoorShelf
import Derived.Lib.ReplaceLaws
import Derived.Lib.CountLaws
import Derived.Test.YtnecjofgjbfheaaGreatDoorKit
import Derived.Test.YtnecjofgjbfheaaGreatDoorRow
import Derived.Test.YtnecjofgjbfheaaGreatDoorFp
import Derived.Test.YtnecjofgjbfheaaGreatDoorHst0
import Derived.Test.YtnecjofgjbfheaaGreatDoorUrl0
namespace Go.Proofs.YtnecjofgjbfheaaGreatDoor
open Go.RowKit Go.Proofs
set_option maxRecDepth 100000

theorem below_kg {w0 w w' : World} {g : Nat} (hb : Below w0.heap.size w0 w) (hk : Kept (fun k => k = g) w w') (hg : w0.heap.size ≤ g) : Below w0.heap.size w0 w' :=
  ⟨hk.os.trans hb.os, hk.tape.trans hb.tape, hk.output.trans hb.output, Nat.le_trans hb.size hk.size, fun x hx => (hk.blk x (Nat.lt_of_lt_of_le hx hb.size) (by omega)).trans (hb.block x hx)⟩

theorem rest_below {w w1 w2 : World} {g : Nat} {T : TypeId} {cs : List Value} {l : List UInt8} (h : RestV w w1 g T cs l) (hb : Below w1.heap.size w1 w2) : RestV w w2 g T cs l := ⟨Rw.below h.1 hb, kept_trans h.2 (kept_below hb)⟩

theorem rest_trans {w w1 w2 : World} {g : Nat} {T : TypeId} {cs cs2 : List Value} {l l2 : List UInt8} (h : RestV w w1 g T cs l) (h2 : RestV w1 w2 g T cs2 l2) : RestV w w2 g T cs2 l2 := ⟨h2.1, kept_trans h.2 h2.2⟩

theorem rest_put {w w1 : World} {g : Nat} {T : TypeId} {cs : List Value} {l : List UInt8} (h : RestV w w1 g T cs l) (j : Nat) (u : Value) : RestV w (w1.setCell ⟨g, j + 1, none⟩ u) g T (cs.set j u) l :=
  ⟨Rw.stored h.1 (j + 1) u, kept_put h.2 (.inl rfl) (j + 1) u⟩

theorem place_some {sch l h : List UInt8} {p : Int} (h1 : hostP (upL [58] l) = some h) (h2 : portP sch ((fromL [58] l).drop 1) = some p) : placeP sch l = some (h, p) := by
  unfold placeP
  rw [h1, h2]
  rfl

end Go.Proofs.YtnecjofgjbfheaaGreatDoor
