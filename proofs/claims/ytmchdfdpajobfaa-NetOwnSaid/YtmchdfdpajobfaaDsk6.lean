/- The code's disk in memory: what each write leaves. -/
import Derived.Deep.MidRow
import Derived.Test.YtmchdfdpajobfaaKit
import Derived.Test.YtmchdfdpajobfaaRow
import Derived.Test.YtmchdfdpajobfaaFp
namespace Go.Proofs.Ytmchdfdpajobfaa
open Go.RowKit Go.Proofs Go.Maps

theorem rw_kept {F : Nat → Prop} {w w' : World} {g : Nat} {e : TypeId} {cs : List Value} (h : Rw w 0 g e cs) (hk : Kept F w w') (hF : ¬ F g) : Rw w' 0 g e cs :=
  ⟨Nat.zero_le _, by rw [hk.blk g (Rw.size h) hF]; exact h.2⟩

end Go.Proofs.Ytmchdfdpajobfaa
