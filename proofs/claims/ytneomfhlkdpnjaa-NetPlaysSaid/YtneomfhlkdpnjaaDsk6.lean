/- The code's disk in memory: what each write leaves. -/
import Derived.Deep.MidRow
import Derived.Test.YtneomfhlkdpnjaaKit
import Derived.Test.YtneomfhlkdpnjaaRow
import Derived.Test.YtneomfhlkdpnjaaFp
namespace Go.Proofs.Ytneomfhlkdpnjaa
open Go.RowKit Go.Proofs Go.Maps

theorem rw_kept {F : Nat → Prop} {w w' : World} {g : Nat} {e : TypeId} {cs : List Value} (h : Rw w 0 g e cs) (hk : Kept F w w') (hF : ¬ F g) : Rw w' 0 g e cs :=
  ⟨Nat.zero_le _, by rw [hk.blk g (Rw.size h) hF]; exact h.2⟩

theorem rw_type {w : World} {g g2 : Nat} {e1 e2 : TypeId} {c1 c2 : List Value} (h1 : Rw w 0 g e1 c1) (h2 : Rw w 0 g2 e2 c2) (he : e1 ≠ e2) : g ≠ g2 := by
  intro e
  subst e
  have := h1.2.symm.trans h2.2
  injection this with this
  injection this with _ h3 _
  exact he h3

end Go.Proofs.Ytneomfhlkdpnjaa
