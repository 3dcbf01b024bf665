/- Contracts: keep: the writer's numbers. -/
import Derived.BigRegion
import Derived.Deep.RegionHeld3
import Derived.Deep.AppendLies
import Derived.Laws.BitsLemmas
import Derived.Test.YtpbdilbimpnmjaaKit
namespace Go.Proofs.Ytpbdilbimpnmjaa
open Go.RowKit Go.Proofs

theorem num_one (k : IntKind) (n : Int) : ∀ u ∈ [Value.int k n], u.oneCell' = true := fun u hu => by simp at hu; subst hu; rfl

end Go.Proofs.Ytpbdilbimpnmjaa
