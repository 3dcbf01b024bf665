/- Contracts: keep: how many bytes numbers and entries take. -/
import Derived.BigRegion
import Derived.Deep.RegionHeld3
import Derived.Deep.RegionLaw
import Derived.IntWalk
import Derived.Laws.BitsLemmas
import Derived.Lib.BitFns
import Derived.Test.YthpljpbiamjmaaaKit
import Derived.Test.YthpljpbiamjmaaaRow
import Derived.Test.YthpljpbiamjmaaaKp0
namespace Go.Proofs.Ythpljpbiamjmaaa
open Go.RowKit Go.Proofs

theorem kcell_more {w : World} {b j : Nat} {x : Value} (h : w.cell? ⟨b, j, none⟩ = some x) (o : Obj) : (w.alloc o).cell? ⟨b, j, none⟩ = some x := cell_kept h ((below_more (Below.refl _ _) o).block b (block_of_cell h))

end Go.Proofs.Ythpljpbiamjmaaa
