/- Contracts: keep: cloneSnap, appendEntries. -/
import Derived.BigRegion
import Derived.Deep.RegionHeld3
import Derived.Deep.AppendLies
import Derived.Test.YthpljpbiamjmaaaProg
import Derived.Test.YthpljpbiamjmaaaKit
import Derived.Test.YthpljpbiamjmaaaRow
import Derived.Test.YthpljpbiamjmaaaNet0
namespace Go.Proofs.Ythpljpbiamjmaaa
open Go.RowKit Go.Proofs

theorem snp_one (i t : Int) (a : Option Addr) (n c : Nat) (d : ByteArray) : (#[Value.int .i64 i, .int .i64 t, .slice a n c, .string d].all (·.oneCell')) = true := by simp [Value.oneCell']

theorem Try.sizeSnap : (Try.prog.info? 25).map (·.size) = some 4 := by kernel_rfl

/-- An own row stays where a store hits a block of another type. -/
theorem own_store {W : World} {b base : Nat} {e1 e2 : TypeId} {s n g : Nat} {v : Value} {xs cs : List Value} (ho : W.ownsRow base e1 s v n xs) (hr : Rw W b g e2 cs) (he : e1 ≠ e2) (j : Nat) (u : Value) : (W.setCell ⟨g, j, none⟩ u).ownsRow base e1 s v n xs := by
  refine own_same ho (fun k hk => ?_)
  have hne : k ≠ g := by
    rintro rfl
    exact own_rw ho hr he hk
  simp only [World.setCell, Array.getElem?_modify]
  rw [if_neg (fun e => hne e.symm)]

theorem own_stores {W : World} {b base : Nat} {e1 e2 : TypeId} {s n g : Nat} {v : Value} {xs cs : List Value} (ho : W.ownsRow base e1 s v n xs) (hr : Rw W b g e2 cs) (he : e1 ≠ e2) (o : Nat) (ys : List Value) : (W.setCells g o ys).ownsRow base e1 s v n xs := by
  refine own_same ho (fun k hk => setCells_heap _ _ _ _ _ ?_)
  rintro rfl
  exact own_rw ho hr he hk

theorem ent_cells_one (i t k : Int) (d : ByteArray) (a : Option Addr) (n c : Nat) : ∀ x ∈ [Value.int .i64 i, .int .i64 t, .int .i64 k, .string d, .slice a n c], x.oneCell' = true := fun x hx => by
  simp only [List.mem_cons, List.not_mem_nil, or_false] at hx
  rcases hx with rfl | rfl | rfl | rfl | rfl <;> rfl

end Go.Proofs.Ythpljpbiamjmaaa
