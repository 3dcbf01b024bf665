/- Parse and Port. -/
import Derived.Test.YtnecjofgjbfheaaGreatDoorShelf
import Derived.Deep.MidRow
import Derived.BigQuiet
import Derived.BigRegion
import Derived.Deep.RegionHeld3
import Derived.Lib.ItoaLen
import Derived.Test.YtnecjofgjbfheaaGreatDoorProg
import Derived.Test.YtnecjofgjbfheaaGreatDoorKit
import Derived.Test.YtnecjofgjbfheaaGreatDoorRow
import Derived.Test.YtnecjofgjbfheaaGreatDoorFp
import Derived.Test.YtnecjofgjbfheaaGreatDoorUrl0
import Derived.Test.YtnecjofgjbfheaaGreatDoorUrl6
namespace Go.Proofs.YtnecjofgjbfheaaGreatDoor
open Go.RowKit Go.Proofs
set_option maxRecDepth 100000

theorem Tryz.infoUrl : (Tryz.prog.info? 31).map (fun i => (i.zero, i.size)) = some (some (.agg #[.string ⟨#[]⟩, .string ⟨#[]⟩, .string ⟨#[]⟩, .string ⟨#[]⟩, .int .i64 0, .string ⟨#[]⟩, .bool false, .string ⟨#[]⟩, .bool false, .string ⟨#[]⟩]), 10) := by kernel_rfl

theorem Tryz.sizeUrl : (Tryz.prog.info? 31).map (·.size) = some 10 := by kernel_rfl

def urlR (o : Option UrlM) : Value := .tuple #[urlV (o.getD urlZ), .int .i64 (urlE o)]

theorem url_one (u : UrlM) : (urlCells u).toArray.all (·.oneCell') = true := by
  refine all_oneCell_toArray fun v hv => ?_
  unfold urlCells at hv
  simp only [List.mem_cons, List.not_mem_nil, or_false] at hv
  rcases hv with rfl | rfl | rfl | rfl | rfl | rfl | rfl | rfl | rfl | rfl <;> rfl

theorem kept_g {w w1 w2 : World} {g : Nat} (hb : Below w.heap.size w w1) (hg : w.heap.size ≤ g) (hk : Kept (fun k => k = g) w1 w2) : Below w.heap.size w w2 := below_kg hb hk hg

theorem app_size (a b : ByteArray) : (a ++ b).size = a.size + b.size := ByteArray.size_append

theorem cell_stays {w w' : World} {a : Addr} {v : Value} (h : w.cell? a = some v) (hb : Below w.heap.size w w') : w'.cell? a = some v := by
  obtain ⟨b, o, m⟩ := a
  rcases Nat.lt_or_ge b w.heap.size with hl | hl
  · unfold World.cell? at h ⊢
    rw [hb.block b hl]
    exact h
  · exfalso
    unfold World.cell? at h
    rw [Array.getElem?_eq_none hl] at h
    cases h

end Go.Proofs.YtnecjofgjbfheaaGreatDoor
