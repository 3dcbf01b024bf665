/- A sum read out of a text: no dump. -/
import Derived.Lib.Bytealg
import Derived.Laws.ResultCell
import Derived.Laws.Rows
import Derived.Test.YtnecjofgjbfheaaGreatDoorKit
import Derived.Test.YtnecjofgjbfheaaGreatDoorRow
namespace Go.Proofs.YtnecjofgjbfheaaGreatDoor
open Go.RowKit Go.Proofs
set_option maxRecDepth 100000

/-- Two results: a row out of a cell, a slot. -/
theorem results_row_tmp {P : Program} {fn : Func} {p u : Tmp} {ty : TypeId} (h : fn.results = #[.cell p ty, .tmp u]) (tmps : Array Value) (w : World) (g base : Nat) (t : TypeId) (xs : List Value) (d : TypeDesc)
    (hp : tmps.getD p undef = .pointer (some ⟨g, 0, none⟩)) (hg : Rw w base g t xs)
    (hu : P.underlying ty = some d) (hd : (match d with | .struct _ | .array _ _ => true | _ => false) = true) (hi : (P.info? ty).map (·.size) = some xs.length) (v : Value) (hv : tmps.getD u undef = v) :
    (results fn tmps).run P w = .ok (.tuple #[.agg xs.toArray, v]) w := by
  have hl := run_loadVar_row (P := P) w g t ty xs.toArray (0, 0) d hg.2 hu hd (by simpa using hi)
  rw [results_cell_tmp h, hp, hv]
  simp [asAddr, hl, Result.andThen]

end Go.Proofs.YtnecjofgjbfheaaGreatDoor
