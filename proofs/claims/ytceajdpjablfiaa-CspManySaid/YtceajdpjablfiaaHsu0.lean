/- Letters in capitals, and a byte of a host as a percent: plain words. -/
import Derived.Test.YtceajdpjablfiaaProg
import Derived.Test.YtceajdpjablfiaaKit
import Derived.Test.YtceajdpjablfiaaRow
namespace Go.Proofs.Ytceajdpjablfiaa
open Go.RowKit

theorem conv_one (c : UInt8) (W W' : World) (hb : Below (W.alloc (.cells #[.int .u8 c.toNat] 5)).heap.size (W.alloc (.cells #[.int .u8 c.toNat] 5)) W') :
    (convert 39 9 (.slice (some ⟨W.heap.size, 0, none⟩) 1 1)).run Try.prog W' = .ok (.string ⟨#[c]⟩) W' := by
  rw [run_convert_bytes_arg (P := Try.prog) (w := W') 39 5 Try.underlying39 Try.underlying5 W.heap.size 0 1 1 [(c.toNat : Int)] rfl (fun i hi => ?_) 9 Try.underlying9]
  · congr 2
    simp [strOfNums]
  · have h0 : (W.alloc (.cells #[.int .u8 c.toNat] 5)).cell? ⟨W.heap.size, 0 + i, none⟩ = some (.int .u8 ([(c.toNat : Int)].getD i 0)) := by
      rw [cell_of_row _ _ _ _ 5 (0, 0) (heap_alloc_new W _)]
      match i, hi with
      | 0, _ => rfl
    exact (hb.cell (p := ⟨W.heap.size, 0 + i, none⟩) (block_of_cell h0)).trans h0

end Go.Proofs.Ytceajdpjablfiaa
