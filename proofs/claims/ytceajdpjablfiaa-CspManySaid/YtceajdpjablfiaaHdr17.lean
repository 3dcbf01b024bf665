/- Lists of values in plain words: what is put together with commas and blanks is cut there again. -/
import Derived.Test.YtceajdpjablfiaaKit
import Derived.Test.YtceajdpjablfiaaAsc4
import Derived.Test.YtceajdpjablfiaaRow
import Derived.Test.YtceajdpjablfiaaHdr8
namespace Go.Proofs.Ytceajdpjablfiaa
open Go.RowKit Go.Proofs

theorem tx_strs (zs : List ByteArray) : (tx zs).map strL = zs.map strV := by
  unfold tx
  rw [List.map_map]
  apply List.map_congr_left
  intro z _
  exact strL_data z

theorem happ (a b : ByteArray) : (a ++ b).data.toList = a.data.toList ++ b.data.toList := by simp

theorem own_lit0 (w : World) (e : TypeId) : (w.alloc (.cells #[] e)).ownsRow w.heap.size e 1 (.slice (some ⟨w.heap.size, 0, none⟩) 0 0) 0 [] :=
  ⟨rfl, .inr ⟨w.heap.size, 0, #[], rfl, Nat.le_refl _, heap_alloc_new w _, Nat.le_refl _, Nat.zero_le _, rfl, rfl⟩⟩

end Go.Proofs.Ytceajdpjablfiaa
