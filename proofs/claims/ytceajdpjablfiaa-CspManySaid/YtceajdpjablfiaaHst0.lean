/- Hosts and addresses in plain words: parts, numbers, addresses, what is written of an address, the host itself; what was read is read as itself. -/
import Derived.Lib.ItoaNum
import Derived.Test.YtceajdpjablfiaaKit
namespace Go.Proofs.Ytceajdpjablfiaa
open Go.RowKit

/-! letters' case -/
theorem byte_all {p : UInt8 → Prop} (h : ∀ n : Fin 256, p (UInt8.ofNat n.val)) (c : UInt8) : p c := by
  have := h ⟨c.toNat, c.toNat_lt⟩
  simpa using this

end Go.Proofs.Ytceajdpjablfiaa
