/- Plain lists of bytes: what the small functions on texts compute. No dump. -/
import Derived.Test.YtfbimjfgklldaaaDoorKit
namespace Go.Proofs.YtfbimjfgklldaaaDoor
open Go.RowKit

theorem byte_bd (c : UInt8) : (0 : Int) ≤ c.toNat ∧ (c.toNat : Int) ≤ 255 := by have := c.toNat_lt; omega

theorem take_snoc (s : ByteArray) (k : Nat) (h : k < s.size) : s.data.toList.take (k + 1) = s.data.toList.take k ++ [s[k]] := by
  rw [List.take_succ_eq_append_getElem (by simpa using h)]; rfl

end Go.Proofs.YtfbimjfgklldaaaDoor
