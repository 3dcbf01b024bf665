/- Plain lists of bytes: what the small functions on texts compute. No dump. -/
import Derived.Test.YtnecjofgjbfheaaGreatDoorKit
namespace Go.Proofs.YtnecjofgjbfheaaGreatDoor
open Go.RowKit
set_option maxRecDepth 100000

def lowI (n : Int) : Int := if 65 ≤ n ∧ n ≤ 90 then n + 32 else n

def lowB (c : UInt8) : UInt8 := UInt8.ofNat (lowI c.toNat).toNat

def lowL (l : List UInt8) : List UInt8 := l.map lowB

theorem lowI_yes {n : Int} (a : 65 ≤ n) (b : n ≤ 90) : lowI n = n + 32 := by unfold lowI; rw [if_pos ⟨a, b⟩]

theorem lowI_lo {n : Int} (a : n < 65) : lowI n = n := by unfold lowI; rw [if_neg (by omega)]

theorem lowI_hi {n : Int} (a : 90 < n) : lowI n = n := by unfold lowI; rw [if_neg (by omega)]

theorem lowI_bd (n : Int) (h0 : 0 ≤ n) (h1 : n ≤ 255) : 0 ≤ lowI n ∧ lowI n ≤ 255 := by unfold lowI; split <;> omega

theorem byte_bd (c : UInt8) : (0 : Int) ≤ c.toNat ∧ (c.toNat : Int) ≤ 255 := by have := c.toNat_lt; omega

theorem lowB_toNat (c : UInt8) : ((lowB c).toNat : Int) = lowI c.toNat := by
  have h := lowI_bd c.toNat (byte_bd c).1 (byte_bd c).2
  unfold lowB
  rw [UInt8.toNat_ofNat', Nat.mod_eq_of_lt (by omega)]
  omega

theorem byteV_low (c : UInt8) : Value.int .u8 (lowI c.toNat) = byteV (lowB c) := by unfold byteV; rw [lowB_toNat]

theorem take_snoc (s : ByteArray) (k : Nat) (h : k < s.size) : s.data.toList.take (k + 1) = s.data.toList.take k ++ [s[k]] := by
  rw [List.take_succ_eq_append_getElem (by simpa using h)]; rfl

theorem lowL_snoc (s : ByteArray) (k : Nat) (h : k < s.size) : (lowL (s.data.toList.take (k + 1))).map byteV = (lowL (s.data.toList.take k)).map byteV ++ [byteV (lowB s[k])] := by
  rw [take_snoc s k h]; simp [lowL]

end Go.Proofs.YtnecjofgjbfheaaGreatDoor
