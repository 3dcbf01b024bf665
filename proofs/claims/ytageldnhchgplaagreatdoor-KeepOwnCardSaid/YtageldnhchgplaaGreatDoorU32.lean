/- Words of 32 digits: the model's integers against Lean's UInt32: no dump. -/
import Derived.Laws.BitsLemmas
import Derived.Test.YtageldnhchgplaaGreatDoorKit
namespace Go.Proofs.YtageldnhchgplaaGreatDoor
open Go.RowKit Go.Proofs

/-- A word as the model's integer. -/
def iw (x : UInt32) : Int := (x.toNat : Int)

def wV (x : UInt32) : Value := .int .u32 (iw x)

theorem iw_bits {op : BinOp} (a b : UInt32) : bits op .u32 (iw a) (iw b) = iw (match op with | .and => a &&& b | .or => a ||| b | .xor => a ^^^ b | _ => a &&& ~~~b) := by
  have ha : (BitVec.ofInt 32 (a.toNat : Int)) = a.toBitVec := by
    apply BitVec.eq_of_toNat_eq
    rw [BitVec.ofInt_natCast, BitVec.toNat_ofNat, Nat.mod_eq_of_lt a.toNat_lt]
    rfl
  have hb : (BitVec.ofInt 32 (b.toNat : Int)) = b.toBitVec := by
    apply BitVec.eq_of_toNat_eq
    rw [BitVec.ofInt_natCast, BitVec.toNat_ofNat, Nat.mod_eq_of_lt b.toNat_lt]
    rfl
  have key : ∀ y : UInt32, IntKind.u32.wrap ((y.toBitVec.toNat : Nat) : Int) = iw y := fun y => by
    rw [IntKind.wrap_u32]
    have := y.toNat_lt
    show ((y.toNat : Nat) : Int) % _ = _
    unfold iw
    omega
  show IntKind.u32.wrap _ = _
  simp only [IntKind.bits]
  unfold iw
  rw [ha, hb]
  cases op <;> exact key _

theorem iw_and (a b : UInt32) : bits .and .u32 (iw a) (iw b) = iw (a &&& b) := iw_bits (op := .and) a b

theorem iw_xor (a b : UInt32) : bits .xor .u32 (iw a) (iw b) = iw (a ^^^ b) := iw_bits (op := .xor) a b

theorem iw_shr (a : UInt32) (n : Nat) (h : n < 32) : iw a / 2 ^ n = iw (a >>> UInt32.ofNat n) := by
  unfold iw
  rw [UInt32.toNat_shiftRight, UInt32.toNat_ofNat', Nat.mod_eq_of_lt (by omega : n < 2 ^ 32), Nat.mod_eq_of_lt h, Nat.shiftRight_eq_div_pow]
  simp

theorem iw_byte (x : UInt8) : (x.toNat : Int) % 4294967296 = iw x.toUInt32 := by
  have := x.toNat_lt
  unfold iw
  rw [UInt8.toNat_toUInt32]
  omega

theorem iw_notx (a : UInt32) : bits .xor .u32 (if IntKind.u32.signed = true then -1 else IntKind.u32.max) (iw a) = iw (~~~a) := by
  have h1 : (if IntKind.u32.signed = true then -1 else IntKind.u32.max : Int) = iw 4294967295 := rfl
  have h2 : (4294967295 : UInt32) ^^^ a = ~~~a := by
    apply UInt32.toBitVec_inj.1
    rw [UInt32.toBitVec_xor, UInt32.toBitVec_not]
    exact BitVec.allOnes_xor
  rw [h1, iw_xor, h2]

theorem iw_notm (a : UInt32) : bits .xor .u32 IntKind.u32.max (iw a) = iw (~~~a) := iw_notx a

end Go.Proofs.YtageldnhchgplaaGreatDoor
