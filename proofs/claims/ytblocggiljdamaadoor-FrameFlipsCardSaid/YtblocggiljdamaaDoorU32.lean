/- Words of 32 digits: the model's integers against Lean's UInt32: no dump. -/
import Derived.Laws.BitsLemmas
import Derived.Test.YtblocggiljdamaaDoorKit
import Derived.Test.YtblocggiljdamaaDoorRow
namespace Go.Proofs.YtblocggiljdamaaDoor
open Go.RowKit Go.Proofs

/-- A word as the model's integer. -/
def iw (x : UInt32) : Int := (x.toNat : Int)

def wV (x : UInt32) : Value := .int .u32 (iw x)

theorem iw_lt (x : UInt32) : 0 ≤ iw x ∧ iw x < 4294967296 := by
  have := x.toNat_lt
  unfold iw
  omega

theorem iw_add (a b : UInt32) : IntKind.u32.wrap (iw a + iw b) = iw (a + b) := by
  unfold iw
  rw [IntKind.wrap_u32, UInt32.toNat_add]
  omega

theorem iw_bits {op : BinOp} (a b : UInt32) : bits op .u32 (iw a) (iw b) = iw (match op with | .and => a &&& b | .or => a ||| b | .xor => a ^^^ b | _ => a &&& ~~~b) := by
  have ha : (BitVec.ofInt 32 (a.toNat : Int)) = a.toBitVec := by
    apply BitVec.eq_of_toNat_eq
    rw [BitVec.ofInt_natCast, BitVec.toNat_ofNat, Nat.mod_eq_of_lt a.toNat_lt]
    rfl
  have hb : (BitVec.ofInt 32 (b.toNat : Int)) = b.toBitVec := by
    apply BitVec.eq_of_toNat_eq
    rw [BitVec.ofInt_natCast, BitVec.toNat_ofNat, Nat.mod_eq_of_lt b.toNat_lt]
    rfl
  have key : ∀ y : UInt32, IntKind.u32.wrap ((y.toBitVec.toNat : Nat) : Int) = iw y := fun y => by
    rw [IntKind.wrap_u32]
    have := y.toNat_lt
    show ((y.toNat : Nat) : Int) % _ = _
    unfold iw
    omega
  show IntKind.u32.wrap _ = _
  simp only [IntKind.bits]
  unfold iw
  rw [ha, hb]
  cases op <;> exact key _

theorem iw_and (a b : UInt32) : bits .and .u32 (iw a) (iw b) = iw (a &&& b) := iw_bits (op := .and) a b

theorem iw_or (a b : UInt32) : bits .or .u32 (iw a) (iw b) = iw (a ||| b) := iw_bits (op := .or) a b

theorem iw_xor (a b : UInt32) : bits .xor .u32 (iw a) (iw b) = iw (a ^^^ b) := iw_bits (op := .xor) a b

theorem iw_shr (a : UInt32) (n : Nat) (h : n < 32) : iw a / 2 ^ n = iw (a >>> UInt32.ofNat n) := by
  unfold iw
  rw [UInt32.toNat_shiftRight, UInt32.toNat_ofNat', Nat.mod_eq_of_lt (by omega : n < 2 ^ 32), Nat.mod_eq_of_lt h, Nat.shiftRight_eq_div_pow]
  simp

theorem iw_shl (a : UInt32) (n : Nat) (h : n < 32) : iw a * 2 ^ n % 4294967296 = iw (a <<< UInt32.ofNat n) := by
  unfold iw
  rw [UInt32.toNat_shiftLeft, UInt32.toNat_ofNat', Nat.mod_eq_of_lt (by omega : n < 2 ^ 32), Nat.mod_eq_of_lt h, Nat.shiftLeft_eq]
  simp

/-- To the right, round. -/
def rr (x : UInt32) (n : Nat) : UInt32 := (x >>> UInt32.ofNat n) ||| (x <<< UInt32.ofNat (32 - n))

theorem iw_rr (x : UInt32) (n : Nat) (h : 1 ≤ n ∧ n < 32) : bits .or .u32 (iw x / 2 ^ n) (iw x * 2 ^ (32 - n) % 4294967296) = iw (rr x n) := by
  rw [iw_shr x n h.2, iw_shl x (32 - n) (by omega), iw_or]
  rfl

theorem iw_byte (x : UInt8) : (x.toNat : Int) % 4294967296 = iw x.toUInt32 := by
  have := x.toNat_lt
  unfold iw
  rw [UInt8.toNat_toUInt32]
  omega

theorem iw_shl24 (a : UInt32) : iw a * (16777216 : Int) % (4294967296 : Int) = iw (a <<< 24) := iw_shl a 24 (by decide)

theorem iw_shl16 (a : UInt32) : iw a * (65536 : Int) % (4294967296 : Int) = iw (a <<< 16) := iw_shl a 16 (by decide)

theorem iw_shl8 (a : UInt32) : iw a * (256 : Int) % (4294967296 : Int) = iw (a <<< 8) := iw_shl a 8 (by decide)

theorem iw_shr3 (a : UInt32) : iw a / (8 : Int) = iw (a >>> 3) := iw_shr a 3 (by decide)

theorem iw_shr10 (a : UInt32) : iw a / (1024 : Int) = iw (a >>> 10) := iw_shr a 10 (by decide)

theorem iw_not (a : UInt32) : IntKind.u32.wrap (-(iw a) - 1) = iw (~~~a) := by
  unfold iw
  have := a.toNat_lt
  rw [IntKind.wrap_u32, UInt32.toNat_not]
  simp only [UInt32.size]
  omega

theorem iw_addm (a b : UInt32) : (iw a + iw b) % (4294967296 : Int) = iw (a + b) := by
  rw [← iw_add, IntKind.wrap_u32]

theorem iw_notx (a : UInt32) : bits .xor .u32 (if IntKind.u32.signed = true then -1 else IntKind.u32.max) (iw a) = iw (~~~a) := by
  have h1 : (if IntKind.u32.signed = true then -1 else IntKind.u32.max : Int) = iw 4294967295 := rfl
  have h2 : (4294967295 : UInt32) ^^^ a = ~~~a := by
    apply UInt32.toBitVec_inj.1
    rw [UInt32.toBitVec_xor, UInt32.toBitVec_not]
    exact BitVec.allOnes_xor
  rw [h1, iw_xor, h2]

theorem iw_notm (a : UInt32) : bits .xor .u32 IntKind.u32.max (iw a) = iw (~~~a) := iw_notx a

theorem iw_sum4 (a b c d : UInt32) : (iw a + iw b + iw c + iw d) % (4294967296 : Int) = iw (a + b + c + d) := by
  unfold iw
  simp only [UInt32.toNat_add]
  omega

theorem iw_sum5 (a b c d e : UInt32) : ((iw a + iw b + iw c + iw d) % (4294967296 : Int) + iw e) % (4294967296 : Int) = iw (a + b + c + d + e) := by
  unfold iw
  simp only [UInt32.toNat_add]
  omega

end Go.Proofs.YtblocggiljdamaaDoor
