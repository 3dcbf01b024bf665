/- Words of 32 digits: the model's integers against Lean's UInt32: no dump. -/
import Derived.Laws.BitsLemmas
import Derived.Test.YtnecjofgjbfheaaGreatDoorKit
namespace Go.Proofs.YtnecjofgjbfheaaGreatDoor
open Go.RowKit Go.Proofs
set_option maxRecDepth 100000

/-- A word as the model's integer. -/
def iw (x : UInt32) : Int := (x.toNat : Int)

theorem iw_bits {op : BinOp} (a b : UInt32) : bits op .u32 (iw a) (iw b) = iw (match op with | .and => a &&& b | .or => a ||| b | .xor => a ^^^ b | _ => a &&& ~~~b) := by
  have ha : (BitVec.ofInt 32 (a.toNat : Int)) = a.toBitVec := by
    apply BitVec.eq_of_toNat_eq
    rw [BitVec.ofInt_natCast, BitVec.toNat_ofNat, Nat.mod_eq_of_lt a.toNat_lt]
    rfl
  have hb : (BitVec.ofInt 32 (b.toNat : Int)) = b.toBitVec := by
    apply BitVec.eq_of_toNat_eq
    rw [BitVec.ofInt_natCast, BitVec.toNat_ofNat, Nat.mod_eq_of_lt b.toNat_lt]
    rfl
  have key : ∀ y : UInt32, IntKind.u32.wrap ((y.toBitVec.toNat : Nat) : Int) = iw y := fun y => by
    rw [IntKind.wrap_u32]
    have := y.toNat_lt
    show ((y.toNat : Nat) : Int) % _ = _
    unfold iw
    omega
  show IntKind.u32.wrap _ = _
  simp only [IntKind.bits]
  unfold iw
  rw [ha, hb]
  cases op <;> exact key _

theorem iw_and (a b : UInt32) : bits .and .u32 (iw a) (iw b) = iw (a &&& b) := iw_bits (op := .and) a b

theorem iw_or (a b : UInt32) : bits .or .u32 (iw a) (iw b) = iw (a ||| b) := iw_bits (op := .or) a b

end Go.Proofs.YtnecjofgjbfheaaGreatDoor
