/- Encode, the code's and the reference's: each gives the plain one's bytes. -/
import Derived.Test.YtmfchplplpiogaaDoorShelf
import Derived.Lib.Strings
import Derived.Test.YtmfchplplpiogaaDoorKit
import Derived.Test.YtmfchplplpiogaaDoorRow
import Derived.Test.YtmfchplplpiogaaDoorPct0
namespace Go.Proofs.YtmfchplplpiogaaDoor
open Go.RowKit Go.Proofs

/-- The digits as a string. -/
def hexS16 : ByteArray := ⟨#[48, 49, 50, 51, 52, 53, 54, 55, 56, 57, 65, 66, 67, 68, 69, 70]⟩

theorem hexS16_at : ∀ j : Fin 16, hexS16.data[j.val]'(j.isLt) = hexB j.val := by decide +kernel

theorem run_hexdig {P : Program} {t : TypeId} (ht : P.underlying t = some .string) {q : Nat} (h : q < 16) (k : IntKind) (W : World) :
    (Instr.index t (.string hexS16) (.int k (q : Int))).run P W = .ok (.int .u8 ((hexB q).toNat : Int)) W := by
  have hlt : 0 ≤ (q : Int) ∧ (q : Int) < hexS16.size := ⟨by omega, by show (q : Int) < ((16 : Nat) : Int); omega⟩
  rw [run_index_string W t hexS16 k q ht, dif_pos hlt]
  have h2 := hexS16_at ⟨q, h⟩
  have h3 : hexS16[(q : Int).toNat]'(by rw [Int.toNat_natCast]; exact h) = hexB q := h2
  rw [h3]

end Go.Proofs.YtmfchplplpiogaaDoor
