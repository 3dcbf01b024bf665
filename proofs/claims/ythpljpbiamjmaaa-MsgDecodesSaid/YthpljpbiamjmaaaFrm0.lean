/- Frames, in plain words: the checksum, a frame, what stands at the beginning, all that stand there; a row that is cut off; a byte that is changed: no dump. -/
import Derived.Laws.BitsLemmas
import Derived.Test.YthpljpbiamjmaaaKit
namespace Go.Proofs.Ythpljpbiamjmaaa
open Go.RowKit Go.Proofs

/-- Numbers, the greatest byte first. -/
def layS : Nat → Nat → List UInt8
  | 0, _ => []
  | k + 1, v => UInt8.ofNat (v / 256 ^ k) :: layS k v

def numS (l : List UInt8) : Nat := l.foldl (fun v x => v * 256 + x.toNat) 0

theorem layS_len : ∀ k v, (layS k v).length = k
  | 0, _ => rfl
  | k + 1, v => by simp [layS, layS_len k v]

end Go.Proofs.Ythpljpbiamjmaaa
