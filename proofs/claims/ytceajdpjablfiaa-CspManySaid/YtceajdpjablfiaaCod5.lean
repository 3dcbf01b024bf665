/- Contracts: the code's Write. -/
import Derived.Deep.RegionHeld3
import Derived.Deep.RegionLaw
import Derived.BigRegion
import Derived.Test.YtceajdpjablfiaaKit
import Derived.Test.YtceajdpjablfiaaRow
namespace Go.Proofs.Ytceajdpjablfiaa
open Go.RowKit Go.Proofs

theorem run_size1 {P : Program} {t : TypeId} (hs : (P.info? t).map (·.size) = some 1) (W : World) : (sizeOf t).run P W = .ok 1 W := by
  cases hq : P.info? t with
  | none => simp [hq] at hs
  | some i =>
    have : i.size = 1 := by simpa [hq] using hs
    simp [sizeOf, typeInfo, hq, this, Sem.run_bind]

theorem slice_from {P : Program} {t : TypeId} (ht : P.underlying t = some (.slice (P.elem t))) (hs : (P.info? (P.elem t)).map (·.size) = some 1) (b o len cap n : Nat) (h : n ≤ len) (W : World) :
    (Instr.slice t (.slice (some ⟨b, o, none⟩) len cap) (some (.int .i64 (n : Int))) none none).run P W = .ok (.slice (if cap = n then some ⟨b, o, none⟩ else some ⟨b, o + n, none⟩) (len - n) (cap - n)) W := by
  rw [run_slice_l W t (some ⟨b, o, none⟩) len cap ht .i64 n (by omega) (by omega), run_size1 hs]
  simp [Result.andThen, sliced, Addr.add_mid]

end Go.Proofs.Ytceajdpjablfiaa
