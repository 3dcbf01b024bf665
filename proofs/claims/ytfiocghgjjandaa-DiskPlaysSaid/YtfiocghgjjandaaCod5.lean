/- Contracts: the code's Write. -/
import Derived.Deep.RegionHeld3
import Derived.Deep.RegionLaw
import Derived.BigRegion
import Derived.Test.YtfiocghgjjandaaKit
import Derived.Test.YtfiocghgjjandaaRow
import Derived.Test.YtfiocghgjjandaaCod2
namespace Go.Proofs.Ytfiocghgjjandaa
open Go.RowKit Go.Proofs

theorem Save.cell {B g : Nat} {w w' : World} (h : Save B g w w') {p : Addr} (hp : p.block < B) (hg : p.block ≠ g) : w'.cell? p = w.cell? p := by
  unfold World.cell?
  rw [h.block p.block hp hg]

/-- Bytes that lie outside block g. -/
def Out (w : World) (g : Nat) (a : Option Addr) (m : List UInt8) : Prop := m = [] ∨ ∃ b o, a = some ⟨b, o, none⟩ ∧ b ≠ g ∧ ByAt w b o m

theorem byteV_one {l : List UInt8} : ∀ v ∈ l.map byteV, v.oneCell' = true := by
  intro v hv
  obtain ⟨x, _, rfl⟩ := List.mem_map.1 hv
  rfl

theorem run_size1 {P : Program} {t : TypeId} (hs : (P.info? t).map (·.size) = some 1) (W : World) : (sizeOf t).run P W = .ok 1 W := by
  cases hq : P.info? t with
  | none => simp [hq] at hs
  | some i =>
    have : i.size = 1 := by simpa [hq] using hs
    simp [sizeOf, typeInfo, hq, this, Sem.run_bind]

theorem slice_from {P : Program} {t : TypeId} (ht : P.underlying t = some (.slice (P.elem t))) (hs : (P.info? (P.elem t)).map (·.size) = some 1) (b o len cap n : Nat) (h : n ≤ len) (W : World) :
    (Instr.slice t (.slice (some ⟨b, o, none⟩) len cap) (some (.int .i64 (n : Int))) none none).run P W = .ok (.slice (if cap = n then some ⟨b, o, none⟩ else some ⟨b, o + n, none⟩) (len - n) (cap - n)) W := by
  rw [run_slice_l W t (some ⟨b, o, none⟩) len cap ht .i64 n (by omega) (by omega), run_size1 hs]
  simp [Result.andThen, sliced, Addr.add_mid]

end Go.Proofs.Ytfiocghgjjandaa
