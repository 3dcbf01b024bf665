/- The code's disk within a law: what is its own, what is not. -/
import Derived.BigRegion
import Derived.Deep.RegionHeld3
import Derived.Test.YtneomfhlkdpnjaaKit
import Derived.Test.YtneomfhlkdpnjaaRow
import Derived.Test.YtneomfhlkdpnjaaCod2
import Derived.Test.YtneomfhlkdpnjaaCod9
namespace Go.Proofs.Ytneomfhlkdpnjaa
open Go.RowKit Go.Proofs Go.Maps

def ByteZ (w : World) (Z : Nat → Prop) (v : Value) (l : List UInt8) : Prop :=
  (v = .slice none 0 0 ∧ l = []) ∨ ∃ ad c, v = .slice (some ad) l.length c ∧ l.length ≤ c ∧ (l = [] ∨ ∃ b o, ad = ⟨b, o, none⟩ ∧ Z b ∧ ByAt w b o l)

theorem cell_same {w w' : World} {b j : Nat} {x : Value} (h : w.cell? ⟨b, j, none⟩ = some x) (hb : w'.heap[b]? = w.heap[b]?) : w'.cell? ⟨b, j, none⟩ = some x := by
  unfold World.cell? at h ⊢
  rw [hb]
  exact h

theorem byteZ_sl {w w' : World} {Z : Nat → Prop} {v : Value} {l : List UInt8} (h : ByteZ w Z v l) (hk : ∀ k, k < w.heap.size → Z k → w'.heap[k]? = w.heap[k]?) (hs : w.heap.size ≤ w'.heap.size) : ByteSl w' w'.heap.size v l := by
  rcases h with h | ⟨ad, c, rfl, hc, hl⟩
  · exact .inl h
  · refine .inr ⟨ad, c, rfl, hc, ?_⟩
    rcases hl with rfl | ⟨b, o, rfl, hZ, hat⟩
    · exact .inl rfl
    · by_cases hne : l = []
      · exact .inl hne
      · obtain ⟨x, hx⟩ : ∃ x, l[0]? = some x := by cases l with | nil => exact absurd rfl hne | cons a t => exact ⟨a, rfl⟩
        have hlt := block_of_cell (hat 0 x hx)
        exact .inr ⟨b, o, rfl, by omega, fun j y hj => cell_same (hat j y hj) (hk b hlt hZ)⟩

end Go.Proofs.Ytneomfhlkdpnjaa
