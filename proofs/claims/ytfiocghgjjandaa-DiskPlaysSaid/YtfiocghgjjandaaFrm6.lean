/- Contracts: the code's Next. -/
import Derived.BigRegion
import Derived.Deep.RegionHeld3
import Derived.Test.YtfiocghgjjandaaProg
import Derived.Test.YtfiocghgjjandaaShelf
import Derived.Test.YtfiocghgjjandaaKit
import Derived.Test.YtfiocghgjjandaaRow
import Derived.Test.YtfiocghgjjandaaCod2
import Derived.Test.YtfiocghgjjandaaCod9
namespace Go.Proofs.Ytfiocghgjjandaa
open Go.RowKit Go.Proofs

theorem clone_any (l : List UInt8) (v : Value) (w : World) (h : ByteSl w w.heap.size v l) (hl : l.length ≤ 140737488355328) :
    Calls Try.prog 53 #[v] w fun e w' => ∃ v', e = .returned v' ∧ w'.ownsRow w.heap.size 5 1 v' l.length (l.map byteV) ∧ Below w.heap.size w w' := by
  rcases h with ⟨rfl, rfl⟩ | ⟨ad, c, rfl, hc, hlies⟩
  · refine (Try.bytes_Clone_nil 0 0 w).mono ?_
    rintro e w' ⟨rfl, rfl⟩
    exact ⟨_, rfl, ⟨rfl, .inl ⟨rfl, rfl⟩⟩, Below.refl _ _⟩
  · refine (Try.bytes_Clone_at ad l.length c (l.map fun x => (x.toNat : Int)) w (by simp) hl (fun i hi => ?_)).mono ?_
    · rcases hlies with rfl | ⟨b, o, ha, _, hat⟩
      · simp at hi
      · cases ha
        rw [Addr.add_mid, hat i l[i] (List.getElem?_eq_getElem hi)]
        simp [List.getElem?_eq_getElem hi]
    · rintro e w' ⟨v', rfl, hown, _, hb⟩
      refine ⟨v', rfl, ?_, hb⟩
      rw [List.map_map] at hown
      exact hown

theorem byteSl_len {w : World} {B : Nat} {v : Value} {l : List UInt8} (h : ByteSl w B v l) : ∃ a c, v = .slice a l.length c ∧ l.length ≤ c ∧ (l = [] ∨ ∃ b o, a = some ⟨b, o, none⟩ ∧ b < B ∧ ByAt w b o l) := by
  rcases h with ⟨rfl, rfl⟩ | ⟨ad, c, rfl, hc, hl⟩
  · exact ⟨none, 0, rfl, Nat.le_refl _, .inl rfl⟩
  · exact ⟨some ad, c, rfl, hc, hl⟩

end Go.Proofs.Ytfiocghgjjandaa
