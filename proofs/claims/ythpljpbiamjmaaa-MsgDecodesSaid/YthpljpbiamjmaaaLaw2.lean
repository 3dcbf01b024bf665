/- A slice of bytes that came in, with its room: opened. -/
import Derived.Stop.BytesEq
import Derived.Test.YthpljpbiamjmaaaKit
import Derived.Test.YthpljpbiamjmaaaLaw
import Derived.Test.YthpljpbiamjmaaaRow
import Derived.Test.YthpljpbiamjmaaaCod9
namespace Go.Proofs.Ythpljpbiamjmaaa
open Go.ChangeShapes Go.WideShapes Go.RowKit Go.Proofs

section
variable {H : Type} {enc : TypeId × Value → H} {P : Program} {W : World} {base b0 : Nat} {r : Reach} {held : Bool}
theorem open_bytes {t e : TypeId} {v : Value} {d : DataW H} {ps : List MemPlace} (ht : P.underlying t = some (.slice e)) (he : P.underlying e = some (.int .u8)) (hc : P.cellsOf e = 1) (hby : P.bytesOf e = 1)
    (hval : Value.okWide P W r b0 t v) (hd : DataW.Trod enc P W base (fun _ => true) held t v d ps) (hz : ∀ n ∈ d.weights P t, n ≤ reachBytes) :
    ∃ l : List UInt8, ByteSl W W.heap.size v l ∧ l.length ≤ reachBytes := by
  have hd0 := hd
  obtain ⟨a0, len, cap, rfl⟩ := okWide_slice ht hval
  obtain ⟨zs, hsl, hlen, hwf⟩ := open_nums ht he hc hval hd0 hz
  obtain ⟨l, hl, hll⟩ := bytes_of_nums hwf
  obtain ⟨fuel, hf⟩ := hd
  obtain ⟨a1, c1, hv, hcells⟩ := hsl
  injection hv with e1 e2 e3
  subst e1; subst e3
  rw [hl] at hcells e2
  rw [List.length_map] at e2
  rw [hby, Nat.mul_one] at hlen
  refine ⟨l, ?_, by rw [hll]; exact hlen⟩
  rcases open_ints ht he hc hf with ⟨hcs, hx⟩ | ⟨a, len', cap', ss, hcs, _, hle, hm, hss, hx, hcell, hws⟩
  · simp [Value.cells] at hcs
    obtain ⟨rfl, rfl, rfl⟩ := hcs
    exact .inl ⟨rfl, List.eq_nil_of_length_eq_zero e2.symm⟩
  · simp [Value.cells] at hcs
    obtain ⟨rfl, rfl, rfl⟩ := hcs
    subst e2
    refine .inr ⟨a, cap, rfl, hle, ?_⟩
    rcases hcells with h | ⟨b, o, ha, h⟩
    · exact .inl (List.map_eq_nil_iff.1 h)
    · by_cases hne : l = []
      · exact .inl hne
      · refine .inr ⟨b, o, ha, ?_, fun j x hj => h j _ (by rw [List.getElem?_map, hj]; rfl)⟩
        obtain ⟨x, hx⟩ : ∃ x, l[0]? = some x := ⟨_, List.getElem?_eq_getElem (List.length_pos_iff.2 hne)⟩
        exact block_of_cell (h 0 _ (by rw [List.getElem?_map, hx]; rfl))
end

end Go.Proofs.Ythpljpbiamjmaaa
