/- Picks that came in; the law's bytes; one file's disk. -/
import Derived.BigRegion
import Derived.Deep.RegionHeld3
import Derived.Stop.BytesEq
import Derived.Test.YtceajdpjablfiaaKit
import Derived.Test.YtceajdpjablfiaaLaw
import Derived.Test.YtceajdpjablfiaaDsk14
namespace Go.Proofs.Ytceajdpjablfiaa
open Go.ChangeShapes Go.WideShapes Go.RowKit Go.Proofs Go.Maps

theorem open_picks {H : Type} {enc : TypeId × Value → H} {P : Program} {W : World} {base b0 : Nat} {r : Reach} {held : Bool} {t e : TypeId} {v : Value} {d : DataW H} {ps : List MemPlace} (ht : P.underlying t = some (.slice e)) (he : P.underlying e = some (.int .i64)) (hc : P.cellsOf e = 1) (hby : P.bytesOf e = 8)
    (hval : Value.okWide P W r b0 t v) (hd : DataW.Trod enc P W base (fun _ => true) held t v d ps) (hz : ∀ n ∈ d.weights P t, n ≤ reachBytes) :
    ∃ l : List Int, PickAt W v l ∧ RangeI l := by
  have hd0 := hd
  obtain ⟨a0, len, cap, rfl⟩ := okWide_slice ht hval
  obtain ⟨zs, hsl, hlen, hwf⟩ := open_nums ht he hc hval hd0 hz
  obtain ⟨fuel, hf⟩ := hd
  obtain ⟨a1, c1, hv, hcells⟩ := hsl
  injection hv with e1 e2 e3
  subst e1; subst e3
  rw [List.length_map] at e2
  have hri : RangeI zs := ⟨fun p hp => bounds_i64 (hwf p hp), by
    rw [hby] at hlen
    have : reachBytes < 9223372036854775807 := by decide
    omega⟩
  refine ⟨zs, ?_, hri⟩
  rcases open_ints ht he hc hf with ⟨hcs, hx⟩ | ⟨a, len', cap', ss, hcs, _, hle, hm, hss, hx, hcell, hws⟩
  · simp [Value.cells] at hcs
    obtain ⟨rfl, rfl, rfl⟩ := hcs
    have hzs : zs = [] := List.eq_nil_of_length_eq_zero e2.symm
    subst hzs
    exact ⟨none, 0, rfl, Nat.le_refl _, .inl rfl⟩
  · simp [Value.cells] at hcs
    obtain ⟨rfl, rfl, rfl⟩ := hcs
    subst e2
    refine ⟨some a, cap, rfl, hle, ?_⟩
    rcases hcells with h | ⟨b, o, ha, h⟩
    · exact .inl (List.map_eq_nil_iff.1 h)
    · exact .inr ⟨b, o, ha, fun j p hj => h j _ (by rw [List.getElem?_map, hj]; rfl)⟩

end Go.Proofs.Ytceajdpjablfiaa
