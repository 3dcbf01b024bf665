/- Contracts: the reference's Put. -/
import Derived.BigRegion
import Derived.Deep.RegionHeldLaw
import Derived.Test.YtfiocghgjjandaaKit
import Derived.Test.YtfiocghgjjandaaRow
import Derived.Test.YtfiocghgjjandaaSha
import Derived.Test.YtfiocghgjjandaaCod5
import Derived.Test.YtfiocghgjjandaaCod9
namespace Go.Proofs.Ytfiocghgjjandaa
open Go.RowKit Go.Proofs

/-- out = append(out, b...), bytes that lie anywhere: nothing but out's own block turned. -/
theorem wpList_append_slg {P : Program} {w : World} {ops : Array Oper} {rest : List Oper} {o : Oper} {a : Act} {Q : Exit → Act → World → Prop} (hgd : o.guard = none) (s x : Operand) (t : TypeId)
    (ho : o.op = .call { callee := .builtin .append, args := #[s, x], argTypes := #[t, t] })
    (base : Nat) (e : TypeId) (i : TypeInfo) (z : Value) (ht : P.underlying t = some (.slice e)) (hi : P.info? e = some i) (hz : i.zero = some z)
    (hsize : i.size = 1) (hby : i.bytes = 1) (hzs : z.cells.size = 1)
    (v : Value) (n : Nat) (xs : List Value) (hs : a.eval s = v) (hown : w.ownsRow base e 1 v n xs)
    (u : Value) (l : List UInt8) (hx : a.eval x = u) (B : Nat) (hl : ByteSl w B u l) (hn : n + l.length < 1099511627776) (hbase : base ≤ w.heap.size)
    (h : ∀ v' w', w'.ownsRow base e 1 v' (n + l.length) (xs ++ l.map byteV) → w.grownBy w' v.ownBlock → wpList P ops Q rest (a.put o.dst v') w') : wpList P ops Q (o :: rest) a w := by
  rcases hl with ⟨rfl, rfl⟩ | ⟨ad, c, rfl, hc, hlies⟩
  · refine wpList_append_own_none hgd s x t ho base e i 1 ht hi v n xs hs hown hx ?_
    refine h v w ?_ (World.grownBy.refl _ _)
    rw [List.map_nil, List.append_nil]
    exact hown
  · refine wpList_append_own _ hgd s x t ho base e i z 1 1 ht hi hz hsize hby hzs (by decide) v n xs hs hown ad l.length c (l.map byteV) hx (by simp) ?_ byteV_one (by unfold maxLen; omega) (by omega) hbase ?_
    · intro j u hj
      rcases hlies with rfl | ⟨b, o, ha, _, hb⟩
      · simp at hj
      · cases ha
        rw [Addr.add_mid]
        rw [List.getElem?_map] at hj
        obtain ⟨y, hy, rfl⟩ := Option.map_eq_some_iff.1 hj
        exact hb j y hy
    · intro v' w' hown' hg _
      exact h v' w' hown' hg

theorem own_sliceAt {w : World} {base : Nat} {e : TypeId} {v : Value} {n : Nat} {l : List UInt8} (h : w.ownsRow base e 1 v n (l.map byteV)) : SliceAt w v (l.map byteV) := SliceAt.own h

end Go.Proofs.Ytfiocghgjjandaa
