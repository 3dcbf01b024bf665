/- Contracts: the reference's Next. -/
import Derived.BigRegion
import Derived.Deep.RegionHeldLaw
import Derived.Test.YtfiocghgjjandaaKit
import Derived.Test.YtfiocghgjjandaaRow
import Derived.Test.YtfiocghgjjandaaSha
import Derived.Test.YtfiocghgjjandaaCod5
import Derived.Test.YtfiocghgjjandaaCod9
namespace Go.Proofs.Ytfiocghgjjandaa
open Go.RowKit Go.Proofs

/-- An append of bytes that lie anywhere, as one step of a region that draws. -/
theorem step_append_slg {P : Program} {ops : Array Oper} {o : Oper} {a : Act} {w : World} {K : Act → World → Prop} {Q : Exit → Act → World → Prop} {E : Prop} (hgd : o.guard = none) (s x : Operand) (t : TypeId)
    (ho : o.op = .call { callee := .builtin .append, args := #[s, x], argTypes := #[t, t] })
    (base : Nat) (e : TypeId) (i : TypeInfo) (z : Value) (ht : P.underlying t = some (.slice e)) (hi : P.info? e = some i) (hz : i.zero = some z)
    (hsize : i.size = 1) (hby : i.bytes = 1) (hzs : z.cells.size = 1)
    (v : Value) (n : Nat) (xs : List Value) (hs : a.eval s = v) (hown : w.ownsRow base e 1 v n xs)
    (u : Value) (l : List UInt8) (hx : a.eval x = u) (B : Nat) (hl : ByteSl w B u l) (hn : n + l.length < 1099511627776) (hbase : base ≤ w.heap.size)
    (h : ∀ v' w', w'.ownsRow base e 1 v' (n + l.length) (xs ++ l.map byteV) → w.grownBy w' v.ownBlock → K (a.put o.dst v') w') :
    if Region.wanted o (yielded ops a.tmps) = true then Oper.wp P o a w K Q else E := by
  have hw : Region.wanted o (yielded ops a.tmps) = true := by simp [Region.wanted, hgd]
  rw [if_pos hw]
  rcases hl with ⟨rfl, rfl⟩ | ⟨ad, c, rfl, hc, hlies⟩
  · have hrun := run_append_owned_none (P := P) (w := w) base t o.type e i 1 ht hi v n xs hown
    unfold Oper.wp
    simp [execOp, ho, resolve, invoke, builtin, hs, hx, hrun, Result.andThen]
    refine h v w ?_ (World.grownBy.refl _ _)
    rw [List.map_nil, List.append_nil]
    exact hown
  · refine wp_append_own w s x t ho base e i z 1 1 ht hi hz hsize hby hzs (by decide) v n xs hs hown ad l.length c (l.map byteV) hx (by simp) ?_ byteV_one (by unfold maxLen; omega) (by omega) hbase ?_
    · intro j u hj
      rcases hlies with rfl | ⟨b, o, ha, _, hb⟩
      · simp at hj
      · cases ha
        rw [Addr.add_mid]
        rw [List.getElem?_map] at hj
        obtain ⟨y, hy, rfl⟩ := Option.map_eq_some_iff.1 hj
        exact hb j y hy
    · intro v' w' hown' hg _
      exact h v' w' hown' hg

end Go.Proofs.Ytfiocghgjjandaa
