/- Contracts: what stands between commas, the code's. -/
import Derived.Test.YtceajdpjablfiaaShelf
import Derived.BigQuiet
import Derived.Maps.AppendAt
import Derived.Laws.AppendOwnNone
import Derived.Test.YtceajdpjablfiaaKit
import Derived.Test.YtceajdpjablfiaaAsc4
import Derived.Test.YtceajdpjablfiaaRow
namespace Go.Proofs.Ytceajdpjablfiaa
open Go.RowKit Go.Proofs

/-- nil, or with an address. -/
def SlV (v : Value) : Prop := v = .slice none 0 0 ∨ ∃ ad m c, v = .slice (some ad) m c

theorem own_slv {w : World} {base : Nat} {e : TypeId} {s : Nat} {v : Value} {n : Nat} {xs : List Value} (h : w.ownsRow base e s v n xs) : SlV v := by
  rcases h.2 with ⟨hv, _⟩ | ⟨g, cap, cur, hv, _⟩
  · exact .inl hv
  · exact .inr ⟨_, _, _, hv⟩

/-- An append of a row of texts (one cell each), wherever it lies. -/
theorem wpList_append_strs {P : Program} {w : World} {ops : Array Oper} {rest : List Oper} {o : Oper} {a : Act} {Q : Exit → Act → World → Prop} (hgd : o.guard = none) (s x : Operand) (t : TypeId)
    (ho : o.op = .call { callee := .builtin .append, args := #[s, x], argTypes := #[t, t] })
    (base : Nat) (e : TypeId) (i : TypeInfo) (z : Value) (ht : P.underlying t = some (.slice e)) (hi : P.info? e = some i) (hz : i.zero = some z)
    (hsize : i.size = 1) (hby : i.bytes = 16) (hzs : z.cells.size = 1)
    (v : Value) (n : Nat) (xs : List Value) (hs : a.eval s = v) (hown : w.ownsRow base e 1 v n xs)
    (u : Value) (l : List Value) (hx : a.eval x = u) (hl : SliceAt w u l) (hu : SlV u) (h1 : ∀ y ∈ l, y.oneCell' = true) (m : Nat) (hm : m = l.length) (hn : n + m < 1099511627776) (hbase : base ≤ w.heap.size)
    (h : ∀ v' w', w'.ownsRow base e 1 v' (n + m) (xs ++ l) → Below base w w' → wpList P ops Q rest (a.put o.dst v') w') : wpList P ops Q (o :: rest) a w := by
  subst hm
  rcases hu with rfl | ⟨ad, m, c, rfl⟩
  · obtain ⟨a1, c1, he, _⟩ := hl
    injection he with _ e2 _
    have hnil : l = [] := List.eq_nil_of_length_eq_zero e2.symm
    subst hnil
    refine wpList_append_own_none hgd s x t ho base e i 1 ht hi v n xs hs hown hx ?_
    refine h v w ?_ (Below.refl _ _)
    rw [List.append_nil]
    exact hown
  · obtain ⟨a1, c1, he, hc⟩ := hl
    injection he with e1 e2 e3
    subst e1 e2 e3
    refine wpList_append_own _ hgd s x t ho base e i z 1 16 ht hi hz hsize hby hzs (by decide) v n xs hs hown ad l.length c l hx (by simp) ?_ h1 (by unfold maxLen; omega) (by omega) hbase ?_
    · intro j y hj
      rcases hc with rfl | ⟨b, off, hb, hat⟩
      · simp at hj
      · cases hb
        rw [Addr.add_mid]
        exact hat j y hj
    · intro v' w' hown' hg _
      exact h v' w' hown' (below_own hown hg hbase)

theorem strs_one {l : List (List UInt8)} : ∀ y ∈ l.map strL, y.oneCell' = true := by
  intro y hy
  obtain ⟨x, _, rfl⟩ := List.mem_map.1 hy
  rfl

/-! how long -/
def llTot : List (List UInt8) → Nat
  | [] => 0
  | x :: r => 1 + x.length + llTot r

theorem llTot_app : ∀ a b : List (List UInt8), llTot (a ++ b) = llTot a + llTot b
  | [], b => by simp [llTot]
  | x :: r, b => by simp only [List.cons_append, llTot, llTot_app r b]; omega

theorem llTot_len : ∀ l : List (List UInt8), l.length ≤ llTot l
  | [] => Nat.zero_le _
  | x :: r => by have := llTot_len r; simp only [llTot, List.length_cons]; omega

theorem llTot_mem : ∀ {l : List (List UInt8)} {x : List UInt8}, x ∈ l → x.length ≤ llTot l
  | y :: r, x, h => by
    simp only [llTot]
    rcases List.mem_cons.1 h with rfl | h
    · omega
    · have := llTot_mem h; omega

theorem llTot_take : ∀ (l : List (List UInt8)) (k : Nat), llTot (l.take k) ≤ llTot l
  | [], k => by simp
  | x :: r, 0 => by simp [llTot]
  | x :: r, k + 1 => by have := llTot_take r k; simp only [List.take_succ_cons, llTot]; omega

end Go.Proofs.Ytceajdpjablfiaa
