/- What came in, opened, with its bulk. -/
import Derived.Test.YtneomfhlkdpnjaaRows
import Derived.Deep.Slices
import Derived.Deep.CondSized
import Derived.Stop.BytesEq
import Derived.Test.YtneomfhlkdpnjaaKit
import Derived.Test.YtneomfhlkdpnjaaLaw
import Derived.Test.YtneomfhlkdpnjaaRow
import Derived.Test.YtneomfhlkdpnjaaSha
import Derived.Test.YtneomfhlkdpnjaaCod9
import Derived.Test.YtneomfhlkdpnjaaJoin
namespace Go.Proofs.Ytneomfhlkdpnjaa
open Go.ChangeShapes Go.WideShapes Go.RowKit Go.Proofs Go.Deep

theorem bulk_one {H : Type} (d : DataW H) : 1 ≤ Rows.uptoBulk d := by
  cases d with
  | lit l => cases l <;> simp [Rows.uptoBulk]
  | nil => simp [Rows.uptoBulk]
  | ptr d => simp [Rows.uptoBulk]
  | slice elems spare => simp [Rows.uptoBulk]
  | agg parts => simp [Rows.uptoBulk]
  | iface t d => simp [Rows.uptoBulk]
  | map entries => simp [Rows.uptoBulk]
  | held h => simp [Rows.uptoBulk]

theorem bulk_len {H : Type} (l : List (DataW H)) : l.length ≤ Rows.uptoBulkAll l := by
  induction l with
  | nil => simp [Rows.uptoBulkAll]
  | cons x r ih => have := bulk_one x; simp only [Rows.uptoBulkAll, List.length_cons]; omega
section
variable {H : Type} {enc : TypeId × Value → H} {P : Program} {W : World} {base : Nat} {held : Bool}

/-- One slice of bytes, out of its cells. -/
theorem open_bytes_cs {t e : TypeId} {fuel : Nat} {cs : List Value} {x : DataW H × List MemPlace} (ht : P.underlying t = some (.slice e)) (he : P.underlying e = some (.int .u8)) (hc : P.cellsOf e = 1)
    (hf : DataW.trod enc P W base (fun _ => true) held fuel t cs = some x) : ∃ v l, cs = [v] ∧ ByteSl W W.heap.size v l ∧ l.length ≤ Rows.uptoBulk x.1 := by
  rcases open_ints ht he hc hf with ⟨rfl, rfl⟩ | ⟨a, len, cap, ss, rfl, _, hle, hm, hss, rfl, hcell, hws⟩
  · exact ⟨_, [], rfl, .inl ⟨rfl, rfl⟩, by simp⟩
  · simp only [if_true] at hss
    obtain ⟨l, hl, hll⟩ := bytes_of_nums (zs := ss.take len) (fun z hz => hws z (List.mem_of_mem_take hz))
    have hlen : l.length = len := by rw [hll, List.length_take]; omega
    refine ⟨_, l, rfl, .inr ⟨a, cap, by rw [hlen], by omega, ?_⟩, ?_⟩
    · by_cases hne : l = []
      · exact .inl hne
      · have hpos : 0 < l.length := List.length_pos_iff.2 hne
        have hat : ∀ j (y : UInt8), l[j]? = some y → W.cell? (a.add j) = some (byteV y) := fun j y hj => by
          have hjl : j < l.length := (List.getElem?_eq_some_iff.1 hj).1
          rw [hcell j (by omega)]
          have h1 : (l.map byteV)[j]? = some (byteV y) := by rw [List.getElem?_map, hj]; rfl
          rw [← hl, List.getElem?_map, List.getElem?_take, if_pos (by omega), List.getElem?_eq_getElem (by omega)] at h1
          rw [List.getD_eq_getElem?_getD, List.getElem?_eq_getElem (by omega)]
          simpa using h1
        obtain ⟨y, hy⟩ : ∃ y, l[0]? = some y := ⟨_, List.getElem?_eq_getElem hpos⟩
        obtain ⟨b, o, rfl, hp⟩ := addr_plain (hat 0 y hy)
        refine .inr ⟨b, o, rfl, ?_, fun j x hj => by rw [← hp j]; exact hat j x hj⟩
        have h0 := hat 0 y hy
        rw [hp 0] at h0
        exact block_of_cell h0
    · have h1 := bulk_len (lits (H := H) .u8 (ss.take len))
      simp only [Rows.uptoBulk]
      simp only [lits, List.length_map, List.length_take] at h1
      simp only [lits]
      omega

/-- Rows of bytes, each by its own opening. -/
theorem rows_of {f : Nat → DataW H} {a : Addr} : ∀ n : Nat, (∀ i, i < n → ∃ v l, W.cell? (a.add i) = some v ∧ ByteSl W W.heap.size v l ∧ l.length ≤ Rows.uptoBulk (f i)) →
    ∃ ls : List (List UInt8), ls.length = n ∧ ls.flatten.length ≤ Rows.uptoBulkAll ((List.range n).map f) ∧ ∀ j l, ls[j]? = some l → ∃ u, W.cell? (a.add j) = some u ∧ ByteSl W W.heap.size u l
  | 0, _ => ⟨[], rfl, by simp, fun j l h => by simp at h⟩
  | n + 1, h => by
    obtain ⟨ls, h1, h2, h3⟩ := rows_of n (fun i hi => h i (by omega))
    obtain ⟨v, l, hv, hs, hb⟩ := h n (by omega)
    have happ : ∀ (xs ys : List (DataW H)), Rows.uptoBulkAll (xs ++ ys) = Rows.uptoBulkAll xs + Rows.uptoBulkAll ys := by
      intro xs ys
      induction xs with
      | nil => simp [Rows.uptoBulkAll]
      | cons x l ih => simp only [List.cons_append, Rows.uptoBulkAll, ih]; omega
    refine ⟨ls ++ [l], by simp [h1], ?_, fun j m hj => ?_⟩
    · rw [List.range_succ, List.map_append, happ]
      have hf : (ls ++ [l]).flatten.length = ls.flatten.length + l.length := by simp
      simp only [List.map_cons, List.map_nil, Rows.uptoBulkAll]
      rw [hf]
      omega
    · rcases Nat.lt_or_ge j n with hj' | hj'
      · rw [List.getElem?_append_left (by omega)] at hj
        exact h3 j m hj
      · rw [List.getElem?_append_right (by omega), h1] at hj
        have : j - n = 0 := by
          rcases Nat.eq_zero_or_pos (j - n) with h | h
          · exact h
          · rw [List.getElem?_eq_none (by simp; omega)] at hj; cases hj
        have hjn : j = n := by omega
        subst hjn
        rw [Nat.sub_self] at hj
        cases hj
        exact ⟨v, hv, hs⟩

/-- A slice of slices of bytes that came in. -/
theorem open_parts {t u e : TypeId} {v : Value} {d : DataW H} {ps : List MemPlace} (ht : P.underlying t = some (.slice u)) (hu : P.underlying u = some (.slice e)) (he : P.underlying e = some (.int .u8)) (hc : P.cellsOf e = 1) (hcu : P.cellsOf u = 1) {r : Reach} {b0 : Nat}
    (hval : Value.okWide P W r b0 t v) (hd : DataW.Trod enc P W base (fun _ => true) held t v d ps) :
    ∃ ls : List (List UInt8), PartsB W W.heap.size v ls ∧ ls.flatten.length ≤ Rows.uptoBulk d ∧ ls.length ≤ Rows.uptoBulk d := by
  obtain ⟨a0, len0, cap0, rfl⟩ := okWide_slice ht hval
  obtain ⟨fuel, hf⟩ := hd
  rcases open_slice ht hf with ⟨hcs, hx⟩ | ⟨a, len, cap, m, n, D, Pl, hcs, _, hle, hm, hmm, hx, hi⟩
  · simp [Value.cells] at hcs
    obtain ⟨rfl, rfl, rfl⟩ := hcs
    exact ⟨[], .inl ⟨rfl, rfl⟩, by simp, by simp⟩
  · simp [Value.cells] at hcs
    obtain ⟨rfl, rfl, rfl⟩ := hcs
    simp only [if_true] at hmm
    have hone : ∀ i, i < len0 → ∃ v l, W.cell? (a.add i) = some v ∧ ByteSl W W.heap.size v l ∧ l.length ≤ Rows.uptoBulk (D i) := fun i hil => by
      obtain ⟨cs', hcl, htr⟩ := hi i (by omega)
      obtain ⟨v, l, rfl, hs, hb⟩ := open_bytes_cs hu he hc htr
      obtain ⟨_, _, hat⟩ := World.cells?_some hcl
      have h0 := hat 0 (by omega)
      rw [hcu, Nat.mul_one, add_add, Nat.add_zero] at h0
      exact ⟨v, l, h0, hs, hb⟩
    obtain ⟨ls, h1, h2, h3⟩ := rows_of len0 hone
    have hdx : d = .slice ((List.range len0).map D) ((List.range (m - len0)).map fun j => D (len0 + j)) := congrArg Prod.fst hx
    refine ⟨ls, .inr ⟨a, cap0, by rw [h1], ?_⟩, ?_, ?_⟩
    · by_cases hne : ls = []
      · exact .inl hne
      · obtain ⟨l, hl⟩ : ∃ l, ls[0]? = some l := ⟨_, List.getElem?_eq_getElem (List.length_pos_iff.2 hne)⟩
        obtain ⟨u0, hu0, _⟩ := h3 0 l hl
        obtain ⟨b, o, rfl, hp⟩ := addr_plain hu0
        rw [hp 0] at hu0
        exact .inr ⟨b, o, rfl, block_of_cell hu0, fun j l hj => by rw [← hp j]; exact h3 j l hj⟩
    · rw [hdx]
      simp only [Rows.uptoBulk]
      omega
    · have h4 := bulk_len ((List.range len0).map D)
      rw [hdx]
      simp only [Rows.uptoBulk]
      simp at h4
      omega
end

end Go.Proofs.Ytneomfhlkdpnjaa
