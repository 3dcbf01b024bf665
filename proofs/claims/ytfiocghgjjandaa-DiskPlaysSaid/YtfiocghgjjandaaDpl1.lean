/- A row of steps that came in: structs of a number, two texts, a number and a row of picks. -/
import Derived.Test.YtfiocghgjjandaaRows
import Derived.Deep.Slices
import Derived.Deep.Fields
import Derived.Deep.CondSized
import Derived.Test.YtfiocghgjjandaaKit
import Derived.Test.YtfiocghgjjandaaLaw
import Derived.Test.YtfiocghgjjandaaRow
import Derived.Test.YtfiocghgjjandaaSha
import Derived.Test.YtfiocghgjjandaaDsk14
namespace Go.Proofs.Ytfiocghgjjandaa
open Go.ChangeShapes Go.WideShapes Go.RowKit Go.Proofs Go.Deep

theorem list_ofD {α : Type} {Q : Nat → α → Prop} : ∀ n : Nat, (∀ i, i < n → ∃ p, Q i p) → ∃ ls : List α, ls.length = n ∧ ∀ j p, ls[j]? = some p → Q j p
  | 0, _ => ⟨[], rfl, fun j p h => by simp at h⟩
  | n + 1, h => by
    obtain ⟨ls, h1, h2⟩ := list_ofD n (fun i hi => h i (by omega))
    obtain ⟨q, hq⟩ := h n (by omega)
    refine ⟨ls ++ [q], by simp [h1], fun j p hj => ?_⟩
    have hjl := (List.getElem?_eq_some_iff.1 hj).1
    rw [List.length_append, h1] at hjl
    rcases Nat.lt_or_ge j n with hl | hl
    · rw [List.getElem?_append_left (by omega)] at hj
      exact h2 j p hj
    · have : j = n := by simp at hjl; omega
      subst this
      rw [List.getElem?_append_right (by omega), h1, Nat.sub_self] at hj
      cases hj
      exact hq

structure StepD where
  kd : Int
  a : ByteArray
  b : ByteArray
  n : Int
  ps : List Int

def IntOk (z : Int) : Prop := -9223372036854775808 ≤ z ∧ z ≤ 9223372036854775807

structure StepOk (W : World) (s : StepD) (pv : Value) : Prop where
  kd : IntOk s.kd
  n : IntOk s.n
  sa : s.a.size ≤ maxLen
  sb : s.b.size ≤ maxLen
  pick : PickAt W pv s.ps
  pr : ∀ p ∈ s.ps, IntOk p
  pl : s.ps.length < 140737488355328

def stepCells (s : StepD) (pv : Value) : List Value := [.int .i64 s.kd, .string s.a, .string s.b, .int .i64 s.n, pv]

def DStepsZ (W : World) (v : Value) (ss : List StepD) : Prop :=
  ∃ A C, v = .slice A ss.length C ∧ ss.length ≤ maxLen ∧ (ss = [] ∨ ∃ b o, A = some ⟨b, o, none⟩ ∧ b < W.heap.size ∧ ∀ (j : Nat) (s : StepD), ss[j]? = some s → ∃ pv, W.rangeAt b (o + j * 5) (stepCells s pv) ∧ StepOk W s pv)
section
variable {H : Type} {enc : TypeId × Value → H} {P : Program} {W : World} {base : Nat} {sp : Nat → Bool} {held : Bool}

/-- A struct of one-cell fields in memory: each field's cell, and what is read there. -/
theorem struct_cellsD {e : TypeId} {fs : Array Field} {fuel : Nat} {a : Addr} {cs : List Value} {x : DataW H × List MemPlace} (he : P.underlying e = some (.struct fs)) (hone : oneCellFields P fs = true) (hC : P.cellsOf e = fs.size) (hc : W.cells? base a (P.cellsOf e) = some cs)
    (ht : DataW.trod enc P W base sp held fuel e cs = some x) :
    ∃ (ys : List (DataW H × List MemPlace)) (n : Nat), x.1 = .agg (ys.map (·.1)) ∧ ∀ (j : Nat) (f : Field), fs[j]? = some f → ∃ v y, W.cell? (a.add j) = some v ∧ ys[j]? = some y ∧ DataW.trod enc P W base sp held n f.type [v] = some y := by
  obtain ⟨ys, n, _, hx, hl, hyl, hf⟩ := DataW.trod_struct he ht
  obtain ⟨_, hcl, hat⟩ := World.cells?_some hc
  refine ⟨ys, n, by rw [hx], fun j f hj => ?_⟩
  have hjl : j < fs.size := (Array.getElem?_eq_some_iff.1 hj).1
  obtain ⟨o1, o2⟩ := hone_of hone j f hj
  have hjc : j < cs.length := by rw [hl, hC]; exact hjl
  have h1 := hf j f hj
  rw [o1, o2, List.drop_eq_getElem_cons hjc] at h1
  have h2 : ys[j]? = some (ys[j]'(by omega)) := List.getElem?_eq_getElem (by omega)
  refine ⟨cs[j], ys[j]'(by omega), ?_, h2, ?_⟩
  · rw [hat j (by omega)]
    exact List.getElem?_eq_getElem hjc
  · rw [← h2, ← h1]
    rfl

theorem weights_partsD {e : TypeId} {fs : Array Field} {ys : List (DataW H × List MemPlace)} (he : P.underlying e = some (.struct fs)) {j : Nat} {f : Field} {y : DataW H × List MemPlace} (hf : fs[j]? = some f) (hy : ys[j]? = some y) : ∀ n ∈ y.1.weights P f.type, n ∈ DataW.weights P e (.agg (ys.map (·.1)) : DataW H) := fun n hn => by
  simp only [DataW.weights, he]
  refine DataW.weights_mem_each (j := j) (t := f.type) (d := y.1) ?_ ?_ n hn
  · rw [List.getElem?_map, Array.getElem?_toList, hf]
    rfl
  · rw [List.getElem?_map, hy]
    rfl

theorem weights_elemD {t e : TypeId} (ht : P.underlying t = some (.slice e)) {D : Nat → DataW H} {len : Nat} {sps : List (DataW H)} {i : Nat} (hi : i < len) : ∀ n ∈ (D i).weights P e, n ∈ DataW.weights P t (.slice ((List.range len).map D) sps : DataW H) := fun n hn => by
  simp only [DataW.weights, ht]
  refine List.mem_cons_of_mem _ (List.mem_append.2 (.inl (weights_all_mem (List.mem_map.2 ⟨i, List.mem_range.2 hi, rfl⟩) n hn)))

theorem open_picks_cs {t e : TypeId} {fuel : Nat} {v : Value} {x : DataW H × List MemPlace} (ht : P.underlying t = some (.slice e)) (he : P.underlying e = some (.int .i64)) (hc : P.cellsOf e = 1) (hby : P.bytesOf e = 8)
    (hf : DataW.trod enc P W base (fun _ => true) held fuel t [v] = some x) (hz : ∀ n ∈ x.1.weights P t, n ≤ reachBytes) : ∃ l : List Int, PickAt W v l ∧ (∀ p ∈ l, IntOk p) ∧ l.length < 140737488355328 := by
  rcases open_ints ht he hc hf with ⟨hcs, hx⟩ | ⟨a, len', cap', ss, hcs, _, hle, hm, hss, hx, hcell, hws⟩
  · simp at hcs
    subst hcs
    exact ⟨[], ⟨none, 0, rfl, Nat.le_refl _, .inl rfl⟩, fun p hp => by simp at hp, by decide⟩
  · simp at hcs
    subst hcs
    simp only [if_true] at hss
    have hlen : (ss.take len').length = len' := by rw [List.length_take]; omega
    have hw2 : len' * 8 ≤ reachBytes := by
      have := hz _ (show (lits (H := H) .i64 (ss.take len')).length * P.bytesOf e + (lits (H := H) .i64 (ss.drop len')).length * P.bytesOf e ∈ _ by
        rw [hx]
        simp only [DataW.weights, ht]
        rw [← Nat.add_mul]
        exact List.mem_cons_self ..)
      simp only [lits, List.length_map, hby, hlen] at this
      omega
    have h2 : reachBytes = 140737488351232 := by decide
    refine ⟨ss.take len', ⟨some a, cap', by rw [hlen], by rw [hlen]; exact hle, ?_⟩, fun p hp => bounds_i64 (hws p (List.mem_of_mem_take hp)), by rw [hlen]; omega⟩
    by_cases hz : len' = 0
    · exact .inl (List.eq_nil_of_length_eq_zero (by rw [hlen]; exact hz))
    · have h0 := hcell 0 (by omega)
      obtain ⟨b, o, rfl, hp2⟩ := addr_plain h0
      refine .inr ⟨b, o, rfl, fun j p hj => ?_⟩
      rw [List.getElem?_take] at hj
      split at hj
      · have hjl := (List.getElem?_eq_some_iff.1 hj).1
        have h1 := hcell j hjl
        rw [hp2] at h1
        rw [h1, List.getD_eq_getElem?_getD, hj]
        rfl
      · cases hj

theorem open_dsteps {tI tT tP eS tS : TypeId} {s0 s1 s2 s3 s4 : Field} (hI : P.underlying tI = some (.int .i64)) (hT : P.underlying tT = some .string) (hP : P.underlying tP = some (.slice tI)) (hcI : P.cellsOf tI = 1) (hbI : P.bytesOf tI = 8) (hS : P.underlying tS = some (.slice eS)) (hs : P.underlying eS = some (.struct #[s0, s1, s2, s3, s4]))
    (g0 : s0.type = tI) (g1 : s1.type = tT) (g2 : s2.type = tT) (g3 : s3.type = tI) (g4 : s4.type = tP) (honeS : oneCellFields P #[s0, s1, s2, s3, s4] = true) (hCS : P.cellsOf eS = 5)
    {v : Value} {d : DataW H} {ps : List MemPlace} {r : Reach} {b0 : Nat} (hval : Value.okWide P W r b0 tS v) (hd : DataW.Trod enc P W base (fun _ => true) held tS v d ps) (hz : ∀ n ∈ d.weights P tS, n ≤ reachBytes) :
    ∃ ss : List StepD, DStepsZ W v ss := by
  obtain ⟨a0, len0, cap0, rfl⟩ := okWide_slice hS hval
  obtain ⟨fuel, hf⟩ := hd
  rcases open_slice hS hf with ⟨hcs, hx⟩ | ⟨a, len, cap, m, n, D, Pl, hcs, _, hle, hm, hmm, hx, hi⟩
  · simp [Value.cells] at hcs
    obtain ⟨rfl, rfl, rfl⟩ := hcs
    exact ⟨[], none, 0, rfl, Nat.zero_le _, .inl rfl⟩
  · simp [Value.cells] at hcs
    obtain ⟨rfl, rfl, rfl⟩ := hcs
    simp only [if_true] at hmm
    have hdx : d = .slice ((List.range len0).map D) ((List.range (m - len0)).map fun j => D (len0 + j)) := congrArg Prod.fst hx
    have hone : ∀ i, i < len0 → ∃ s : StepD, ∃ u, (W.cell? ((a.add (i * 5)).add 0) = some (.int .i64 s.kd) ∧ W.cell? ((a.add (i * 5)).add 1) = some (.string s.a) ∧ W.cell? ((a.add (i * 5)).add 2) = some (.string s.b) ∧ W.cell? ((a.add (i * 5)).add 3) = some (.int .i64 s.n) ∧ W.cell? ((a.add (i * 5)).add 4) = some u) ∧ StepOk W s u := fun i hil => by
      obtain ⟨cs', hcl, htr⟩ := hi i (by omega)
      obtain ⟨ys, n', hd, hat⟩ := struct_cellsD hs honeS hCS hcl htr
      rw [hCS] at hat
      obtain ⟨v0, y0, c0, _, t0⟩ := hat 0 s0 rfl
      obtain ⟨v1, y1, c1, _, t1⟩ := hat 1 s1 rfl
      obtain ⟨v2, y2, c2, _, t2⟩ := hat 2 s2 rfl
      obtain ⟨v3, y3, c3, _, t3⟩ := hat 3 s3 rfl
      obtain ⟨v4, y4, c4, hy4, t4⟩ := hat 4 s4 rfl
      rw [g0] at t0
      rw [g1] at t1
      rw [g2] at t2
      rw [g3] at t3
      rw [g4] at t4
      obtain ⟨kd, hf0, _, w0⟩ := DataW.trod_int hI t0
      obtain ⟨sa, hf1, _, w1⟩ := DataW.trod_string hT t1
      obtain ⟨sb, hf2, _, w2⟩ := DataW.trod_string hT t2
      obtain ⟨k, hf3, _, w3⟩ := DataW.trod_int hI t3
      cases hf0
      cases hf1
      cases hf2
      cases hf3
      have hw4 : ∀ n ∈ y4.1.weights P tP, n ≤ reachBytes := fun n hn => hz n (by
        rw [hdx]
        refine weights_elemD hS hil n ?_
        have h3 := weights_partsD (ys := ys) hs (j := 4) (f := s4) rfl hy4 n (by rw [g4]; exact hn)
        dsimp only at hd
        rw [hd]
        exact h3)
      obtain ⟨l, hl, hll, hlen⟩ := open_picks_cs hP hI hcI hbI t4 hw4
      exact ⟨⟨kd, sa, sb, k, l⟩, v4, ⟨c0, c1, c2, c3, c4⟩, ⟨bounds_i64 w0, bounds_i64 w3, w1, w2, hl, hll, hlen⟩⟩
    obtain ⟨ls, h1, h2⟩ := list_ofD len0 hone
    refine ⟨ls, some a, cap0, by rw [h1], by omega, ?_⟩
    by_cases hne : ls = []
    · exact .inl hne
    · obtain ⟨p, hp⟩ : ∃ p, ls[0]? = some p := ⟨_, List.getElem?_eq_getElem (List.length_pos_iff.2 hne)⟩
      obtain ⟨u0, ⟨hc0, _⟩, _⟩ := h2 0 p hp
      rw [add_add, Nat.zero_mul, Nat.add_zero] at hc0
      obtain ⟨b, o, rfl, hp2⟩ := addr_plain hc0
      have hbl : b < W.heap.size := by
        rw [hp2 0] at hc0
        exact block_of_cell hc0
      refine .inr ⟨b, o, rfl, hbl, fun j q hj => ?_⟩
      obtain ⟨u, ⟨k0, k1, k2, k3, k4⟩, k5⟩ := h2 j q hj
      rw [add_add, hp2] at k0 k1 k2 k3 k4
      refine ⟨u, fun i y hi => ?_, k5⟩
      unfold stepCells at hi
      match i, hi with
      | 0, hi => simp at hi; subst hi; exact k0
      | 1, hi => simp at hi; subst hi; exact k1
      | 2, hi => simp at hi; subst hi; exact k2
      | 3, hi => simp at hi; subst hi; exact k3
      | 4, hi => simp at hi; subst hi; exact k4
      | i + 5, hi => simp at hi
end

end Go.Proofs.Ytfiocghgjjandaa
