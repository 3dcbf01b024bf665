/- A row of steps that came in: structs that hold a row of packets. -/
import Derived.Test.YtneomfhlkdpnjaaRows
import Derived.Deep.Slices
import Derived.Deep.Fields
import Derived.Deep.CondSized
import Derived.Stop.BytesEq
import Derived.Test.YtneomfhlkdpnjaaKit
import Derived.Test.YtneomfhlkdpnjaaLaw
import Derived.Test.YtneomfhlkdpnjaaRow
import Derived.Test.YtneomfhlkdpnjaaSha
import Derived.Test.YtneomfhlkdpnjaaCod9
import Derived.Test.YtneomfhlkdpnjaaLaw3
import Derived.Test.YtneomfhlkdpnjaaDsk17
import Derived.Test.YtneomfhlkdpnjaaNet0
import Derived.Test.YtneomfhlkdpnjaaNet12
namespace Go.Proofs.Ytneomfhlkdpnjaa
open Go.ChangeShapes Go.WideShapes Go.RowKit Go.Proofs Go.Deep

theorem list_of {α : Type} {Q : Nat → α → Prop} : ∀ n : Nat, (∀ i, i < n → ∃ p, Q i p) → ∃ ls : List α, ls.length = n ∧ ∀ j p, ls[j]? = some p → Q j p
  | 0, _ => ⟨[], rfl, fun j p h => by simp at h⟩
  | n + 1, h => by
    obtain ⟨ls, h1, h2⟩ := list_of n (fun i hi => h i (by omega))
    obtain ⟨q, hq⟩ := h n (by omega)
    refine ⟨ls ++ [q], by simp [h1], fun j p hj => ?_⟩
    have hjl := (List.getElem?_eq_some_iff.1 hj).1
    rw [List.length_append, h1] at hjl
    rcases Nat.lt_or_ge j n with hl | hl
    · rw [List.getElem?_append_left (by omega)] at hj
      exact h2 j p hj
    · have : j = n := by simp at hjl; omega
      subst this
      rw [List.getElem?_append_right (by omega), h1, Nat.sub_self] at hj
      cases hj
      exact hq
section
variable {H : Type} {enc : TypeId × Value → H} {P : Program} {W : World} {base : Nat} {sp : Nat → Bool} {held : Bool}

/-- A struct of one-cell fields in memory: each field's cell, and what is read there. -/
theorem struct_cells {e : TypeId} {fs : Array Field} {fuel : Nat} {a : Addr} {cs : List Value} {x : DataW H × List MemPlace} (he : P.underlying e = some (.struct fs)) (hone : oneCellFields P fs = true) (hC : P.cellsOf e = fs.size) (hc : W.cells? base a (P.cellsOf e) = some cs)
    (ht : DataW.trod enc P W base sp held fuel e cs = some x) :
    ∃ (ys : List (DataW H × List MemPlace)) (n : Nat), x.1 = .agg (ys.map (·.1)) ∧ ∀ (j : Nat) (f : Field), fs[j]? = some f → ∃ v y, W.cell? (a.add j) = some v ∧ ys[j]? = some y ∧ DataW.trod enc P W base sp held n f.type [v] = some y := by
  obtain ⟨ys, n, _, hx, hl, hyl, hf⟩ := DataW.trod_struct he ht
  obtain ⟨_, hcl, hat⟩ := World.cells?_some hc
  refine ⟨ys, n, by rw [hx], fun j f hj => ?_⟩
  have hjl : j < fs.size := (Array.getElem?_eq_some_iff.1 hj).1
  obtain ⟨o1, o2⟩ := hone_of hone j f hj
  have hjc : j < cs.length := by rw [hl, hC]; exact hjl
  have h1 := hf j f hj
  rw [o1, o2, List.drop_eq_getElem_cons hjc] at h1
  have h2 : ys[j]? = some (ys[j]'(by omega)) := List.getElem?_eq_getElem (by omega)
  refine ⟨cs[j], ys[j]'(by omega), ?_, h2, ?_⟩
  · rw [hat j (by omega)]
    exact List.getElem?_eq_getElem hjc
  · rw [← h2, ← h1]
    rfl

theorem weights_parts {e : TypeId} {fs : Array Field} {ys : List (DataW H × List MemPlace)} (he : P.underlying e = some (.struct fs)) {j : Nat} {f : Field} {y : DataW H × List MemPlace} (hf : fs[j]? = some f) (hy : ys[j]? = some y) : ∀ n ∈ y.1.weights P f.type, n ∈ DataW.weights P e (.agg (ys.map (·.1)) : DataW H) := fun n hn => by
  simp only [DataW.weights, he]
  refine DataW.weights_mem_each (j := j) (t := f.type) (d := y.1) ?_ ?_ n hn
  · rw [List.getElem?_map, Array.getElem?_toList, hf]
    rfl
  · rw [List.getElem?_map, hy]
    rfl

theorem weights_elem {t e : TypeId} (ht : P.underlying t = some (.slice e)) {D : Nat → DataW H} {len : Nat} {sps : List (DataW H)} {i : Nat} (hi : i < len) : ∀ n ∈ (D i).weights P e, n ∈ DataW.weights P t (.slice ((List.range len).map D) sps : DataW H) := fun n hn => by
  simp only [DataW.weights, ht]
  refine List.mem_cons_of_mem _ (List.mem_append.2 (.inl (weights_all_mem (List.mem_map.2 ⟨i, List.mem_range.2 hi, rfl⟩) n hn)))
end
section
variable {H : Type} {enc : TypeId × Value → H} {P : Program} {W : World} {base : Nat} {held : Bool}

theorem byteZ_of {W : World} {v : Value} {l : List UInt8} (h : ByteSl W W.heap.size v l) : ByteZ W (fun k => k < W.heap.size) v l := by
  rcases h with h | ⟨ad, c, rfl, hc, hl⟩
  · exact .inl h
  · exact .inr ⟨ad, c, rfl, hc, hl.imp id (fun ⟨b, o, ha, hb, hat⟩ => ⟨b, o, Option.some.inj ha, hb, hat⟩)⟩

/-- A row of bytes, with its bound. -/
theorem open_bytes_w {t e : TypeId} {fuel : Nat} {v : Value} {x : DataW H × List MemPlace} (ht : P.underlying t = some (.slice e)) (he : P.underlying e = some (.int .u8)) (hc : P.cellsOf e = 1) (hby : P.bytesOf e = 1)
    (hf : DataW.trod enc P W base (fun _ => true) held fuel t [v] = some x) (hz : ∀ n ∈ x.1.weights P t, n ≤ reachBytes) : ∃ l : List UInt8, ByteZ W (fun k => k < W.heap.size) v l ∧ l.length ≤ 140737488351232 := by
  obtain ⟨v', l, hv, hs, _⟩ := open_bytes_cs ht he hc hf
  cases hv
  refine ⟨l, byteZ_of hs, ?_⟩
  rcases open_slice ht hf with ⟨hcs, hx⟩ | ⟨a, len, cap, m, n, D, Pl, hcs, _, hle, hm, hmm, hx, hi⟩
  · simp at hcs
    subst hcs
    rcases hs with ⟨_, rfl⟩ | ⟨ad, c, hv, _⟩
    · simp
    · cases hv
  · simp at hcs
    subst hcs
    have hlen : l.length = len := by
      rcases hs with ⟨hv, _⟩ | ⟨ad, c, hv, _⟩
      · cases hv
      · injection hv with _ h _
        exact h.symm
    have h1 := hz ((((List.range len).map D).length + ((List.range (m - len)).map fun j => D (len + j)).length) * P.bytesOf e) (by
      rw [hx]
      simp only [DataW.weights, ht]
      exact List.mem_cons_self ..)
    rw [hby] at h1
    simp only [List.length_map, List.length_range] at h1
    have h2 : reachBytes = 140737488351232 := by decide
    omega
end

/-- The types of a packet and of a row of them. -/
structure PkTys (P : Program) (tI tB eB eP tL : TypeId) (f0 f1 f2 : Field) : Prop where
  hI : P.underlying tI = some (.int .i64)
  hB : P.underlying tB = some (.slice eB)
  hb : P.underlying eB = some (.int .u8)
  hP : P.underlying eP = some (.struct #[f0, f1, f2])
  hL : P.underlying tL = some (.slice eP)
  e0 : f0.type = tI
  e1 : f1.type = tI
  e2 : f2.type = tB
  hone : oneCellFields P #[f0, f1, f2] = true
  hC : P.cellsOf eP = 3
  hc : P.cellsOf eB = 1
  hby : P.bytesOf eB = 1
section
variable {H : Type} {enc : TypeId × Value → H} {P : Program} {W : World} {base : Nat} {held : Bool}

theorem open_pks {tI tB eB eP tL : TypeId} {f0 f1 f2 : Field} (T : PkTys P tI tB eB eP tL f0 f1 f2) {fuel : Nat} {v : Value} {x : DataW H × List MemPlace} (hf : DataW.trod enc P W base (fun _ => true) held fuel tL [v] = some x) (hz : ∀ n ∈ x.1.weights P tL, n ≤ reachBytes) :
    ∃ ls : List PkM, PksZ W (fun k => k < W.heap.size) v ls := by
  rcases open_slice T.hL hf with ⟨hcs, hx⟩ | ⟨a, len, cap, m, n, D, Pl, hcs, _, hle, hm, hmm, hx, hi⟩
  · simp at hcs
    subst hcs
    exact ⟨[], none, 0, rfl, .inl rfl⟩
  · simp at hcs
    subst hcs
    simp only [if_true] at hmm
    have hone : ∀ i, i < len → ∃ p : PkM, ∃ u, (W.cell? ((a.add (i * 3)).add 0) = some (.int .i64 p.f) ∧ W.cell? ((a.add (i * 3)).add 1) = some (.int .i64 p.t) ∧ W.cell? ((a.add (i * 3)).add 2) = some u) ∧ ByteZ W (fun k => k < W.heap.size) u p.b ∧ p.b.length ≤ 140737488351232 := fun i hil => by
      obtain ⟨cs', hcl, htr⟩ := hi i (by omega)
      obtain ⟨ys, n', hd, hat⟩ := struct_cells T.hP T.hone T.hC hcl htr
      rw [T.hC] at hat
      obtain ⟨v0, y0, c0, _, t0⟩ := hat 0 f0 rfl
      obtain ⟨v1, y1, c1, _, t1⟩ := hat 1 f1 rfl
      obtain ⟨v2, y2, c2, hy2, t2⟩ := hat 2 f2 rfl
      rw [T.e0] at t0
      rw [T.e1] at t1
      rw [T.e2] at t2
      obtain ⟨f, hf0, _, _⟩ := DataW.trod_int T.hI t0
      obtain ⟨t, hf1, _, _⟩ := DataW.trod_int T.hI t1
      cases hf0
      cases hf1
      have hw2 : ∀ n ∈ y2.1.weights P tB, n ≤ reachBytes := fun n hn => hz n (by
        rw [hx]
        refine weights_elem T.hL hil n ?_
        have h3 := weights_parts (ys := ys) T.hP (j := 2) (f := f2) rfl hy2 n (by rw [T.e2]; exact hn)
        dsimp only at hd
        rw [hd]
        exact h3)
      obtain ⟨l, hl, hll⟩ := open_bytes_w T.hB T.hb T.hc T.hby t2 hw2
      exact ⟨⟨f, t, l⟩, v2, ⟨c0, c1, c2⟩, hl, hll⟩
    obtain ⟨ls, h1, h2⟩ := list_of len hone
    refine ⟨ls, some a, cap, by rw [h1], ?_⟩
    by_cases hne : ls = []
    · exact .inl hne
    · obtain ⟨p, hp⟩ : ∃ p, ls[0]? = some p := ⟨_, List.getElem?_eq_getElem (List.length_pos_iff.2 hne)⟩
      obtain ⟨u0, ⟨hc0, _, _⟩, _⟩ := h2 0 p hp
      rw [add_add, Nat.zero_mul, Nat.add_zero] at hc0
      obtain ⟨b, o, rfl, hp2⟩ := addr_plain hc0
      have hbl : b < W.heap.size := by
        rw [hp2 0] at hc0
        exact block_of_cell hc0
      refine .inr ⟨b, o, rfl, hbl, fun j q hj => ?_⟩
      obtain ⟨u, ⟨k0, k1, k2⟩, k3, k4⟩ := h2 j q hj
      rw [add_add, hp2] at k0 k1 k2
      refine ⟨u, fun i y hi => ?_, k3, k4⟩
      match i, hi with
      | 0, hi => simp at hi; subst hi; exact k0
      | 1, hi => simp at hi; subst hi; exact k1
      | 2, hi => simp at hi; subst hi; exact k2
      | i + 3, hi => simp at hi

structure StepM where
  kd : Int
  ls : List PkM
  k : Int

def StepsZ (W : World) (v : Value) (ss : List StepM) : Prop :=
  ∃ A C, v = .slice A ss.length C ∧ (ss = [] ∨ ∃ b o, A = some ⟨b, o, none⟩ ∧ b < W.heap.size ∧ ∀ (j : Nat) (s : StepM), ss[j]? = some s → ∃ lv, W.rangeAt b (o + j * 3) [.int .i64 s.kd, lv, .int .i64 s.k] ∧ PksZ W (fun k => k < W.heap.size) lv s.ls)

theorem open_steps {tI tB eB eP tL eS tS : TypeId} {f0 f1 f2 s0 s1 s2 : Field} (T : PkTys P tI tB eB eP tL f0 f1 f2) (hS : P.underlying tS = some (.slice eS)) (hs : P.underlying eS = some (.struct #[s0, s1, s2])) (g0 : s0.type = tI) (g1 : s1.type = tL) (g2 : s2.type = tI) (honeS : oneCellFields P #[s0, s1, s2] = true) (hCS : P.cellsOf eS = 3)
    {v : Value} {d : DataW H} {ps : List MemPlace} {r : Reach} {b0 : Nat} (hval : Value.okWide P W r b0 tS v) (hd : DataW.Trod enc P W base (fun _ => true) held tS v d ps) (hz : ∀ n ∈ d.weights P tS, n ≤ reachBytes) :
    ∃ ss : List StepM, StepsZ W v ss := by
  obtain ⟨a0, len0, cap0, rfl⟩ := okWide_slice hS hval
  obtain ⟨fuel, hf⟩ := hd
  rcases open_slice hS hf with ⟨hcs, hx⟩ | ⟨a, len, cap, m, n, D, Pl, hcs, _, hle, hm, hmm, hx, hi⟩
  · simp [Value.cells] at hcs
    obtain ⟨rfl, rfl, rfl⟩ := hcs
    exact ⟨[], none, 0, rfl, .inl rfl⟩
  · simp [Value.cells] at hcs
    obtain ⟨rfl, rfl, rfl⟩ := hcs
    simp only [if_true] at hmm
    have hdx : d = .slice ((List.range len0).map D) ((List.range (m - len0)).map fun j => D (len0 + j)) := congrArg Prod.fst hx
    have hone : ∀ i, i < len0 → ∃ s : StepM, ∃ u, (W.cell? ((a.add (i * 3)).add 0) = some (.int .i64 s.kd) ∧ W.cell? ((a.add (i * 3)).add 1) = some u ∧ W.cell? ((a.add (i * 3)).add 2) = some (.int .i64 s.k)) ∧ PksZ W (fun k => k < W.heap.size) u s.ls := fun i hil => by
      obtain ⟨cs', hcl, htr⟩ := hi i (by omega)
      obtain ⟨ys, n', hd, hat⟩ := struct_cells hs honeS hCS hcl htr
      rw [hCS] at hat
      obtain ⟨v0, y0, c0, _, t0⟩ := hat 0 s0 rfl
      obtain ⟨v1, y1, c1, hy1, t1⟩ := hat 1 s1 rfl
      obtain ⟨v2, y2, c2, _, t2⟩ := hat 2 s2 rfl
      rw [g0] at t0
      rw [g1] at t1
      rw [g2] at t2
      obtain ⟨kd, hf0, _, _⟩ := DataW.trod_int T.hI t0
      obtain ⟨k, hf2, _, _⟩ := DataW.trod_int T.hI t2
      cases hf0
      cases hf2
      have hw1 : ∀ n ∈ y1.1.weights P tL, n ≤ reachBytes := fun n hn => hz n (by
        rw [hdx]
        refine weights_elem hS hil n ?_
        have h3 := weights_parts (ys := ys) hs (j := 1) (f := s1) rfl hy1 n (by rw [g1]; exact hn)
        dsimp only at hd
        rw [hd]
        exact h3)
      obtain ⟨l, hl⟩ := open_pks T t1 hw1
      exact ⟨⟨kd, l, k⟩, v1, ⟨c0, c1, c2⟩, hl⟩
    obtain ⟨ss, h1, h2⟩ := list_of len0 hone
    refine ⟨ss, some a, cap0, by rw [h1], ?_⟩
    by_cases hne : ss = []
    · exact .inl hne
    · obtain ⟨p, hp⟩ : ∃ p, ss[0]? = some p := ⟨_, List.getElem?_eq_getElem (List.length_pos_iff.2 hne)⟩
      obtain ⟨u0, ⟨hc0, _, _⟩, _⟩ := h2 0 p hp
      rw [add_add, Nat.zero_mul, Nat.add_zero] at hc0
      obtain ⟨b, o, rfl, hp2⟩ := addr_plain hc0
      have hbl : b < W.heap.size := by
        rw [hp2 0] at hc0
        exact block_of_cell hc0
      refine .inr ⟨b, o, rfl, hbl, fun j q hj => ?_⟩
      obtain ⟨u, ⟨k0, k1, k2⟩, k3⟩ := h2 j q hj
      rw [add_add, hp2] at k0 k1 k2
      refine ⟨u, fun i y hi => ?_, k3⟩
      match i, hi with
      | 0, hi => simp at hi; subst hi; exact k0
      | 1, hi => simp at hi; subst hi; exact k1
      | 2, hi => simp at hi; subst hi; exact k2
      | i + 3, hi => simp at hi
end

theorem Try.pkTys : ∃ f0 f1 f2, PkTys Try.prog 3 50 5 52 43 f0 f1 f2 :=
  ⟨_, _, _, Try.underlying3, Try.underlying50, Try.underlying5, Try.underlying52, Try.underlying43, rfl, rfl, rfl, by kernel_rfl, by kernel_rfl, by kernel_rfl, by kernel_rfl⟩

end Go.Proofs.Ytneomfhlkdpnjaa
