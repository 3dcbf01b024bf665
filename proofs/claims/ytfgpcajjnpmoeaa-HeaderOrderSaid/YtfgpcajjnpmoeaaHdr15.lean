/- Fields that came in; what the document fixes. -/
import Derived.Test.YtfgpcajjnpmoeaaRows
import Derived.Deep.Slices
import Derived.Deep.Fields
import Derived.Deep.CondSized
import Derived.OpenShut
import Derived.Test.YtfgpcajjnpmoeaaKit
import Derived.Test.YtfgpcajjnpmoeaaLaw
import Derived.Test.YtfgpcajjnpmoeaaRow
import Derived.Test.YtfgpcajjnpmoeaaHdr0
import Derived.Test.YtfgpcajjnpmoeaaHdr10
namespace Go.Proofs.Ytfgpcajjnpmoeaa
open Go.ChangeShapes Go.WideShapes Go.ChangeAt Go.RowKit Go.Proofs Go.Deep

theorem hlist_of {α : Type} {Q : Nat → α → Prop} : ∀ n : Nat, (∀ i, i < n → ∃ p, Q i p) → ∃ ls : List α, ls.length = n ∧ ∀ j p, ls[j]? = some p → Q j p
  | 0, _ => ⟨[], rfl, fun j p h => by simp at h⟩
  | n + 1, h => by
    obtain ⟨ls, h1, h2⟩ := hlist_of n (fun i hi => h i (by omega))
    obtain ⟨q, hq⟩ := h n (by omega)
    refine ⟨ls ++ [q], by simp [h1], fun j p hj => ?_⟩
    have hjl := (List.getElem?_eq_some_iff.1 hj).1
    rw [List.length_append, h1] at hjl
    rcases Nat.lt_or_ge j n with hl | hl
    · rw [List.getElem?_append_left (by omega)] at hj
      exact h2 j p hj
    · have : j = n := by simp at hjl; omega
      subst this
      rw [List.getElem?_append_right (by omega), h1, Nat.sub_self] at hj
      cases hj
      exact hq

theorem hstruct_cells {H : Type} {enc : TypeId × Value → H} {P : Program} {W : World} {base : Nat} {sp : Nat → Bool} {held : Bool} {e : TypeId} {fs : Array Field} {fuel : Nat} {a : Addr} {cs : List Value} {x : DataW H × List MemPlace} (he : P.underlying e = some (.struct fs)) (hone : oneCellFields P fs = true) (hC : P.cellsOf e = fs.size) (hc : W.cells? base a (P.cellsOf e) = some cs)
    (ht : DataW.trod enc P W base sp held fuel e cs = some x) :
    ∃ (ys : List (DataW H × List MemPlace)) (n : Nat), x.1 = .agg (ys.map (·.1)) ∧ ∀ (j : Nat) (f : Field), fs[j]? = some f → ∃ v y, W.cell? (a.add j) = some v ∧ ys[j]? = some y ∧ DataW.trod enc P W base sp held n f.type [v] = some y := by
  obtain ⟨ys, n, _, hx, hl, hyl, hf⟩ := DataW.trod_struct he ht
  obtain ⟨_, hcl, hat⟩ := World.cells?_some hc
  refine ⟨ys, n, by rw [hx], fun j f hj => ?_⟩
  have hjl : j < fs.size := (Array.getElem?_eq_some_iff.1 hj).1
  obtain ⟨o1, o2⟩ := hone_of hone j f hj
  have hjc : j < cs.length := by rw [hl, hC]; exact hjl
  have h1 := hf j f hj
  rw [o1, o2, List.drop_eq_getElem_cons hjc] at h1
  have h2 : ys[j]? = some (ys[j]'(by omega)) := List.getElem?_eq_getElem (by omega)
  refine ⟨cs[j], ys[j]'(by omega), ?_, h2, ?_⟩
  · rw [hat j (by omega)]
    exact List.getElem?_eq_getElem hjc
  · rw [← h2, ← h1]
    rfl

theorem hweights_parts {H : Type} {P : Program} {e : TypeId} {fs : Array Field} {ys : List (DataW H × List MemPlace)} (he : P.underlying e = some (.struct fs)) {j : Nat} {f : Field} {y : DataW H × List MemPlace} (hf : fs[j]? = some f) (hy : ys[j]? = some y) : ∀ n ∈ y.1.weights P f.type, n ∈ DataW.weights P e (.agg (ys.map (·.1)) : DataW H) := fun n hn => by
  simp only [DataW.weights, he]
  refine DataW.weights_mem_each (j := j) (t := f.type) (d := y.1) ?_ ?_ n hn
  · rw [List.getElem?_map, Array.getElem?_toList, hf]
    rfl
  · rw [List.getElem?_map, hy]
    rfl

theorem hweights_elem {H : Type} {P : Program} {t e : TypeId} (ht : P.underlying t = some (.slice e)) {D : Nat → DataW H} {len : Nat} {sps : List (DataW H)} {i : Nat} (hi : i < len) : ∀ n ∈ (D i).weights P e, n ∈ DataW.weights P t (.slice ((List.range len).map D) sps : DataW H) := fun n hn => by
  simp only [DataW.weights, ht]
  refine List.mem_cons_of_mem _ (List.mem_append.2 (.inl (weights_all_mem (List.mem_map.2 ⟨i, List.mem_range.2 hi, rfl⟩) n hn)))

structure FldTys (P : Program) (tT eS tS : TypeId) (s0 s1 : Field) : Prop where
  fT : P.underlying tT = some .string
  fS : P.underlying tS = some (.slice eS)
  fs : P.underlying eS = some (.struct #[s0, s1])
  fp0 : s0.offset = 0 ∧ s0.type = tT
  fp1 : s1.offset = 1 ∧ s1.type = tT
  fone : oneCellFields P #[s0, s1] = true
  fC : P.cellsOf eS = 2
  fby : P.bytesOf eS = 32
  fcT : P.cellsOf tT = 1

theorem open_flds {H : Type} {enc : TypeId × Value → H} {P : Program} {W : World} {base : Nat} {held : Bool} {tT eS tS : TypeId} {s0 s1 : Field} (T : FldTys P tT eS tS s0 s1)
    {v : Value} {d : DataW H} {ps : List MemPlace} {r : Reach} {b0 : Nat} (hval : Value.okWide P W r b0 tS v) (hd : DataW.Trod enc P W base (fun _ => true) held tS v d ps) (hz : ∀ n ∈ d.weights P tS, n ≤ reachBytes) :
    ∃ ls : List FldM, FldsAt W v ls ∧ FldOk ls := by
  have h2 : reachBytes = 140737488351232 := by decide
  obtain ⟨a0, len0, cap0, rfl⟩ := okWide_slice T.fS hval
  obtain ⟨fuel, hf⟩ := hd
  rcases open_slice T.fS hf with ⟨hcs, hx⟩ | ⟨a, len, cap, m, n, D, Pl, hcs, _, hle, hm, hmm, hx, hi⟩
  · simp [Value.cells] at hcs
    obtain ⟨rfl, rfl, rfl⟩ := hcs
    exact ⟨[], ⟨none, 0, rfl, .inl rfl⟩, by simp, fun f hf => by simp at hf⟩
  · simp [Value.cells] at hcs
    obtain ⟨rfl, rfl, rfl⟩ := hcs
    simp only [if_true] at hmm
    have hdx : d = .slice ((List.range len0).map D) ((List.range (m - len0)).map fun j => D (len0 + j)) := congrArg Prod.fst hx
    have hlen : len0 ≤ 281474976710656 := by
      have h1 := hz ((((List.range len0).map D).length + ((List.range (m - len0)).map fun j => D (len0 + j)).length) * P.bytesOf eS) (by
        rw [hdx]
        simp only [DataW.weights, T.fS]
        exact List.mem_cons_self ..)
      rw [T.fby] at h1
      simp only [List.length_map, List.length_range] at h1
      omega
    have hone : ∀ i, i < len0 → ∃ f : FldM, (W.cell? ((a.add (i * 2)).add 0) = some (.string f.hn) ∧ W.cell? ((a.add (i * 2)).add 1) = some (.string f.hv)) ∧ f.hn.size ≤ 281474976710656 ∧ f.hv.size ≤ 281474976710656 := fun i hil => by
      obtain ⟨cs', hcl, htr⟩ := hi i (by omega)
      obtain ⟨ys, n', hd, hat⟩ := hstruct_cells T.fs T.fone T.fC hcl htr
      rw [T.fC] at hat
      obtain ⟨v0, y0, c0, hy0, t0⟩ := hat 0 s0 rfl
      obtain ⟨v1, y1, c1, hy1, t1⟩ := hat 1 s1 rfl
      rw [T.fp0.2] at t0
      rw [T.fp1.2] at t1
      obtain ⟨k0, hk0, hs0, _⟩ := DataW.trod_string T.fT t0
      obtain ⟨k1, hk1, hs1, _⟩ := DataW.trod_string T.fT t1
      cases hk0
      cases hk1
      have hw : ∀ (j : Nat) (s : Field) (y : DataW H × List MemPlace), (#[s0, s1] : Array Field)[j]? = some s → ys[j]? = some y → ∀ n ∈ y.1.weights P s.type, n ≤ reachBytes := fun j s y hj hy n hn => hz n (by
        rw [hdx]
        refine hweights_elem T.fS hil n ?_
        have h3 := hweights_parts (ys := ys) T.fs (j := j) (f := s) hj hy n hn
        dsimp only at hd
        rw [hd]
        exact h3)
      have w0 := hw 0 s0 y0 rfl hy0
      have w1 := hw 1 s1 y1 rfl hy1
      rw [T.fp0.2] at w0
      rw [T.fp1.2] at w1
      have z0 := w0 k0.data.toList.length (by rw [hs0]; simp [DataW.weights])
      have z1 := w1 k1.data.toList.length (by rw [hs1]; simp [DataW.weights])
      rw [size_data] at z0 z1
      exact ⟨⟨k0, k1⟩, ⟨c0, c1⟩, by show k0.size ≤ _; omega, by show k1.size ≤ _; omega⟩
    obtain ⟨ls, h1, h3⟩ := hlist_of len0 hone
    refine ⟨ls, ⟨some a, cap0, by rw [h1], ?_⟩, by omega, fun f hf => ?_⟩
    · by_cases hne : ls = []
      · exact .inl hne
      · obtain ⟨p, hp⟩ : ∃ p, ls[0]? = some p := ⟨_, List.getElem?_eq_getElem (List.length_pos_iff.2 hne)⟩
        obtain ⟨⟨hc0, _⟩, _⟩ := h3 0 p hp
        rw [add_add, Nat.zero_mul, Nat.add_zero] at hc0
        obtain ⟨b, o, rfl, hp2⟩ := addr_plain hc0
        refine .inr ⟨b, o, rfl, fun j q hj => ?_⟩
        obtain ⟨⟨k0, k1⟩, _⟩ := h3 j q hj
        rw [add_add, hp2] at k0 k1
        exact ⟨k0, k1⟩
    · obtain ⟨j, hj⟩ := List.mem_iff_getElem?.1 hf
      exact (h3 j f hj).2

theorem open_fld {H : Type} {enc : TypeId × Value → H} {P : Program} {W : World} {base : Nat} {held : Bool} {tT eS tS : TypeId} {s0 s1 : Field} (T : FldTys P tT eS tS s0 s1)
    {v : Value} {d : DataW H} {ps : List MemPlace} {r : Reach} {b0 : Nat} (hval : Value.okWide P W r b0 eS v) (hd : DataW.Trod enc P W base (fun _ => true) held eS v d ps) (hz : ∀ n ∈ d.weights P eS, n ≤ reachBytes) :
    ∃ (x0 x1 : ByteArray), v = .agg #[.string x0, .string x1] ∧ x0.size ≤ 140737488351232 ∧ x1.size ≤ 140737488351232 := by
  obtain ⟨ca, rfl, hcs⟩ := okWide_struct T.fs hval
  obtain ⟨fuel, hf⟩ := hd
  obtain ⟨ys, n, _, hx, hcl, hyl, hat⟩ := DataW.trod_struct T.fs hf
  rw [T.fC] at hcl
  have hdx : d = .agg (ys.map (·.1)) := congrArg Prod.fst hx
  have hcl2 : (Value.agg ca).cells.toList = ca.toList := rfl
  rw [hcl2] at hcl hat
  obtain ⟨cl, hca⟩ : ∃ cl, cl = ca.toList := ⟨_, rfl⟩
  rw [← hca] at hcl hat
  match cl, hcl with
  | [c0, c1], _ =>
    have hwp : ∀ (j : Nat) (f : Field) (y : DataW H × List MemPlace), (#[s0, s1] : Array Field)[j]? = some f → ys[j]? = some y → ∀ n ∈ y.1.weights P f.type, n ≤ reachBytes := fun j f y hfj hyj n hn => hz n (by
      rw [hdx]
      exact hweights_parts (ys := ys) T.fs (j := j) (f := f) hfj hyj n hn)
    have gy : ∀ j, j < 2 → ∃ y, ys[j]? = some y := fun j hj => ⟨_, List.getElem?_eq_getElem (by rw [hyl]; exact hj)⟩
    have h2 : reachBytes = 140737488351232 := by decide
    obtain ⟨y0, hy0⟩ := gy 0 (by decide)
    have a0 := hat 0 s0 rfl
    rw [T.fp0.1, T.fp0.2, T.fcT, hy0] at a0
    obtain ⟨k0, hk0, hs0, _⟩ := DataW.trod_string T.fT a0
    have w0 := hwp 0 s0 y0 rfl hy0
    rw [T.fp0.2] at w0
    have z0 : k0.size ≤ 140737488351232 := by
      have := w0 k0.data.toList.length (by rw [hs0]; simp [DataW.weights])
      rw [size_data] at this
      omega
    simp at hk0
    obtain ⟨y1, hy1⟩ := gy 1 (by decide)
    have a1 := hat 1 s1 rfl
    rw [T.fp1.1, T.fp1.2, T.fcT, hy1] at a1
    obtain ⟨k1, hk1, hs1, _⟩ := DataW.trod_string T.fT a1
    have w1 := hwp 1 s1 y1 rfl hy1
    rw [T.fp1.2] at w1
    have z1 : k1.size ≤ 140737488351232 := by
      have := w1 k1.data.toList.length (by rw [hs1]; simp [DataW.weights])
      rw [size_data] at this
      omega
    simp at hk1
    refine ⟨k0, k1, ?_, z0, z1⟩
    have hca2 : ca = #[c0, c1] := by
      apply Array.toList_inj.1
      rw [← hca]
    rw [hca2, hk0, hk1]

theorem Try.fldTys : ∃ s0 s1, FldTys Try.prog 9 34 22 s0 s1 :=
  ⟨_, _, Try.underlying9, Try.underlying22, Try.underlying34, ⟨rfl, rfl⟩, ⟨rfl, rfl⟩, by kernel_rfl, by kernel_rfl, by kernel_rfl, by kernel_rfl⟩

/-- A list of texts that came in: nil, or with an address. -/
theorem open_texts_slv {H : Type} {enc : TypeId × Value → H} {P : Program} {W : World} {base b0 : Nat} {r : Reach} {held : Bool} {t e : TypeId} {v : Value} {d : DataW H} {ps : List MemPlace} (ht : P.underlying t = some (.slice e)) (he : P.underlying e = some .string) (hc : P.cellsOf e = 1)
    (hval : Value.okWide P W r b0 t v) (hd : DataW.Trod enc P W base (fun _ => true) held t v d ps) (hz : ∀ n ∈ d.weights P t, n ≤ reachBytes) :
    ∃ zs : List ByteArray, SliceAt W v (zs.map strV) ∧ zs.length * P.bytesOf e ≤ reachBytes ∧ (∀ z ∈ zs, z.size ≤ reachBytes) ∧ SlV v := by
  obtain ⟨zs, h1, h2, h3⟩ := open_texts ht he hc hval hd hz
  refine ⟨zs, h1, h2, h3, ?_⟩
  obtain ⟨a0, len, cap, rfl⟩ := okWide_slice ht hval
  obtain ⟨fuel, hf⟩ := hd
  rcases open_strings ht he hc hf with ⟨hcs, hx⟩ | ⟨a, len', cap', ss, hcs, _⟩
  · simp [Value.cells] at hcs
    obtain ⟨rfl, rfl, rfl⟩ := hcs
    exact .inl rfl
  · simp [Value.cells] at hcs
    obtain ⟨rfl, rfl, rfl⟩ := hcs
    exact .inr ⟨_, _, _, rfl⟩

end Go.Proofs.Ytfgpcajjnpmoeaa
