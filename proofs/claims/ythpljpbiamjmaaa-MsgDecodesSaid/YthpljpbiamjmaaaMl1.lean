/- Contracts: what the document fixes of messages. -/
import Derived.BigRegion
import Derived.Deep.RegionHeld3
import Derived.Test.YthpljpbiamjmaaaRows
import Derived.Deep.Slices
import Derived.Deep.Fields
import Derived.Deep.CondSized
import Derived.Stop.BytesEq
import Derived.BigQuiet
import Derived.Deep.QuietTactic
import Derived.IntWalk
import Derived.Test.YthpljpbiamjmaaaKit
import Derived.Test.YthpljpbiamjmaaaLaw
import Derived.Test.YthpljpbiamjmaaaRow
import Derived.Test.YthpljpbiamjmaaaSha
import Derived.Test.YthpljpbiamjmaaaRow2
import Derived.Test.YthpljpbiamjmaaaCod5
import Derived.Test.YthpljpbiamjmaaaCod7
import Derived.Test.YthpljpbiamjmaaaCod9
import Derived.Test.YthpljpbiamjmaaaFrm0
import Derived.Test.YthpljpbiamjmaaaFrm4
import Derived.Test.YthpljpbiamjmaaaKp0
import Derived.Test.YthpljpbiamjmaaaMg0
import Derived.Test.YthpljpbiamjmaaaMg5
import Derived.Test.YthpljpbiamjmaaaMg8
import Derived.Test.YthpljpbiamjmaaaMg10
import Derived.Test.YthpljpbiamjmaaaMr3
namespace Go.Proofs.Ythpljpbiamjmaaa
open Go.RowKit Go.Proofs
open Go.ChangeShapes Go.WideShapes Go.RowKit Go.Proofs Go.Deep

def awM : MsgM := ⟨2, 1, 2, 3, 0, 0, 0, true, [], zeroSn⟩

theorem awM_ok : okMB awM = true := by decide +kernel

def awB : List UInt8 := [2, 0, 0, 0, 0, 0, 0, 0, 1, 0, 0, 0, 0, 0, 0, 0, 2, 0, 0, 0, 0, 0, 0, 0, 3, 1]

theorem awM_enc : encW awM = awB := by decide +kernel

theorem awM_cod : codW awM = 0 := by unfold codW; rw [if_pos awM_ok]

theorem awM_small : smallM awM := ⟨fun n hn => by simp [awM] at hn; omega, fun e he => by simp [awM] at he, zeroSn_small⟩

theorem msgAt_nil (w : World) {m : MsgM} (h1 : m.es = []) (h2 : m.sn.ms = []) : MsgAt w (.slice none 0 0) (.slice none 0 0) m := by
  unfold MsgAt
  rw [h1, h2]
  exact ⟨ents_nil w, by simp, ints_nil w⟩

set_option maxRecDepth 100000 in
set_option maxHeartbeats 2000000 in
theorem mawake_any (w : World) : Calls Try.prog 9 #[] w fun e w' => e = .returned (.bool true) ∧ Below w.heap.size w w' := by
  have HEN := Lib.hid (encode_any (msgAt_nil w (m := awM) rfl rfl) awM_small)
  rw [awM_enc, awM_cod] at HEN
  have e1 : msgV awM (.slice none 0 0) (.slice none 0 0) = .agg #[.int .i64 2, .int .i64 1, .int .i64 2, .int .i64 3, .int .i64 0, .int .i64 0, .int .i64 0, .bool true, .slice none 0 0, .int .i64 0, .int .i64 0, .slice none 0 0, .string ⟨#[]⟩] := rfl
  rw [e1] at HEN
  clear e1
  go_enter Try.func9, Try.ntmps9
  go_wp2_with fail
  refine (HEN.out).mono ?_
  rintro e w1 ⟨v1, rfl, ho, hb⟩
  obtain ⟨g, c, rfl, _⟩ := own_some ho (by decide)
  have hl : awB.length = 26 := rfl
  rw [hl] at ho ⊢
  have c0 : w1.cell? ⟨g, 0, none⟩ = some (.int .u8 2) := World.ownsRow.cellAt ho 0 (by decide)
  have c8 : w1.cell? ⟨g, 8, none⟩ = some (.int .u8 1) := World.ownsRow.cellAt ho 8 (by decide)
  have c16 : w1.cell? ⟨g, 16, none⟩ = some (.int .u8 2) := World.ownsRow.cellAt ho 16 (by decide)
  have c24 : w1.cell? ⟨g, 24, none⟩ = some (.int .u8 3) := World.ownsRow.cellAt ho 24 (by decide)
  have c25 : w1.cell? ⟨g, 25, none⟩ = some (.int .u8 1) := World.ownsRow.cellAt ho 25 (by decide)
  have HB := Lib.hid hb
  clear ho hb hl HEN
  go_wp2_with fail
  go_ret
  exact ⟨rfl, HB.out⟩

/-- Numbers, without a bound but the reach's. -/
def IntsW (w : World) (v : Value) (l : List Int) : Prop :=
  l.length ≤ 140737488351232 ∧ smallI l ∧ ((v = .slice none 0 0 ∧ l = []) ∨ ∃ ad c, v = .slice (some ad) l.length c ∧ (l = [] ∨ ∃ b o, ad = ⟨b, o, none⟩ ∧ ∀ (j : Nat) (x : Int), l[j]? = some x → w.cell? ⟨b, o + j, none⟩ = some (kiV x)))

theorem intsW_at {w : World} {v : Value} {l : List Int} (h : IntsW w v l) (hl : l.length ≤ 1000000) : IntsAt w v l := ⟨hl, h.2.2⟩

def EntsWd (w : World) (v : Value) (es : List EntM) : Prop :=
  es.length ≤ 140737488351232 ∧ ∃ A C, v = .slice A es.length C ∧ (es = [] ∨ ∃ b o, A = some ⟨b, o, none⟩ ∧ ∀ (j : Nat) (e : EntM), es[j]? = some e → smallI [e.ix, e.tm, e.kd] ∧ e.d.size ≤ 140737488351232 ∧ ∃ u, w.rangeAt b (o + j * 5) (cellsE ⟨e, u⟩) ∧ IntsW w u e.ms)

theorem entsWd_at {w : World} {v : Value} {es : List EntM} (h : EntsWd w v es) (hl : ∀ e ∈ es, e.ms.length ≤ 1000000) : EntsAt w v es ∧ ∀ e ∈ es, smallE e := by
  obtain ⟨_, A, C, rfl, h⟩ := h
  refine ⟨⟨A, C, rfl, ?_⟩, fun e he => ?_⟩
  · rcases h with h | ⟨b, o, ha, h⟩
    · exact .inl h
    · refine .inr ⟨b, o, ha, fun j e hj => ?_⟩
      obtain ⟨_, _, u, h1, h2⟩ := h j e hj
      exact ⟨u, h1, intsW_at h2 (hl e (List.mem_of_getElem? hj))⟩
  · rcases h with h | ⟨b, o, ha, h⟩
    · rw [h] at he; simp at he
    · obtain ⟨j, hj⟩ := List.getElem?_of_mem he
      obtain ⟨h0, _, u, h1, h2⟩ := h j e hj
      exact ⟨h0, h2.2.1⟩
section
variable {H : Type} {enc : TypeId × Value → H} {P : Program} {W : World} {base : Nat} {held : Bool}

theorem open_ints_w {t e : TypeId} {fuel : Nat} {v : Value} {x : DataW H × List MemPlace} (ht : P.underlying t = some (.slice e)) (he : P.underlying e = some (.int .i64)) (hc : P.cellsOf e = 1) (hby : P.bytesOf e = 8)
    (hf : DataW.trod enc P W base (fun _ => true) held fuel t [v] = some x) (hz : ∀ n ∈ x.1.weights P t, n ≤ reachBytes) : ∃ l : List Int, IntsW W v l := by
  rcases open_ints ht he hc hf with ⟨hcs, hx⟩ | ⟨a, len', cap', ss, hcs, _, hl, hm, hss, hx, hcell, hws⟩
  · simp at hcs
    exact ⟨[], by simp, fun n hn => by simp at hn, .inl ⟨hcs, rfl⟩⟩
  · simp at hcs
    subst hcs
    simp only [if_true] at hss
    have hlen : (ss.take len').length = len' := by rw [List.length_take]; omega
    have hw2 : len' * 8 ≤ reachBytes := by
      have := hz _ (show (lits (H := H) .i64 (ss.take len')).length * P.bytesOf e + (lits (H := H) .i64 (ss.drop len')).length * P.bytesOf e ∈ _ by
        rw [hx]
        simp only [DataW.weights, ht]
        rw [← Nat.add_mul]
        exact List.mem_cons_self ..)
      simp only [lits, List.length_map, hby, hlen] at this
      omega
    have h2 : reachBytes = 140737488351232 := by decide
    refine ⟨ss.take len', by rw [hlen]; omega, fun n hn => (bounds_i64 (hws n (List.mem_of_mem_take hn))).2 |> fun h => by omega, .inr ⟨a, cap', by rw [hlen], ?_⟩⟩
    have hcc : ∀ (j : Nat) (x : Int), (ss.take len')[j]? = some x → W.cell? (a.add j) = some (kiV x) := fun j x hj => by
      rw [List.getElem?_take] at hj
      have hjl : j < len' := by
        rcases Nat.lt_or_ge j len' with h | h
        · exact h
        · rw [if_neg (by omega)] at hj; cases hj
      have his : j < ss.length := by omega
      rw [if_pos hjl, List.getElem?_eq_getElem his] at hj
      rw [hcell j his]
      cases hj
      simp [kiV, List.getD, List.getElem?_eq_getElem his]
    by_cases hne : ss.take len' = []
    · exact .inl hne
    · obtain ⟨x0, hx0⟩ : ∃ x0, (ss.take len')[0]? = some x0 := ⟨_, List.getElem?_eq_getElem (List.length_pos_iff.2 hne)⟩
      obtain ⟨b, o, rfl, hp⟩ := addr_plain (hcc 0 x0 hx0)
      exact .inr ⟨b, o, rfl, fun j x hj => by rw [← hp j]; exact hcc j x hj⟩
end

theorem mlist_of {α : Type} {Q : Nat → α → Prop} : ∀ n : Nat, (∀ i, i < n → ∃ p, Q i p) → ∃ ls : List α, ls.length = n ∧ ∀ j p, ls[j]? = some p → Q j p
  | 0, _ => ⟨[], rfl, fun j p h => by simp at h⟩
  | n + 1, h => by
    obtain ⟨ls, h1, h2⟩ := mlist_of n (fun i hi => h i (by omega))
    obtain ⟨q, hq⟩ := h n (by omega)
    refine ⟨ls ++ [q], by simp [h1], fun j p hj => ?_⟩
    have hjl := (List.getElem?_eq_some_iff.1 hj).1
    rw [List.length_append, h1] at hjl
    rcases Nat.lt_or_ge j n with hl | hl
    · rw [List.getElem?_append_left (by omega)] at hj
      exact h2 j p hj
    · have : j = n := by simp at hjl; omega
      subst this
      rw [List.getElem?_append_right (by omega), h1, Nat.sub_self] at hj
      cases hj
      exact hq
section
variable {H : Type} {enc : TypeId × Value → H} {P : Program} {W : World} {base : Nat} {sp : Nat → Bool} {held : Bool}

/-- A struct of one-cell fields in memory: each field's cell, and what is read there. -/
theorem mstruct_cells {e : TypeId} {fs : Array Field} {fuel : Nat} {a : Addr} {cs : List Value} {x : DataW H × List MemPlace} (he : P.underlying e = some (.struct fs)) (hone : oneCellFields P fs = true) (hC : P.cellsOf e = fs.size) (hc : W.cells? base a (P.cellsOf e) = some cs)
    (ht : DataW.trod enc P W base sp held fuel e cs = some x) :
    ∃ (ys : List (DataW H × List MemPlace)) (n : Nat), x.1 = .agg (ys.map (·.1)) ∧ ∀ (j : Nat) (f : Field), fs[j]? = some f → ∃ v y, W.cell? (a.add j) = some v ∧ ys[j]? = some y ∧ DataW.trod enc P W base sp held n f.type [v] = some y := by
  obtain ⟨ys, n, _, hx, hl, hyl, hf⟩ := DataW.trod_struct he ht
  obtain ⟨_, hcl, hat⟩ := World.cells?_some hc
  refine ⟨ys, n, by rw [hx], fun j f hj => ?_⟩
  have hjl : j < fs.size := (Array.getElem?_eq_some_iff.1 hj).1
  obtain ⟨o1, o2⟩ := hone_of hone j f hj
  have hjc : j < cs.length := by rw [hl, hC]; exact hjl
  have h1 := hf j f hj
  rw [o1, o2, List.drop_eq_getElem_cons hjc] at h1
  have h2 : ys[j]? = some (ys[j]'(by omega)) := List.getElem?_eq_getElem (by omega)
  refine ⟨cs[j], ys[j]'(by omega), ?_, h2, ?_⟩
  · rw [hat j (by omega)]
    exact List.getElem?_eq_getElem hjc
  · rw [← h2, ← h1]
    rfl

theorem mweights_parts {e : TypeId} {fs : Array Field} {ys : List (DataW H × List MemPlace)} (he : P.underlying e = some (.struct fs)) {j : Nat} {f : Field} {y : DataW H × List MemPlace} (hf : fs[j]? = some f) (hy : ys[j]? = some y) : ∀ n ∈ y.1.weights P f.type, n ∈ DataW.weights P e (.agg (ys.map (·.1)) : DataW H) := fun n hn => by
  simp only [DataW.weights, he]
  refine DataW.weights_mem_each (j := j) (t := f.type) (d := y.1) ?_ ?_ n hn
  · rw [List.getElem?_map, Array.getElem?_toList, hf]
    rfl
  · rw [List.getElem?_map, hy]
    rfl

theorem mweights_elem {t e : TypeId} (ht : P.underlying t = some (.slice e)) {D : Nat → DataW H} {len : Nat} {sps : List (DataW H)} {i : Nat} (hi : i < len) : ∀ n ∈ (D i).weights P e, n ∈ DataW.weights P t (.slice ((List.range len).map D) sps : DataW H) := fun n hn => by
  simp only [DataW.weights, ht]
  refine List.mem_cons_of_mem _ (List.mem_append.2 (.inl (weights_all_mem (List.mem_map.2 ⟨i, List.mem_range.2 hi, rfl⟩) n hn)))
end

/-- The types of an entry. -/
structure EnTys (P : Program) (tI tS tL eE tE : TypeId) (f0 f1 f2 f3 f4 : Field) : Prop where
  hI : P.underlying tI = some (.int .i64)
  hS : P.underlying tS = some .string
  hL : P.underlying tL = some (.slice tI)
  hE : P.underlying eE = some (.struct #[f0, f1, f2, f3, f4])
  hT : P.underlying tE = some (.slice eE)
  e0 : f0.type = tI
  e1 : f1.type = tI
  e2 : f2.type = tI
  e3 : f3.type = tS
  e4 : f4.type = tL
  hone : oneCellFields P #[f0, f1, f2, f3, f4] = true
  hC : P.cellsOf eE = 5
  hc : P.cellsOf tI = 1
  hby : P.bytesOf tI = 8
  hbe : P.bytesOf eE = 64
section
variable {H : Type} {enc : TypeId × Value → H} {P : Program} {W : World} {base : Nat} {held : Bool}

theorem small_i64 {n : Int} (h : (Lit.int .i64 n).wf = true) : n < 9223372036854775808 := by have := (bounds_i64 h).2; omega

theorem open_ents {tI tS tL eE tE : TypeId} {f0 f1 f2 f3 f4 : Field} (T : EnTys P tI tS tL eE tE f0 f1 f2 f3 f4) {fuel : Nat} {v : Value} {x : DataW H × List MemPlace} (hf : DataW.trod enc P W base (fun _ => true) held fuel tE [v] = some x) (hz : ∀ n ∈ x.1.weights P tE, n ≤ reachBytes) :
    ∃ es : List EntM, EntsWd W v es := by
  rcases open_slice T.hT hf with ⟨hcs, hx⟩ | ⟨a, len, cap, m, n, D, Pl, hcs, _, hle, hm, hmm, hx, hi⟩
  · simp at hcs
    subst hcs
    exact ⟨[], by simp, none, 0, rfl, .inl rfl⟩
  · simp at hcs
    subst hcs
    simp only [if_true] at hmm
    have h2 : reachBytes = 140737488351232 := by decide
    have hlen : len ≤ 140737488351232 := by
      have h1 := hz ((((List.range len).map D).length + ((List.range (m - len)).map fun j => D (len + j)).length) * P.bytesOf eE) (by
        rw [hx]
        simp only [DataW.weights, T.hT]
        exact List.mem_cons_self ..)
      rw [T.hbe] at h1
      simp only [List.length_map, List.length_range] at h1
      omega
    have hone : ∀ i, i < len → ∃ e : EntM, (smallI [e.ix, e.tm, e.kd] ∧ e.d.size ≤ 140737488351232) ∧ ∃ u, (W.cell? ((a.add (i * 5)).add 0) = some (.int .i64 e.ix) ∧ W.cell? ((a.add (i * 5)).add 1) = some (.int .i64 e.tm) ∧ W.cell? ((a.add (i * 5)).add 2) = some (.int .i64 e.kd) ∧ W.cell? ((a.add (i * 5)).add 3) = some (.string e.d) ∧ W.cell? ((a.add (i * 5)).add 4) = some u) ∧ IntsW W u e.ms := fun i hil => by
      obtain ⟨cs', hcl, htr⟩ := hi i (by omega)
      obtain ⟨ys, n', hd, hat⟩ := mstruct_cells T.hE T.hone T.hC hcl htr
      rw [T.hC] at hat
      obtain ⟨v0, y0, c0, _, t0⟩ := hat 0 f0 rfl
      obtain ⟨v1, y1, c1, _, t1⟩ := hat 1 f1 rfl
      obtain ⟨v2, y2, c2, _, t2⟩ := hat 2 f2 rfl
      obtain ⟨v3, y3, c3, hy3, t3⟩ := hat 3 f3 rfl
      obtain ⟨v4, y4, c4, hy4, t4⟩ := hat 4 f4 rfl
      rw [T.e0] at t0
      rw [T.e1] at t1
      rw [T.e2] at t2
      rw [T.e3] at t3
      rw [T.e4] at t4
      obtain ⟨k0, hf0, _, w0⟩ := DataW.trod_int T.hI t0
      obtain ⟨k1, hf1, _, w1⟩ := DataW.trod_int T.hI t1
      obtain ⟨k2, hf2, _, w2⟩ := DataW.trod_int T.hI t2
      obtain ⟨s, hf3, hx3, _⟩ := DataW.trod_string T.hS t3
      cases hf0
      cases hf1
      cases hf2
      cases hf3
      have hwp : ∀ (j : Nat) (f : Field) (y : DataW H × List MemPlace), (#[f0, f1, f2, f3, f4] : Array Field)[j]? = some f → ys[j]? = some y → ∀ n ∈ y.1.weights P f.type, n ≤ reachBytes := fun j f y hfj hyj n hn => hz n (by
        rw [hx]
        refine mweights_elem T.hT hil n ?_
        have h3 := mweights_parts (ys := ys) T.hE (j := j) (f := f) hfj hyj n hn
        dsimp only at hd
        rw [hd]
        exact h3)
      have hw3 := hwp 3 f3 y3 rfl hy3
      have hw4 := hwp 4 f4 y4 rfl hy4
      rw [T.e4] at hw4
      rw [T.e3] at hw3
      obtain ⟨l, hl⟩ := open_ints_w T.hL T.hI T.hc T.hby t4 hw4
      have hsd : s.size ≤ 140737488351232 := by
        have := hw3 s.data.toList.length (by rw [hx3]; simp [DataW.weights])
        rw [size_data] at this
        omega
      exact ⟨⟨k0, k1, k2, s, l⟩, ⟨small3 (small_i64 w0) (small_i64 w1) (small_i64 w2), hsd⟩, v4, ⟨c0, c1, c2, c3, c4⟩, hl⟩
    obtain ⟨es, h1, h3⟩ := mlist_of len hone
    refine ⟨es, by omega, some a, cap, by rw [h1], ?_⟩
    by_cases hne : es = []
    · exact .inl hne
    · obtain ⟨p, hp⟩ : ∃ p, es[0]? = some p := ⟨_, List.getElem?_eq_getElem (List.length_pos_iff.2 hne)⟩
      obtain ⟨_, u0, ⟨hc0, _⟩, _⟩ := h3 0 p hp
      rw [add_add, Nat.zero_mul, Nat.add_zero] at hc0
      obtain ⟨b, o, rfl, hp2⟩ := addr_plain hc0
      refine .inr ⟨b, o, rfl, fun j q hj => ?_⟩
      obtain ⟨⟨g1, g2⟩, u, ⟨k0, k1, k2, k3, k4⟩, k5⟩ := h3 j q hj
      rw [add_add, hp2] at k0 k1 k2 k3 k4
      refine ⟨g1, g2, u, fun i y hi => ?_, k5⟩
      match i, hi with
      | 0, hi => simp [cellsE] at hi; subst hi; exact k0
      | 1, hi => simp [cellsE] at hi; subst hi; exact k1
      | 2, hi => simp [cellsE] at hi; subst hi; exact k2
      | 3, hi => simp [cellsE] at hi; subst hi; exact k3
      | 4, hi => simp [cellsE] at hi; subst hi; exact k4
      | i + 5, hi => simp [cellsE] at hi
end

structure MsTys (P : Program) (tI tB tS tL tE tN tM : TypeId) (f0 f1 f2 f3 f4 f5 f6 f7 f8 f9 : Field) (g0 g1 g2 g3 : Field) : Prop where
  hI : P.underlying tI = some (.int .i64)
  hB : P.underlying tB = some .bool
  hS : P.underlying tS = some .string
  hL : P.underlying tL = some (.slice tI)
  hN : P.underlying tN = some (.struct #[g0, g1, g2, g3])
  hM : P.underlying tM = some (.struct #[f0, f1, f2, f3, f4, f5, f6, f7, f8, f9])
  p0 : f0.offset = 0 ∧ f0.type = tI
  p1 : f1.offset = 1 ∧ f1.type = tI
  p2 : f2.offset = 2 ∧ f2.type = tI
  p3 : f3.offset = 3 ∧ f3.type = tI
  p4 : f4.offset = 4 ∧ f4.type = tI
  p5 : f5.offset = 5 ∧ f5.type = tI
  p6 : f6.offset = 6 ∧ f6.type = tI
  p7 : f7.offset = 7 ∧ f7.type = tB
  p8 : f8.offset = 8 ∧ f8.type = tE
  p9 : f9.offset = 9 ∧ f9.type = tN
  o0 : g0.offset = 0 ∧ g0.type = tI
  o1 : g1.offset = 1 ∧ g1.type = tI
  o2 : g2.offset = 2 ∧ g2.type = tL
  o3 : g3.offset = 3 ∧ g3.type = tS
  cI : P.cellsOf tI = 1
  cB : P.cellsOf tB = 1
  cS : P.cellsOf tS = 1
  cL : P.cellsOf tL = 1
  cE : P.cellsOf tE = 1
  cN : P.cellsOf tN = 4
  cM : P.cellsOf tM = 13
  hby : P.bytesOf tI = 8

def MsgW (W : World) (ev mv : Value) (m : MsgM) : Prop := EntsWd W ev m.es ∧ IntsW W mv m.sn.ms ∧ smallI [m.kd, m.fr, m.to, m.tm, m.ix, m.lt, m.cm] ∧ smallI [m.sn.ix, m.sn.tm] ∧ m.sn.d.size ≤ 140737488351232

/-- What is looked at may be handed on. -/
theorem msgW_at {W : World} {ev mv : Value} {m : MsgM} (h : MsgW W ev mv m) (h1 : m.sn.ms.length ≤ 2500) (h2 : m.es.length ≤ 1000) (h3 : ∀ e ∈ m.es, e.ms.length ≤ 2500) : MsgAt W ev mv m ∧ smallM m := by
  obtain ⟨he, hm, hs, hs2, _⟩ := h
  obtain ⟨g1, g2⟩ := entsWd_at he (fun e hx => Nat.le_trans (h3 e hx) (by decide))
  exact ⟨⟨g1, by omega, intsW_at hm (by omega)⟩, hs, g2, hs2, hm.2.1⟩

theorem small7 {a b c d e f g : Int} (ha : a < 9223372036854775808) (hb : b < 9223372036854775808) (hc : c < 9223372036854775808) (hd : d < 9223372036854775808) (he : e < 9223372036854775808) (hf : f < 9223372036854775808) (hg : g < 9223372036854775808) : smallI [a, b, c, d, e, f, g] := fun n hn => by
  simp only [List.mem_cons, List.not_mem_nil, or_false] at hn
  rcases hn with rfl | rfl | rfl | rfl | rfl | rfl | rfl <;> assumption
section
variable {H : Type} {enc : TypeId × Value → H} {P : Program} {W : World} {base : Nat} {held : Bool}

theorem open_msg {tI tB tS tL tE tN tM eE : TypeId} {f0 f1 f2 f3 f4 f5 f6 f7 f8 f9 : Field} {g0 g1 g2 g3 : Field} (T : MsTys P tI tB tS tL tE tN tM f0 f1 f2 f3 f4 f5 f6 f7 f8 f9 g0 g1 g2 g3) {h0 h1 h2 h3 h4 : Field} (TE : EnTys P tI tS tL eE tE h0 h1 h2 h3 h4)
    {v : Value} {d : DataW H} {ps : List MemPlace} {r : Reach} {b0 : Nat} (hval : Value.okWide P W r b0 tM v) (hd : DataW.Trod enc P W base (fun _ => true) held tM v d ps) (hz : ∀ n ∈ d.weights P tM, n ≤ reachBytes) :
    ∃ (m : MsgM) (ev mv : Value), v = msgV m ev mv ∧ MsgW W ev mv m := by
  obtain ⟨ca, rfl, hcs⟩ := okWide_struct T.hM hval
  obtain ⟨fuel, hf⟩ := hd
  obtain ⟨ys, n, _, hx, hcl, hyl, hat⟩ := DataW.trod_struct T.hM hf
  rw [T.cM] at hcl
  have hdx : d = .agg (ys.map (·.1)) := congrArg Prod.fst hx
  have hcl2 : (Value.agg ca).cells.toList = ca.toList := rfl
  rw [hcl2] at hcl hat
  obtain ⟨cl, hca⟩ : ∃ cl, cl = ca.toList := ⟨_, rfl⟩
  rw [← hca] at hcl hat
  match cl, hcl with
  | [c0, c1, c2, c3, c4, c5, c6, c7, c8, c9, c10, c11, c12], _ =>
    have hwp : ∀ (j : Nat) (f : Field) (y : DataW H × List MemPlace), (#[f0, f1, f2, f3, f4, f5, f6, f7, f8, f9] : Array Field)[j]? = some f → ys[j]? = some y → ∀ n ∈ y.1.weights P f.type, n ≤ reachBytes := fun j f y hfj hyj n hn => hz n (by
      rw [hdx]
      exact mweights_parts (ys := ys) T.hM (j := j) (f := f) hfj hyj n hn)
    have gy : ∀ j, j < 10 → ∃ y, ys[j]? = some y := fun j hj => ⟨_, List.getElem?_eq_getElem (by rw [hyl]; exact hj)⟩
    obtain ⟨y0, hy0⟩ := gy 0 (by decide)
    have a0 := hat 0 f0 rfl
    rw [T.p0.1, T.p0.2, T.cI, hy0] at a0
    obtain ⟨y1, hy1⟩ := gy 1 (by decide)
    have a1 := hat 1 f1 rfl
    rw [T.p1.1, T.p1.2, T.cI, hy1] at a1
    obtain ⟨y2, hy2⟩ := gy 2 (by decide)
    have a2 := hat 2 f2 rfl
    rw [T.p2.1, T.p2.2, T.cI, hy2] at a2
    obtain ⟨y3, hy3⟩ := gy 3 (by decide)
    have a3 := hat 3 f3 rfl
    rw [T.p3.1, T.p3.2, T.cI, hy3] at a3
    obtain ⟨y4, hy4⟩ := gy 4 (by decide)
    have a4 := hat 4 f4 rfl
    rw [T.p4.1, T.p4.2, T.cI, hy4] at a4
    obtain ⟨y5, hy5⟩ := gy 5 (by decide)
    have a5 := hat 5 f5 rfl
    rw [T.p5.1, T.p5.2, T.cI, hy5] at a5
    obtain ⟨y6, hy6⟩ := gy 6 (by decide)
    have a6 := hat 6 f6 rfl
    rw [T.p6.1, T.p6.2, T.cI, hy6] at a6
    obtain ⟨y7, hy7⟩ := gy 7 (by decide)
    have a7 := hat 7 f7 rfl
    rw [T.p7.1, T.p7.2, T.cB, hy7] at a7
    obtain ⟨y8, hy8⟩ := gy 8 (by decide)
    have a8 := hat 8 f8 rfl
    rw [T.p8.1, T.p8.2, T.cE, hy8] at a8
    obtain ⟨y9, hy9⟩ := gy 9 (by decide)
    have a9 := hat 9 f9 rfl
    rw [T.p9.1, T.p9.2, T.cN, hy9] at a9
    obtain ⟨k0, hk0, _, w0⟩ := DataW.trod_int T.hI a0
    simp at hk0
    obtain ⟨k1, hk1, _, w1⟩ := DataW.trod_int T.hI a1
    simp at hk1
    obtain ⟨k2, hk2, _, w2⟩ := DataW.trod_int T.hI a2
    simp at hk2
    obtain ⟨k3, hk3, _, w3⟩ := DataW.trod_int T.hI a3
    simp at hk3
    obtain ⟨k4, hk4, _, w4⟩ := DataW.trod_int T.hI a4
    simp at hk4
    obtain ⟨k5, hk5, _, w5⟩ := DataW.trod_int T.hI a5
    simp at hk5
    obtain ⟨k6, hk6, _, w6⟩ := DataW.trod_int T.hI a6
    simp at hk6
    obtain ⟨b7, hk7, _⟩ := DataW.trod_bool T.hB a7
    simp at hk7
    have w8 := hwp 8 f8 y8 rfl hy8
    rw [T.p8.2] at w8
    obtain ⟨es, hes⟩ := open_ents (v := c8) TE (by simpa using a8) w8
    have w9 := hwp 9 f9 y9 rfl hy9
    rw [T.p9.2] at w9
    obtain ⟨zs, n2, _, hx2, hcl3, hzl, hat2⟩ := DataW.trod_struct T.hN a9
    have hd9 : y9.1 = .agg (zs.map (·.1)) := congrArg Prod.fst hx2
    have hwq : ∀ (j : Nat) (f : Field) (y : DataW H × List MemPlace), (#[g0, g1, g2, g3] : Array Field)[j]? = some f → zs[j]? = some y → ∀ n ∈ y.1.weights P f.type, n ≤ reachBytes := fun j f y hfj hyj n hn => w9 n (by
      rw [hd9]
      exact mweights_parts (ys := zs) T.hN (j := j) (f := f) hfj hyj n hn)
    have gz : ∀ j, j < 4 → ∃ y, zs[j]? = some y := fun j hj => ⟨_, List.getElem?_eq_getElem (by rw [hzl]; exact hj)⟩
    obtain ⟨z0, hz0⟩ := gz 0 (by decide)
    have d0 := hat2 0 g0 rfl
    rw [T.o0.1, T.o0.2, T.cI, hz0] at d0
    obtain ⟨z1, hz1⟩ := gz 1 (by decide)
    have d1 := hat2 1 g1 rfl
    rw [T.o1.1, T.o1.2, T.cI, hz1] at d1
    obtain ⟨z2, hz2⟩ := gz 2 (by decide)
    have d2 := hat2 2 g2 rfl
    rw [T.o2.1, T.o2.2, T.cL, hz2] at d2
    obtain ⟨z3, hz3⟩ := gz 3 (by decide)
    have d3 := hat2 3 g3 rfl
    rw [T.o3.1, T.o3.2, T.cS, hz3] at d3
    obtain ⟨q0, hq0, _, u0⟩ := DataW.trod_int T.hI d0
    obtain ⟨q1, hq1, _, u1⟩ := DataW.trod_int T.hI d1
    obtain ⟨s, hq3, hs3, _⟩ := DataW.trod_string T.hS d3
    simp at hq0 hq1 hq3
    have u2 := hwq 2 g2 z2 rfl hz2
    rw [T.o2.2] at u2
    obtain ⟨l, hl⟩ := open_ints_w (v := c11) T.hL T.hI T.cI T.hby (by simpa using d2) u2
    have u3 := hwq 3 g3 z3 rfl hz3
    rw [T.o3.2] at u3
    have h2 : reachBytes = 140737488351232 := by decide
    have hsd : s.size ≤ 140737488351232 := by
      have := u3 s.data.toList.length (by rw [hs3]; simp [DataW.weights])
      rw [size_data] at this
      omega
    refine ⟨⟨k0, k1, k2, k3, k4, k5, k6, b7, es, ⟨q0, q1, l, s⟩⟩, c8, c11, ?_, hes, hl, small7 (small_i64 w0) (small_i64 w1) (small_i64 w2) (small_i64 w3) (small_i64 w4) (small_i64 w5) (small_i64 w6), small2 (small_i64 u0) (small_i64 u1), hsd⟩
    have hca2 : ca = #[c0, c1, c2, c3, c4, c5, c6, c7, c8, c9, c10, c11, c12] := by
      apply Array.toList_inj.1
      rw [← hca]
    rw [hca2, hk0, hk1, hk2, hk3, hk4, hk5, hk6, hk7, hq0, hq1, hq3]
    rfl
end

theorem Try.enTys : ∃ f0 f1 f2 f3 f4, EnTys Try.prog 3 9 23 46 22 f0 f1 f2 f3 f4 :=
  ⟨_, _, _, _, _, Try.underlying3, Try.underlying9, Try.underlying23, Try.underlying46, Try.underlying22, rfl, rfl, rfl, rfl, rfl, by kernel_rfl, by kernel_rfl, by kernel_rfl, by kernel_rfl, by kernel_rfl⟩

theorem Try.msTys : ∃ f0 f1 f2 f3 f4 f5 f6 f7 f8 f9 g0 g1 g2 g3, MsTys Try.prog 3 4 9 23 22 25 27 f0 f1 f2 f3 f4 f5 f6 f7 f8 f9 g0 g1 g2 g3 :=
  ⟨_, _, _, _, _, _, _, _, _, _, _, _, _, _, Try.underlying3, Try.underlying4, Try.underlying9, Try.underlying23, Try.underlying25, Try.underlying27, ⟨rfl, rfl⟩, ⟨rfl, rfl⟩, ⟨rfl, rfl⟩, ⟨rfl, rfl⟩, ⟨rfl, rfl⟩, ⟨rfl, rfl⟩, ⟨rfl, rfl⟩, ⟨rfl, rfl⟩, ⟨rfl, rfl⟩, ⟨rfl, rfl⟩, ⟨rfl, rfl⟩, ⟨rfl, rfl⟩, ⟨rfl, rfl⟩, ⟨rfl, rfl⟩, by kernel_rfl, by kernel_rfl, by kernel_rfl, by kernel_rfl, by kernel_rfl, by kernel_rfl, by kernel_rfl, by kernel_rfl⟩

def InR (e : Ending) (m : MsgM) : Prop := ∃ b, e = .returned (.bool b) ∧ (b = true → m.sn.ms.length ≤ 2500 ∧ m.es.length ≤ 1000 ∧ ∀ e ∈ m.es, e.ms.length ≤ 2500)

theorem entsWd_cell {w : World} {A : Option Addr} {n C : Nat} {es : List EntM} (h : EntsWd w (.slice A n C) es) {i : Nat} {x : EntM} (hx : es[i]? = some x) : ∃ b o u, A = some ⟨b, o, none⟩ ∧ x.d.size ≤ 140737488351232 ∧ w.rangeAt b (o + i * 5) (cellsE ⟨x, u⟩) ∧ IntsW w u x.ms := by
  obtain ⟨_, A2, C2, hv, h⟩ := h
  injection hv with e1 _ _
  rcases h with h | ⟨b, o, ha, h⟩
  · rw [h] at hx; simp at hx
  · obtain ⟨_, h0, u, h1, h2⟩ := h i x hx
    exact ⟨b, o, u, by rw [e1, ha], h0, h1, h2⟩

theorem intsWd_len {w : World} {v : Value} {l : List Int} (h : IntsW w v l) : ∃ a c, v = .slice a l.length c := by
  rcases h.2.2 with ⟨hv, hl⟩ | ⟨ad, c, hv, _⟩
  · exact ⟨none, 0, by rw [hv, hl]; rfl⟩
  · exact ⟨_, _, hv⟩

set_option maxRecDepth 100000 in
set_option maxHeartbeats 4000000 in
theorem in_any {w : World} {m : MsgM} {ev mv : Value} (h : MsgW w ev mv m) :
    Calls Try.prog 8 #[msgV m ev mv] w fun e w' => InR e m ∧ Below w.heap.size w w' := by
  obtain ⟨he, hm, _, _, hd⟩ := h
  obtain ⟨hel, a, c, rfl, _⟩ := id he
  obtain ⟨a2, c2, rfl⟩ := intsWd_len hm
  have hml := hm.1
  unfold msgV
  have HR : Hid (∀ b, (b = true → m.sn.ms.length ≤ 2500 ∧ m.es.length ≤ 1000 ∧ ∀ e ∈ m.es, e.ms.length ≤ 2500) → InR (.returned (.bool b)) m) := Lib.hid (fun b hb => ⟨b, rfl, hb⟩)
  obtain ⟨kd, fr, tq, tm, ix, lt, cm, yes, es, ⟨si, st, ms, sd⟩⟩ := m
  dsimp only at he hd hel hml HR ⊢
  obtain ⟨n, hn⟩ : ∃ n, n = es.length := ⟨_, rfl⟩
  obtain ⟨M, hM⟩ : ∃ M, M = ms.length := ⟨_, rfl⟩
  obtain ⟨D, hD⟩ : ∃ D, D = sd.size := ⟨_, rfl⟩
  rw [← hn] at he hel ⊢
  rw [← hM] at hml ⊢
  rw [← hD] at hd
  have HE := Lib.hid he
  have HN := Lib.hid hn
  have HM := Lib.hid hM
  have HD := Lib.hid hD
  have q1 : IntKind.i64.wrap (8 * (M : Int)) = 8 * (M : Int) := IntWalk.i64_in _ (by omega)
  have q2 : IntKind.i64.wrap ((sd.size : Int) + 8 * (M : Int)) = (sd.size : Int) + 8 * (M : Int) := IntWalk.i64_in _ (by omega)
  have q3 : IntKind.i64.wrap (20 * (n : Int)) = 20 * (n : Int) := IntWalk.i64_in _ (by omega)
  have q4 : IntKind.i64.wrap ((sd.size : Int) + 8 * (M : Int) + 20 * (n : Int)) = (sd.size : Int) + 8 * (M : Int) + 20 * (n : Int) := IntWalk.i64_in _ (by omega)
  have HB := Lib.hid (below_more (Below.refl _ w) (.cells #[.int .i64 kd, .int .i64 fr, .int .i64 tq, .int .i64 tm, .int .i64 ix, .int .i64 lt, .int .i64 cm, .bool yes, .slice a n c, .int .i64 si, .int .i64 st, .slice a2 M c2, .string sd] 27))
  have HBD : Hid (D ≤ 140737488351232 ∧ M ≤ 140737488351232 ∧ n ≤ 140737488351232) := Lib.hid ⟨hd, hml, hel⟩
  clear he hm hn hM hD hd hml hel
  go_enter Try.func8, Try.ntmps8
  go_wp2_with fail
  obtain ⟨w0, hw0⟩ : ∃ w0, w0 = w.alloc (.cells #[.int .i64 kd, .int .i64 fr, .int .i64 tq, .int .i64 tm, .int .i64 ix, .int .i64 lt, .int .i64 cm, .bool yes, .slice a n c, .int .i64 si, .int .i64 st, .slice a2 M c2, .string sd] 27) := ⟨_, rfl⟩
  have hr0 : Rw w0 0 w.heap.size 27 [.int .i64 kd, .int .i64 fr, .int .i64 tq, .int .i64 tm, .int .i64 ix, .int .i64 lt, .int .i64 cm, .bool yes, .slice a n c, .int .i64 si, .int .i64 st, .slice a2 M c2, .string sd] := by rw [hw0]; exact Rw.alloc w _ _ (Nat.zero_le _)
  rw [← hw0] at HB ⊢
  have HR0 := Lib.hid hr0
  obtain ⟨N0, hN0⟩ : ∃ N0 : Nat, (sd.size : Int) + 8 * (M : Int) + 20 * (n : Int) = (N0 : Int) := ⟨sd.size + 8 * M + 20 * n, by omega⟩
  rw [hN0]
  have HI0 : Hid ((∀ e ∈ es.take 0, 8 * e.ms.length ≤ N0) ∧ 8 * M ≤ N0 ∧ 20 * n ≤ N0 ∧ N0 ≤ 9007199254740992) := Lib.hid ⟨fun e he => by simp at he, by omega, by omega, by have := HBD.out; have := HD.out; omega⟩
  clear hw0 hr0 hN0 q1 q2 q3 q4
  go_loopw [3, 4] (fun nv iv wr => ∃ (i N : Nat), i ≤ n ∧ iv = .int .i64 i ∧ nv = .int .i64 N ∧ Hid ((∀ e ∈ es.take i, 8 * e.ms.length ≤ N) ∧ 8 * M ≤ N ∧ 20 * n ≤ N ∧ N ≤ 9007199254740992) ∧ Hid (Drew w0 wr)) (fun _ iv _ => n - (intOf iv).toNat)
  case atStart => exact ⟨0, N0, Nat.zero_le _, rfl, rfl, HI0, Lib.hid ⟨0, rfl⟩⟩
  case round =>
    clear HI0
    obtain ⟨i, N, hi', rfl, rfl, HV, HDR⟩ := hrel
    obtain ⟨w1, hw1⟩ : ∃ w1 : World, w1 = wr := ⟨_, rfl⟩
    subst hw1
    have hb8 : w1.cell? ⟨w.heap.size, 8, none⟩ = some (.slice a n c) := Rw.cell (Rw.drew HR0.out HDR.out) rfl
    by_cases hlt : i < n
    · by_cases hsm : N ≤ 20000
      · obtain ⟨x, hx⟩ : ∃ x, es[i]? = some x := ⟨_, List.getElem?_eq_getElem (by rw [← HN.out]; exact hlt)⟩
        obtain ⟨b, o, u, rfl, hds, hr, hu⟩ := entsWd_cell HE.out hx
        obtain ⟨ua, uc, rfl⟩ := intsWd_len hu
        have hul := hu.1
        have hTK := take_succ_of hx
        obtain ⟨xi, xt, xk, xd, xm⟩ := x
        dsimp only at hds hr hu hul
        obtain ⟨X, hX⟩ : ∃ X, X = xm.length := ⟨_, rfl⟩
        have hbw : Below w.heap.size w w1 := below_draws HB.out HDR.out
        have hr1 := rangeAt_below hr hbw
        have d3 : w1.cell? ⟨b, o + i * 5 + 3, none⟩ = some (.string xd) := hr1 3 _ rfl
        have d4 : w1.cell? ⟨b, o + i * 5 + 4, none⟩ = some (.slice ua X uc) := by rw [hX]; exact hr1 4 _ rfl
        rw [← hX] at hul
        have q1 : IntKind.i64.wrap ((N : Int) + (xd.size : Int)) = (N : Int) + (xd.size : Int) := IntWalk.i64_in _ (by omega)
        have q2 : IntKind.i64.wrap (8 * (X : Int)) = 8 * (X : Int) := IntWalk.i64_in _ (by omega)
        have q3 : IntKind.i64.wrap ((N : Int) + (xd.size : Int) + 8 * (X : Int)) = (N : Int) + (xd.size : Int) + 8 * (X : Int) := IntWalk.i64_in _ (by omega)
        have hy : (i : Int) < (n : Int) := by omega
        have hi1 : (i : Int) < 9007199254740992 := by have := HBD.out; omega
        have hs2 : (N : Int) ≤ 20000 := by omega
        have HIV : Hid ((∀ e ∈ es.take (i + 1), 8 * e.ms.length ≤ N + xd.size + 8 * X) ∧ 8 * M ≤ N + xd.size + 8 * X ∧ 20 * n ≤ N + xd.size + 8 * X ∧ N + xd.size + 8 * X ≤ 9007199254740992) := Lib.hid ⟨fun e he => by
          rw [hTK] at he
          rcases List.mem_append.1 he with he | he
          · have := HV.out.1 e he; omega
          · simp at he; subst he; dsimp only; omega, by have := HV.out.2.1; omega, by have := HV.out.2.2.1; omega, by omega⟩
        have HI := Lib.hid hlt
        clear hx hr hu hul hds hTK hX hbw hr1 hsm hlt hi'
        go_wp2_with fail
        go_quiet (fail)
        go_wp2_with fail
        go_roundw
        case rel => exact ⟨i + 1, N + xd.size + 8 * X, HI.out, by go_num, by go_num, HIV, Lib.hid (Drew.more HDR.out _)⟩
        case measure => have := HI.out; simp [intOf]; omega
      · have hy : (i : Int) < (n : Int) := by omega
        have hs2 : ¬ (N : Int) ≤ 20000 := by omega
        have q0 : decide ((N : Int) ≤ 20000) = false := decide_eq_false hs2
        have HF := Lib.hid (HR.out false (fun h => absurd h (by decide)))
        clear hlt hi' hsm
        go_wp2_with fail
        go_ret
        exact ⟨HF.out, below_draws HB.out HDR.out⟩
    · have hyk : ¬ (i : Int) < (n : Int) := by omega
      have hin : i = n := by omega
      have HF := Lib.hid (HR.out (decide ((N : Int) ≤ 20000)) (fun h => by
        have h1 := of_decide_eq_true h
        have h2 := HV.out
        rw [hin, List.take_of_length_le (by rw [← HN.out]; omega)] at h2
        exact ⟨by rw [← HM.out]; omega, by rw [← HN.out]; omega, fun e he => by have := h2.1 e he; omega⟩))
      clear hlt hi' hin
      go_wp2_with fail
      go_ret
      exact ⟨HF.out, below_draws HB.out HDR.out⟩

theorem intsWd_below {w w' : World} {v : Value} {l : List Int} (h : IntsW w v l) (hb : Below w.heap.size w w') : IntsW w' v l := by
  obtain ⟨h1, h2, h3⟩ := h
  refine ⟨h1, h2, ?_⟩
  rcases h3 with k | ⟨ad, c, hv, k⟩
  · exact .inl k
  · refine .inr ⟨ad, c, hv, ?_⟩
    rcases k with k | ⟨b, o, ha, k⟩
    · exact .inl k
    · exact .inr ⟨b, o, ha, fun j x hj => by rw [hb.cell (block_of_cell (k j x hj))]; exact k j x hj⟩

theorem entsWd_below {w w' : World} {v : Value} {es : List EntM} (h : EntsWd w v es) (hb : Below w.heap.size w w') : EntsWd w' v es := by
  obtain ⟨h1, A, C, hv, h2⟩ := h
  refine ⟨h1, A, C, hv, ?_⟩
  rcases h2 with k | ⟨b, o, ha, k⟩
  · exact .inl k
  · exact .inr ⟨b, o, ha, fun j e hj => by
      obtain ⟨g1, g2, u, g3, g4⟩ := k j e hj
      exact ⟨g1, g2, u, rangeAt_below g3 hb, intsWd_below g4 hb⟩⟩

theorem msgWd_below {w w' : World} {ev mv : Value} {m : MsgM} (h : MsgW w ev mv m) (hb : Below w.heap.size w w') : MsgW w' ev mv m := by
  obtain ⟨h1, h2, h3⟩ := h
  exact ⟨entsWd_below h1 hb, intsWd_below h2 hb, h3⟩

theorem msgWd_len {w : World} {ev mv : Value} {m : MsgM} (h : MsgW w ev mv m) : (∃ a c, ev = .slice a m.es.length c) ∧ ∃ a c, mv = .slice a m.sn.ms.length c := by
  obtain ⟨h1, h2, _⟩ := h
  obtain ⟨_, a, c, hv, _⟩ := h1
  exact ⟨⟨a, c, hv⟩, intsWd_len h2⟩

theorem yesWd_len (b : Bool) : (yesW b).length = 1 := layS_len _ _

theorem msgLen_small {m : MsgM} (h : okMB m = true) : 25 ≤ (msgW m).length ∧ (msgW m).length ≤ 200000 := by
  obtain ⟨h1, h2, h3, h4, h5, h6, h7⟩ := okMB_parts h
  obtain ⟨kd, fr, tq, tm, ix, lt, cm, yes, es, ⟨si, st, ms, sd⟩⟩ := m
  unfold entsB at h5
  unfold snpB memsB at h6
  simp only [Bool.and_eq_true, decide_eq_true_eq] at h5 h6
  have h8 := entsW_len es (fun e he => by have := h5.2; rw [List.all_eq_true] at this; exact this e he)
  unfold msgW bodyW snpW txtW lstW
  dsimp only at h6 ⊢
  simp only [List.length_append, intsW_len, layS_len, List.length_cons, List.length_nil]
  split
  · simp only [intsW_len, List.length_cons, List.length_nil]; omega
  split
  · rw [yesWd_len]; omega
  split
  · simp only [List.length_append, intsW_len, layS_len, List.length_cons, List.length_nil]; omega
  split
  · simp only [List.length_append, intsW_len, yesWd_len, List.length_cons, List.length_nil]; omega
  split
  · simp only [List.length_append, intsW_len, layS_len, size_data, List.length_cons, List.length_nil]; omega
  · simp only [List.length_nil]; omega

/-- b[:t] of bytes whose place is known. -/
theorem slice_to3 {P : Program} {T : TypeId} (ht : P.underlying T = some (.slice (P.elem T))) (hs : (P.info? (P.elem T)).map (·.size) = some 1) (b o len cap t : Nat) (h : t ≤ cap) :
    ∀ W, (Instr.slice T (.slice (some ⟨b, o, none⟩) len cap) none (some (.int .i64 (t : Int))) none).run P W = .ok (.slice (some ⟨b, o, none⟩) t cap) W := fun W => by
  rw [run_slice_h W T (some ⟨b, o, none⟩) len cap ht .i64 t (by omega) (by omega), run_size1 hs]
  by_cases hc : cap = 0
  · simp [Result.andThen, sliced, hc]
  · simp [Result.andThen, sliced, Addr.add_mid, hc]

theorem byteSl_first {w : World} {B N cap : Nat} {ad : Addr} {l : List UInt8} (h : ByteSl w B (.slice (some ad) N cap) l) (t : Nat) (ht : t ≤ N) : N ≤ cap ∧ ByteSl w B (.slice (some ad) t cap) (l.take t) := by
  rcases h with ⟨h, _⟩ | ⟨ad2, c, hv, hc, hl⟩
  · cases h
  · injection hv with e1 e2 e3
    cases e1
    subst e2 e3
    refine ⟨hc, .inr ⟨ad, cap, by rw [List.length_take, Nat.min_eq_left ht], by rw [List.length_take]; omega, ?_⟩⟩
    rcases hl with h | ⟨b, o, ha, hb, h⟩
    · exact .inl (by rw [h]; simp)
    · refine .inr ⟨b, o, ha, hb, fun j x hj => ?_⟩
      rw [List.getElem?_take] at hj
      split at hj
      · exact h j x hj
      · cases hj

theorem codW_no {m : MsgM} (h : okMB m = false) : encW m = [] ∧ codW m = 1 := ⟨by unfold encW; rw [if_neg (by rw [h]; decide)], by unfold codW; rw [if_neg (by rw [h]; decide)]⟩

theorem codW_yes {m : MsgM} (h : okMB m = true) : encW m = msgW m ∧ codW m = 0 := ⟨by unfold encW; rw [if_pos h], by unfold codW; rw [if_pos h]⟩

end Go.Proofs.Ythpljpbiamjmaaa
