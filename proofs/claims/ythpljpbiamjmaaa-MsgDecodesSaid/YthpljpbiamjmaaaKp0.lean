/- Stage 6: entries and snapshots: the plain model, and how they lie in memory. -/
import Derived.Deep.MidRow
import Derived.Laws.AppendOwnNone
import Derived.Test.YthpljpbiamjmaaaProg
import Derived.Test.YthpljpbiamjmaaaKit
import Derived.Test.YthpljpbiamjmaaaRow
import Derived.Test.YthpljpbiamjmaaaSha
import Derived.Test.YthpljpbiamjmaaaCod5
import Derived.Test.YthpljpbiamjmaaaRdk1
namespace Go.Proofs.Ythpljpbiamjmaaa
open Go.RowKit Go.Proofs

structure EntM where
  ix : Int
  tm : Int
  kd : Int
  d : ByteArray
  ms : List Int

structure SnpM where
  ix : Int
  tm : Int
  ms : List Int
  d : ByteArray

structure HrdM where
  tm : Int
  vt : Int
  sn : SnpM
  lg : List EntM

def kiV (n : Int) : Value := .int .i64 n

/-- An entry in memory: what it is, and its members' slice. -/
structure RecE where
  e : EntM
  u : Value

def cellsE (r : RecE) : List Value := [.int .i64 r.e.ix, .int .i64 r.e.tm, .int .i64 r.e.kd, .string r.e.d, r.u]

def rowsE (rs : List RecE) : List Value := (rs.map cellsE).flatten

theorem rowsE_len : ∀ rs : List RecE, (rowsE rs).length = rs.length * 5
  | [] => rfl
  | r :: rs => by
    have := rowsE_len rs
    unfold rowsE at this ⊢
    rw [List.map_cons, List.flatten_cons, List.length_append, this, List.length_cons]
    show 5 + _ = _
    omega

theorem rowsE_app (a b : List RecE) : rowsE (a ++ b) = rowsE a ++ rowsE b := by unfold rowsE; rw [List.map_append, List.flatten_append]

theorem rowsE_one (r : RecE) : rowsE [r] = cellsE r := by unfold rowsE; simp

theorem rowsE_take : ∀ (rs : List RecE) (k : Nat), rowsE (rs.take k) = (rowsE rs).take (k * 5)
  | [], k => by simp [rowsE]
  | r :: rs, 0 => by simp [rowsE]
  | r :: rs, k + 1 => by
    have ih := rowsE_take rs k
    unfold rowsE at ih ⊢
    rw [List.take_succ_cons, List.map_cons, List.flatten_cons, ih, List.map_cons, List.flatten_cons, List.take_append, show (cellsE r).length = 5 from rfl, show (k + 1) * 5 - 5 = k * 5 by omega, List.take_of_length_le (l := cellsE r) (by show 5 ≤ _; omega)]

theorem rowsE_drop : ∀ (rs : List RecE) (k : Nat), rowsE (rs.drop k) = (rowsE rs).drop (k * 5)
  | [], k => by simp [rowsE]
  | r :: rs, 0 => by simp [rowsE]
  | r :: rs, k + 1 => by
    have ih := rowsE_drop rs k
    unfold rowsE at ih ⊢
    rw [List.drop_succ_cons, ih, List.map_cons, List.flatten_cons, List.drop_append, show (cellsE r).length = 5 from rfl, show (k + 1) * 5 - 5 = k * 5 by omega, List.drop_of_length_le (l := cellsE r) (by show 5 ≤ _; omega), List.nil_append]

theorem rowsE_at {rs : List RecE} {k : Nat} {r : RecE} (h : rs[k]? = some r) {j : Nat} {v : Value} (hj : (cellsE r)[j]? = some v) : (rowsE rs)[k * 5 + j]? = some v := by
  have h1 := rowsE_drop rs k
  have hk : k < rs.length := (List.getElem?_eq_some_iff.1 h).1
  have h2 : rs.drop k = r :: rs.drop (k + 1) := by
    rw [List.drop_eq_getElem_cons hk]
    congr 1
    exact (List.getElem?_eq_some_iff.1 h).2
  rw [h2] at h1
  unfold rowsE at h1
  rw [List.map_cons, List.flatten_cons] at h1
  rw [show (rowsE rs)[k * 5 + j]? = ((rowsE rs).drop (k * 5))[j]? by rw [List.getElem?_drop]]
  unfold rowsE
  rw [← h1, List.getElem?_append_left (List.getElem?_eq_some_iff.1 hj).1]
  exact hj

/-- Numbers that a slice reads as. -/
def IntsAt (w : World) (v : Value) (l : List Int) : Prop :=
  l.length ≤ 1000000 ∧ ((v = .slice none 0 0 ∧ l = []) ∨ ∃ ad c, v = .slice (some ad) l.length c ∧ (l = [] ∨ ∃ b o, ad = ⟨b, o, none⟩ ∧ ∀ (j : Nat) (x : Int), l[j]? = some x → w.cell? ⟨b, o + j, none⟩ = some (kiV x)))

theorem intsAt_len {w : World} {v : Value} {l : List Int} (h : IntsAt w v l) : ∃ a c, v = .slice a l.length c := by
  rcases h.2 with ⟨hv, hl⟩ | ⟨ad, c, hv, _⟩
  · exact ⟨none, 0, by rw [hv, hl]; rfl⟩
  · exact ⟨_, _, hv⟩

theorem intsAt_same {w w' : World} {v : Value} {l : List Int} (h : IntsAt w v l) (hs : ∀ b o x, w.cell? ⟨b, o, none⟩ = some (kiV x) → w'.cell? ⟨b, o, none⟩ = some (kiV x)) : IntsAt w' v l := by
  refine ⟨h.1, ?_⟩
  rcases h.2 with k | ⟨ad, c, hv, k⟩
  · exact .inl k
  · refine .inr ⟨ad, c, hv, ?_⟩
    rcases k with k | ⟨b, o, ha, k⟩
    · exact .inl k
    · exact .inr ⟨b, o, ha, fun j x hj => hs _ _ _ (k j x hj)⟩

theorem intsAt_below {w w' : World} {v : Value} {l : List Int} (h : IntsAt w v l) (hb : Below w.heap.size w w') : IntsAt w' v l :=
  intsAt_same h (fun b o x hc => by rw [hb.cell (block_of_cell hc)]; exact hc)

theorem intsAt_own {w : World} {base : Nat} {e : TypeId} {v : Value} {n : Nat} {l : List Int} (h : w.ownsRow base e 1 v n (l.map kiV)) (hl : l.length ≤ 1000000) : IntsAt w v l := by
  have hn : l.length = n := by have := h.1; simpa using this
  refine ⟨hl, ?_⟩
  rcases h.2 with ⟨hv, h0⟩ | ⟨g, cap, cur, hv, _⟩
  · exact .inl ⟨hv, List.eq_nil_of_length_eq_zero (by omega)⟩
  · refine .inr ⟨⟨g, 0, none⟩, cap, by rw [hv, hn], .inr ⟨g, 0, rfl, fun j x hj => ?_⟩⟩
    subst hv
    have hjl := (List.getElem?_eq_some_iff.1 hj).1
    rw [Nat.zero_add, World.ownsRow.cellAt h j (by omega), List.getElem?_map, hj]
    rfl

/-- An own row of entries, each with its own members. -/
def IntsO (w : World) (r : RecE) : Prop := w.ownsRow 0 3 1 r.u r.e.ms.length (r.e.ms.map kiV) ∧ r.e.ms.length ≤ 1000000

def OwnE (w : World) (base : Nat) (v : Value) (rs : List RecE) : Prop := w.ownsRow base 46 5 v rs.length (rowsE rs) ∧ ∀ r ∈ rs, IntsO w r

/-- Entries that a slice reads as. -/
def EntsAt (w : World) (v : Value) (es : List EntM) : Prop :=
  ∃ A C, v = .slice A es.length C ∧ (es = [] ∨ ∃ b o, A = some ⟨b, o, none⟩ ∧ ∀ (j : Nat) (e : EntM), es[j]? = some e → ∃ u, w.rangeAt b (o + j * 5) (cellsE ⟨e, u⟩) ∧ IntsAt w u e.ms)

theorem rangeAt_below {w w' : World} {b o : Nat} {xs : List Value} (h : w.rangeAt b o xs) (hb : Below w.heap.size w w') : w'.rangeAt b o xs := fun j v hj => by
  have h1 := h j v hj
  rw [hb.cell (block_of_cell h1)]
  exact h1

theorem entsAt_below {w w' : World} {v : Value} {es : List EntM} (h : EntsAt w v es) (hb : Below w.heap.size w w') : EntsAt w' v es := by
  obtain ⟨A, C, rfl, h⟩ := h
  refine ⟨A, C, rfl, ?_⟩
  rcases h with h | ⟨b, o, ha, h⟩
  · exact .inl h
  · exact .inr ⟨b, o, ha, fun j e hj => by
      obtain ⟨u, h1, h2⟩ := h j e hj
      exact ⟨u, rangeAt_below h1 hb, intsAt_below h2 hb⟩⟩

theorem ownE_ents {w : World} {base : Nat} {v : Value} {rs : List RecE} (h : OwnE w base v rs) : EntsAt w v (rs.map (·.e)) := by
  rcases h.1.2 with ⟨hv, hn⟩ | ⟨g, cap, cur, hv, _⟩
  · have : rs = [] := List.eq_nil_of_length_eq_zero hn
    subst this
    exact ⟨none, 0, hv, .inl rfl⟩
  · subst hv
    refine ⟨_, cap, by rw [List.length_map], .inr ⟨g, 0, rfl, fun j e hj => ?_⟩⟩
    rw [List.getElem?_map] at hj
    obtain ⟨r, hr, rfl⟩ := Option.map_eq_some_iff.1 hj
    have hjl := (List.getElem?_eq_some_iff.1 hr).1
    refine ⟨r.u, fun i x hi => ?_, intsAt_own (h.2 r (List.mem_of_getElem? hr)).1 (h.2 r (List.mem_of_getElem? hr)).2⟩
    have hi5 : i < 5 := (List.getElem?_eq_some_iff.1 hi).1
    rw [Nat.zero_add, World.ownsRow.cellAt h.1 (j * 5 + i) (by omega)]
    exact rowsE_at hr hi

theorem ownE_below {w w' : World} {base : Nat} {v : Value} {rs : List RecE} (h : OwnE w base v rs) (hb : Below w.heap.size w w') : OwnE w' base v rs := ⟨own_below h.1 hb, fun r hr => ⟨own_below (h.2 r hr).1 hb, (h.2 r hr).2⟩⟩

/-- The same, with the blocks where they lie. -/
def IntsZ (w : World) (Z : Nat → Prop) (v : Value) (l : List Int) : Prop :=
  l.length ≤ 1000000 ∧ ((v = .slice none 0 0 ∧ l = []) ∨ ∃ ad c, v = .slice (some ad) l.length c ∧ (l = [] ∨ ∃ b o, ad = ⟨b, o, none⟩ ∧ Z b ∧ ∀ (j : Nat) (x : Int), l[j]? = some x → w.cell? ⟨b, o + j, none⟩ = some (kiV x)))

def EntsZ (w : World) (Z : Nat → Prop) (v : Value) (es : List EntM) : Prop :=
  ∃ A C, v = .slice A es.length C ∧ (es = [] ∨ ∃ b o, A = some ⟨b, o, none⟩ ∧ Z b ∧ ∀ (j : Nat) (e : EntM), es[j]? = some e → ∃ u, w.rangeAt b (o + j * 5) (cellsE ⟨e, u⟩) ∧ IntsZ w Z u e.ms)

theorem cell_kept {w w' : World} {b o : Nat} {x : Value} (h : w.cell? ⟨b, o, none⟩ = some x) (hb : w'.heap[b]? = w.heap[b]?) : w'.cell? ⟨b, o, none⟩ = some x := by
  unfold World.cell? at h ⊢
  rw [hb]
  exact h

theorem intsZ_keep {w w' : World} {Z : Nat → Prop} {v : Value} {l : List Int} (h : IntsZ w Z v l) (hk : ∀ k, k < w.heap.size → Z k → w'.heap[k]? = w.heap[k]?) : IntsZ w' Z v l := by
  refine ⟨h.1, ?_⟩
  rcases h.2 with k | ⟨ad, c, hv, k⟩
  · exact .inl k
  · refine .inr ⟨ad, c, hv, ?_⟩
    rcases k with k | ⟨b, o, ha, hz, k⟩
    · exact .inl k
    · exact .inr ⟨b, o, ha, hz, fun j x hj => cell_kept (k j x hj) (hk b (block_of_cell (k j x hj)) hz)⟩

theorem intsZ_at {w : World} {Z : Nat → Prop} {v : Value} {l : List Int} (h : IntsZ w Z v l) : IntsAt w v l := by
  refine ⟨h.1, ?_⟩
  rcases h.2 with k | ⟨ad, c, hv, k⟩
  · exact .inl k
  · refine .inr ⟨ad, c, hv, ?_⟩
    rcases k with k | ⟨b, o, ha, hz, k⟩
    · exact .inl k
    · exact .inr ⟨b, o, ha, k⟩

theorem entsZ_keep {w w' : World} {Z : Nat → Prop} {v : Value} {es : List EntM} (h : EntsZ w Z v es) (hk : ∀ k, k < w.heap.size → Z k → w'.heap[k]? = w.heap[k]?) : EntsZ w' Z v es := by
  obtain ⟨A, C, rfl, h⟩ := h
  refine ⟨A, C, rfl, ?_⟩
  rcases h with h | ⟨b, o, ha, hz, h⟩
  · exact .inl h
  · refine .inr ⟨b, o, ha, hz, fun j e hj => ?_⟩
    obtain ⟨u, h1, h2⟩ := h j e hj
    exact ⟨u, fun i x hi => cell_kept (h1 i x hi) (hk b (block_of_cell (h1 i x hi)) hz), intsZ_keep h2 hk⟩

theorem entsZ_at {w : World} {Z : Nat → Prop} {v : Value} {es : List EntM} (h : EntsZ w Z v es) : EntsAt w v es := by
  obtain ⟨A, C, rfl, h⟩ := h
  refine ⟨A, C, rfl, ?_⟩
  rcases h with h | ⟨b, o, ha, hz, h⟩
  · exact .inl h
  · refine .inr ⟨b, o, ha, fun j e hj => ?_⟩
    obtain ⟨u, h1, h2⟩ := h j e hj
    exact ⟨u, h1, intsZ_at h2⟩

theorem intsZ_less {w : World} {Z Z' : Nat → Prop} {v : Value} {l : List Int} (h : IntsZ w Z v l) (hZ : ∀ k, k < w.heap.size → Z k → Z' k) : IntsZ w Z' v l := by
  refine ⟨h.1, ?_⟩
  rcases h.2 with k | ⟨ad, c, hv, k⟩
  · exact .inl k
  · refine .inr ⟨ad, c, hv, ?_⟩
    rcases k with k | ⟨b, o, ha, hz, k⟩
    · exact .inl k
    · by_cases hl : l = []
      · exact .inl hl
      · obtain ⟨x, hx⟩ : ∃ x, l[0]? = some x := ⟨_, List.getElem?_eq_getElem (List.length_pos_iff.2 hl)⟩
        exact .inr ⟨b, o, ha, hZ b (block_of_cell (k 0 x hx)) hz, k⟩

theorem Try.infoEntry : (Try.prog.info? 46).map (fun i => (i.zero, i.size, i.bytes)) = some (some (.agg #[.int .i64 0, .int .i64 0, .int .i64 0, .string ⟨#[]⟩, .slice none 0 0]), 5, 64) := by kernel_rfl

theorem Try.infoInt : (Try.prog.info? 3).map (fun i => (i.zero, i.size, i.bytes)) = some (some (.int .i64 0), 1, 8) := by kernel_rfl

theorem Try.infoSnap : (Try.prog.info? 25).map (fun i => (i.zero, i.size)) = some (some (.agg #[.int .i64 0, .int .i64 0, .slice none 0 0, .string ⟨#[]⟩]), 4) := by kernel_rfl

theorem Try.infoEnt : (Try.prog.info? 46).map (·.size) = some 5 := by kernel_rfl

theorem Try.infoEntz : (Try.prog.info? 46).map (fun i => (i.zero, i.size)) = some (some (.agg #[.int .i64 0, .int .i64 0, .int .i64 0, .string ⟨#[]⟩, .slice none 0 0]), 5) := by kernel_rfl

theorem kiV_one : ∀ u ∈ ([] : List Value), u.oneCell' = true := fun u h => by simp at h

theorem ints_one (l : List Int) : ∀ u ∈ l.map kiV, u.oneCell' = true := fun u h => by
  obtain ⟨n, _, rfl⟩ := List.mem_map.1 h
  rfl

/-- append of any numbers to an own row of numbers. -/
theorem wpList_append_ints {P : Program} {w : World} {ops : Array Oper} {rest : List Oper} {o : Oper} {a : Act} {Q : Exit → Act → World → Prop} (hgd : o.guard = none) (s x : Operand) (t : TypeId)
    (ho : o.op = .call { callee := .builtin .append, args := #[s, x], argTypes := #[t, t] })
    (base : Nat) (e : TypeId) (i : TypeInfo) (z : Value) (ht : P.underlying t = some (.slice e)) (hi : P.info? e = some i) (hz : i.zero = some z)
    (hsize : i.size = 1) (hby : i.bytes = 8) (hzs : z.cells.size = 1)
    (v : Value) (n : Nat) (xs : List Value) (hs : a.eval s = v) (hown : w.ownsRow base e 1 v n xs)
    (u : Value) (l : List Int) (hx : a.eval x = u) (hl : IntsAt w u l) (hn : n ≤ 1000000) (hbase : base ≤ w.heap.size)
    (h : ∀ v' w', w'.ownsRow base e 1 v' (n + l.length) (xs ++ l.map kiV) → Below base w w' → wpList P ops Q rest (a.put o.dst v') w') : wpList P ops Q (o :: rest) a w := by
  obtain ⟨hl2, hl⟩ := hl
  rcases hl with ⟨rfl, rfl⟩ | ⟨ad, c, rfl, hl1⟩
  · refine wpList_append_own_none hgd s x t ho base e i 1 ht hi v n xs hs hown hx ?_
    refine h v w ?_ (Below.refl _ _)
    rw [List.map_nil, List.append_nil]
    exact hown
  · refine wpList_append_own _ hgd s x t ho base e i z 1 8 ht hi hz hsize hby hzs (by decide) v n xs hs hown ad l.length c (l.map kiV) hx (by simp) ?_ (ints_one l) (by unfold maxLen; omega) (by omega) hbase ?_
    · intro j u hj
      rw [List.getElem?_map] at hj
      obtain ⟨y, hy, rfl⟩ := Option.map_eq_some_iff.1 hj
      rcases hl1 with rfl | ⟨b, o, rfl, hb⟩
      · simp at hy
      · rw [Addr.add_mid]
        exact hb j y hy
    · intro v' w' hown' hg _
      exact h v' w' hown' (below_own hown hg hbase)

end Go.Proofs.Ythpljpbiamjmaaa
