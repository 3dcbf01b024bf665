/- Stage 6: entries and snapshots: the plain model, and how they lie in memory. -/
import Derived.Deep.MidRow
import Derived.Laws.AppendOwnNone
import Derived.BigRegion
import Derived.Deep.RegionHeld3
import Derived.Deep.AppendLies
import Derived.Laws.BitsLemmas
import Derived.Lib.AppendStr
import Derived.Test.YtageldnhchgplaaGreatDoorProg
import Derived.Test.YtageldnhchgplaaGreatDoorKit
import Derived.Test.YtageldnhchgplaaGreatDoorInfo
import Derived.Test.YtageldnhchgplaaGreatDoorRow
import Derived.Test.YtageldnhchgplaaGreatDoorSha
import Derived.Test.YtageldnhchgplaaGreatDoorCod5
import Derived.Test.YtageldnhchgplaaGreatDoorCod7
import Derived.Test.YtageldnhchgplaaGreatDoorFrm4
import Derived.Test.YtageldnhchgplaaGreatDoorFp
import Derived.Test.YtageldnhchgplaaGreatDoorRdk1
import Derived.Test.YtageldnhchgplaaGreatDoorNet0
namespace Go.Proofs.YtageldnhchgplaaGreatDoor
open Go.RowKit Go.Proofs

structure EntM where
  ix : Int
  tm : Int
  kd : Int
  d : ByteArray
  ms : List Int

structure SnpM where
  ix : Int
  tm : Int
  ms : List Int
  d : ByteArray

structure HrdM where
  tm : Int
  vt : Int
  sn : SnpM
  lg : List EntM

def kiV (n : Int) : Value := .int .i64 n

/-- An entry in memory: what it is, and its members' slice. -/
structure RecE where
  e : EntM
  u : Value

def cellsE (r : RecE) : List Value := [.int .i64 r.e.ix, .int .i64 r.e.tm, .int .i64 r.e.kd, .string r.e.d, r.u]

def rowsE (rs : List RecE) : List Value := (rs.map cellsE).flatten

theorem rowsE_len : ∀ rs : List RecE, (rowsE rs).length = rs.length * 5
  | [] => rfl
  | r :: rs => by
    have := rowsE_len rs
    unfold rowsE at this ⊢
    rw [List.map_cons, List.flatten_cons, List.length_append, this, List.length_cons]
    show 5 + _ = _
    omega

theorem rowsE_app (a b : List RecE) : rowsE (a ++ b) = rowsE a ++ rowsE b := by unfold rowsE; rw [List.map_append, List.flatten_append]

theorem rowsE_one (r : RecE) : rowsE [r] = cellsE r := by unfold rowsE; simp

theorem rowsE_take : ∀ (rs : List RecE) (k : Nat), rowsE (rs.take k) = (rowsE rs).take (k * 5)
  | [], k => by simp [rowsE]
  | r :: rs, 0 => by simp [rowsE]
  | r :: rs, k + 1 => by
    have ih := rowsE_take rs k
    unfold rowsE at ih ⊢
    rw [List.take_succ_cons, List.map_cons, List.flatten_cons, ih, List.map_cons, List.flatten_cons, List.take_append, show (cellsE r).length = 5 from rfl, show (k + 1) * 5 - 5 = k * 5 by omega, List.take_of_length_le (l := cellsE r) (by show 5 ≤ _; omega)]

theorem rowsE_drop : ∀ (rs : List RecE) (k : Nat), rowsE (rs.drop k) = (rowsE rs).drop (k * 5)
  | [], k => by simp [rowsE]
  | r :: rs, 0 => by simp [rowsE]
  | r :: rs, k + 1 => by
    have ih := rowsE_drop rs k
    unfold rowsE at ih ⊢
    rw [List.drop_succ_cons, ih, List.map_cons, List.flatten_cons, List.drop_append, show (cellsE r).length = 5 from rfl, show (k + 1) * 5 - 5 = k * 5 by omega, List.drop_of_length_le (l := cellsE r) (by show 5 ≤ _; omega), List.nil_append]

theorem rowsE_at {rs : List RecE} {k : Nat} {r : RecE} (h : rs[k]? = some r) {j : Nat} {v : Value} (hj : (cellsE r)[j]? = some v) : (rowsE rs)[k * 5 + j]? = some v := by
  have h1 := rowsE_drop rs k
  have hk : k < rs.length := (List.getElem?_eq_some_iff.1 h).1
  have h2 : rs.drop k = r :: rs.drop (k + 1) := by
    rw [List.drop_eq_getElem_cons hk]
    congr 1
    exact (List.getElem?_eq_some_iff.1 h).2
  rw [h2] at h1
  unfold rowsE at h1
  rw [List.map_cons, List.flatten_cons] at h1
  rw [show (rowsE rs)[k * 5 + j]? = ((rowsE rs).drop (k * 5))[j]? by rw [List.getElem?_drop]]
  unfold rowsE
  rw [← h1, List.getElem?_append_left (List.getElem?_eq_some_iff.1 hj).1]
  exact hj

/-- Numbers that a slice reads as. -/
def IntsAt (w : World) (v : Value) (l : List Int) : Prop :=
  l.length ≤ 1000000 ∧ ((v = .slice none 0 0 ∧ l = []) ∨ ∃ ad c, v = .slice (some ad) l.length c ∧ (l = [] ∨ ∃ b o, ad = ⟨b, o, none⟩ ∧ ∀ (j : Nat) (x : Int), l[j]? = some x → w.cell? ⟨b, o + j, none⟩ = some (kiV x)))

theorem intsAt_len {w : World} {v : Value} {l : List Int} (h : IntsAt w v l) : ∃ a c, v = .slice a l.length c := by
  rcases h.2 with ⟨hv, hl⟩ | ⟨ad, c, hv, _⟩
  · exact ⟨none, 0, by rw [hv, hl]; rfl⟩
  · exact ⟨_, _, hv⟩

theorem intsAt_same {w w' : World} {v : Value} {l : List Int} (h : IntsAt w v l) (hs : ∀ b o x, w.cell? ⟨b, o, none⟩ = some (kiV x) → w'.cell? ⟨b, o, none⟩ = some (kiV x)) : IntsAt w' v l := by
  refine ⟨h.1, ?_⟩
  rcases h.2 with k | ⟨ad, c, hv, k⟩
  · exact .inl k
  · refine .inr ⟨ad, c, hv, ?_⟩
    rcases k with k | ⟨b, o, ha, k⟩
    · exact .inl k
    · exact .inr ⟨b, o, ha, fun j x hj => hs _ _ _ (k j x hj)⟩

theorem intsAt_below {w w' : World} {v : Value} {l : List Int} (h : IntsAt w v l) (hb : Below w.heap.size w w') : IntsAt w' v l :=
  intsAt_same h (fun b o x hc => by rw [hb.cell (block_of_cell hc)]; exact hc)

theorem intsAt_own {w : World} {base : Nat} {e : TypeId} {v : Value} {n : Nat} {l : List Int} (h : w.ownsRow base e 1 v n (l.map kiV)) (hl : l.length ≤ 1000000) : IntsAt w v l := by
  have hn : l.length = n := by have := h.1; simpa using this
  refine ⟨hl, ?_⟩
  rcases h.2 with ⟨hv, h0⟩ | ⟨g, cap, cur, hv, _⟩
  · exact .inl ⟨hv, List.eq_nil_of_length_eq_zero (by omega)⟩
  · refine .inr ⟨⟨g, 0, none⟩, cap, by rw [hv, hn], .inr ⟨g, 0, rfl, fun j x hj => ?_⟩⟩
    subst hv
    have hjl := (List.getElem?_eq_some_iff.1 hj).1
    rw [Nat.zero_add, World.ownsRow.cellAt h j (by omega), List.getElem?_map, hj]
    rfl

/-- An own row of entries, each with its own members. -/
def IntsO (w : World) (r : RecE) : Prop := w.ownsRow 0 3 1 r.u r.e.ms.length (r.e.ms.map kiV) ∧ r.e.ms.length ≤ 1000000

def OwnE (w : World) (base : Nat) (v : Value) (rs : List RecE) : Prop := w.ownsRow base 32 5 v rs.length (rowsE rs) ∧ ∀ r ∈ rs, IntsO w r

/-- Entries that a slice reads as. -/
def EntsAt (w : World) (v : Value) (es : List EntM) : Prop :=
  ∃ A C, v = .slice A es.length C ∧ (es = [] ∨ ∃ b o, A = some ⟨b, o, none⟩ ∧ ∀ (j : Nat) (e : EntM), es[j]? = some e → ∃ u, w.rangeAt b (o + j * 5) (cellsE ⟨e, u⟩) ∧ IntsAt w u e.ms)

theorem rangeAt_below {w w' : World} {b o : Nat} {xs : List Value} (h : w.rangeAt b o xs) (hb : Below w.heap.size w w') : w'.rangeAt b o xs := fun j v hj => by
  have h1 := h j v hj
  rw [hb.cell (block_of_cell h1)]
  exact h1

theorem entsAt_below {w w' : World} {v : Value} {es : List EntM} (h : EntsAt w v es) (hb : Below w.heap.size w w') : EntsAt w' v es := by
  obtain ⟨A, C, rfl, h⟩ := h
  refine ⟨A, C, rfl, ?_⟩
  rcases h with h | ⟨b, o, ha, h⟩
  · exact .inl h
  · exact .inr ⟨b, o, ha, fun j e hj => by
      obtain ⟨u, h1, h2⟩ := h j e hj
      exact ⟨u, rangeAt_below h1 hb, intsAt_below h2 hb⟩⟩

theorem ownE_ents {w : World} {base : Nat} {v : Value} {rs : List RecE} (h : OwnE w base v rs) : EntsAt w v (rs.map (·.e)) := by
  rcases h.1.2 with ⟨hv, hn⟩ | ⟨g, cap, cur, hv, _⟩
  · have : rs = [] := List.eq_nil_of_length_eq_zero hn
    subst this
    exact ⟨none, 0, hv, .inl rfl⟩
  · subst hv
    refine ⟨_, cap, by rw [List.length_map], .inr ⟨g, 0, rfl, fun j e hj => ?_⟩⟩
    rw [List.getElem?_map] at hj
    obtain ⟨r, hr, rfl⟩ := Option.map_eq_some_iff.1 hj
    have hjl := (List.getElem?_eq_some_iff.1 hr).1
    refine ⟨r.u, fun i x hi => ?_, intsAt_own (h.2 r (List.mem_of_getElem? hr)).1 (h.2 r (List.mem_of_getElem? hr)).2⟩
    have hi5 : i < 5 := (List.getElem?_eq_some_iff.1 hi).1
    rw [Nat.zero_add, World.ownsRow.cellAt h.1 (j * 5 + i) (by omega)]
    exact rowsE_at hr hi

theorem ownE_below {w w' : World} {base : Nat} {v : Value} {rs : List RecE} (h : OwnE w base v rs) (hb : Below w.heap.size w w') : OwnE w' base v rs := ⟨own_below h.1 hb, fun r hr => ⟨own_below (h.2 r hr).1 hb, (h.2 r hr).2⟩⟩

/-- The same, with the blocks where they lie. -/
def IntsZ (w : World) (Z : Nat → Prop) (v : Value) (l : List Int) : Prop :=
  l.length ≤ 1000000 ∧ ((v = .slice none 0 0 ∧ l = []) ∨ ∃ ad c, v = .slice (some ad) l.length c ∧ (l = [] ∨ ∃ b o, ad = ⟨b, o, none⟩ ∧ Z b ∧ ∀ (j : Nat) (x : Int), l[j]? = some x → w.cell? ⟨b, o + j, none⟩ = some (kiV x)))

def EntsZ (w : World) (Z : Nat → Prop) (v : Value) (es : List EntM) : Prop :=
  ∃ A C, v = .slice A es.length C ∧ (es = [] ∨ ∃ b o, A = some ⟨b, o, none⟩ ∧ Z b ∧ ∀ (j : Nat) (e : EntM), es[j]? = some e → ∃ u, w.rangeAt b (o + j * 5) (cellsE ⟨e, u⟩) ∧ IntsZ w Z u e.ms)

theorem cell_kept {w w' : World} {b o : Nat} {x : Value} (h : w.cell? ⟨b, o, none⟩ = some x) (hb : w'.heap[b]? = w.heap[b]?) : w'.cell? ⟨b, o, none⟩ = some x := by
  unfold World.cell? at h ⊢
  rw [hb]
  exact h

theorem intsZ_keep {w w' : World} {Z : Nat → Prop} {v : Value} {l : List Int} (h : IntsZ w Z v l) (hk : ∀ k, k < w.heap.size → Z k → w'.heap[k]? = w.heap[k]?) : IntsZ w' Z v l := by
  refine ⟨h.1, ?_⟩
  rcases h.2 with k | ⟨ad, c, hv, k⟩
  · exact .inl k
  · refine .inr ⟨ad, c, hv, ?_⟩
    rcases k with k | ⟨b, o, ha, hz, k⟩
    · exact .inl k
    · exact .inr ⟨b, o, ha, hz, fun j x hj => cell_kept (k j x hj) (hk b (block_of_cell (k j x hj)) hz)⟩

theorem intsZ_at {w : World} {Z : Nat → Prop} {v : Value} {l : List Int} (h : IntsZ w Z v l) : IntsAt w v l := by
  refine ⟨h.1, ?_⟩
  rcases h.2 with k | ⟨ad, c, hv, k⟩
  · exact .inl k
  · refine .inr ⟨ad, c, hv, ?_⟩
    rcases k with k | ⟨b, o, ha, hz, k⟩
    · exact .inl k
    · exact .inr ⟨b, o, ha, k⟩

theorem entsZ_keep {w w' : World} {Z : Nat → Prop} {v : Value} {es : List EntM} (h : EntsZ w Z v es) (hk : ∀ k, k < w.heap.size → Z k → w'.heap[k]? = w.heap[k]?) : EntsZ w' Z v es := by
  obtain ⟨A, C, rfl, h⟩ := h
  refine ⟨A, C, rfl, ?_⟩
  rcases h with h | ⟨b, o, ha, hz, h⟩
  · exact .inl h
  · refine .inr ⟨b, o, ha, hz, fun j e hj => ?_⟩
    obtain ⟨u, h1, h2⟩ := h j e hj
    exact ⟨u, fun i x hi => cell_kept (h1 i x hi) (hk b (block_of_cell (h1 i x hi)) hz), intsZ_keep h2 hk⟩

theorem entsZ_at {w : World} {Z : Nat → Prop} {v : Value} {es : List EntM} (h : EntsZ w Z v es) : EntsAt w v es := by
  obtain ⟨A, C, rfl, h⟩ := h
  refine ⟨A, C, rfl, ?_⟩
  rcases h with h | ⟨b, o, ha, hz, h⟩
  · exact .inl h
  · refine .inr ⟨b, o, ha, fun j e hj => ?_⟩
    obtain ⟨u, h1, h2⟩ := h j e hj
    exact ⟨u, h1, intsZ_at h2⟩

theorem intsZ_less {w : World} {Z Z' : Nat → Prop} {v : Value} {l : List Int} (h : IntsZ w Z v l) (hZ : ∀ k, k < w.heap.size → Z k → Z' k) : IntsZ w Z' v l := by
  refine ⟨h.1, ?_⟩
  rcases h.2 with k | ⟨ad, c, hv, k⟩
  · exact .inl k
  · refine .inr ⟨ad, c, hv, ?_⟩
    rcases k with k | ⟨b, o, ha, hz, k⟩
    · exact .inl k
    · by_cases hl : l = []
      · exact .inl hl
      · obtain ⟨x, hx⟩ : ∃ x, l[0]? = some x := ⟨_, List.getElem?_eq_getElem (List.length_pos_iff.2 hl)⟩
        exact .inr ⟨b, o, ha, hZ b (block_of_cell (k 0 x hx)) hz, k⟩

theorem Tryz.infoEntry : (Tryz.prog.info? 32).map (fun i => (i.zero, i.size, i.bytes)) = some (some (.agg #[.int .i64 0, .int .i64 0, .int .i64 0, .string ⟨#[]⟩, .slice none 0 0]), 5, 64) := by kernel_rfl

theorem Tryz.infoInt : (Tryz.prog.info? 3).map (fun i => (i.zero, i.size, i.bytes)) = some (some (.int .i64 0), 1, 8) := by kernel_rfl

theorem Tryz.infoSnap : (Tryz.prog.info? 35).map (fun i => (i.zero, i.size)) = some (some (.agg #[.int .i64 0, .int .i64 0, .slice none 0 0, .string ⟨#[]⟩]), 4) := by kernel_rfl

theorem Tryz.infoEnt : (Tryz.prog.info? 32).map (·.size) = some 5 := by kernel_rfl

theorem Tryz.infoEntz : (Tryz.prog.info? 32).map (fun i => (i.zero, i.size)) = some (some (.agg #[.int .i64 0, .int .i64 0, .int .i64 0, .string ⟨#[]⟩, .slice none 0 0]), 5) := by kernel_rfl

theorem kiV_one : ∀ u ∈ ([] : List Value), u.oneCell' = true := fun u h => by simp at h

theorem ints_one (l : List Int) : ∀ u ∈ l.map kiV, u.oneCell' = true := fun u h => by
  obtain ⟨n, _, rfl⟩ := List.mem_map.1 h
  rfl

/-- append of any numbers to an own row of numbers. -/
theorem wpList_append_ints {P : Program} {w : World} {ops : Array Oper} {rest : List Oper} {o : Oper} {a : Act} {Q : Exit → Act → World → Prop} (hgd : o.guard = none) (s x : Operand) (t : TypeId)
    (ho : o.op = .call { callee := .builtin .append, args := #[s, x], argTypes := #[t, t] })
    (base : Nat) (e : TypeId) (i : TypeInfo) (z : Value) (ht : P.underlying t = some (.slice e)) (hi : P.info? e = some i) (hz : i.zero = some z)
    (hsize : i.size = 1) (hby : i.bytes = 8) (hzs : z.cells.size = 1)
    (v : Value) (n : Nat) (xs : List Value) (hs : a.eval s = v) (hown : w.ownsRow base e 1 v n xs)
    (u : Value) (l : List Int) (hx : a.eval x = u) (hl : IntsAt w u l) (hn : n ≤ 1000000) (hbase : base ≤ w.heap.size)
    (h : ∀ v' w', w'.ownsRow base e 1 v' (n + l.length) (xs ++ l.map kiV) → Below base w w' → wpList P ops Q rest (a.put o.dst v') w') : wpList P ops Q (o :: rest) a w := by
  obtain ⟨hl2, hl⟩ := hl
  rcases hl with ⟨rfl, rfl⟩ | ⟨ad, c, rfl, hl1⟩
  · refine wpList_append_own_none hgd s x t ho base e i 1 ht hi v n xs hs hown hx ?_
    refine h v w ?_ (Below.refl _ _)
    rw [List.map_nil, List.append_nil]
    exact hown
  · refine wpList_append_own _ hgd s x t ho base e i z 1 8 ht hi hz hsize hby hzs (by decide) v n xs hs hown ad l.length c (l.map kiV) hx (by simp) ?_ (ints_one l) (by unfold maxLen; omega) (by omega) hbase ?_
    · intro j u hj
      rw [List.getElem?_map] at hj
      obtain ⟨y, hy, rfl⟩ := Option.map_eq_some_iff.1 hj
      rcases hl1 with rfl | ⟨b, o, rfl, hb⟩
      · simp at hy
      · rw [Addr.add_mid]
        exact hb j y hy
    · intro v' w' hown' hg _
      exact h v' w' hown' (below_own hown hg hbase)

theorem kclone_any {w : World} {v : Value} {l : List Int} (h : IntsAt w v l) :
    Calls Tryz.prog 29 #[v] w fun e w' => ∃ a c, e = .returned (.slice a l.length c) ∧ w'.ownsRow w.heap.size 3 1 (.slice a l.length c) l.length (l.map kiV) ∧ Below w.heap.size w w' := by
  have HI := Lib.hid h
  obtain ⟨i0, hi, hz, hz1, hz2⟩ := info_parts Tryz.infoInt
  obtain ⟨a, c, rfl⟩ := intsAt_len h
  clear h
  go_enter Tryz.func29, Tryz.ntmps29
  go_wp2_with (at_builtin; refine wpList_append_ints rfl _ _ 30 rfl w.heap.size 3 i0 (.int .i64 0) Tryz.underlying30 hi hz hz1 hz2 rfl (.slice none 0 0) 0 [] rfl (World.ownsRow_nil _ _ _ _) _ l rfl HI.out (by decide) (Nat.le_refl _) ?_; intro v1 w1 ho1 hb1; rw [Nat.zero_add, List.nil_append] at ho1; obtain ⟨a1, c1, rfl⟩ := own_len ho1; have HO1 := Lib.hid ho1; have HB1 := Lib.hid hb1; clear ho1 hb1)
  go_ret
  exact ⟨a1, c1, rfl, HO1.out, HB1.out⟩

theorem snp_one (i t : Int) (a : Option Addr) (n c : Nat) (d : ByteArray) : (#[Value.int .i64 i, .int .i64 t, .slice a n c, .string d].all (·.oneCell')) = true := by simp [Value.oneCell']

theorem ent_one (i t k : Int) (d : ByteArray) (a : Option Addr) (n c : Nat) : (#[Value.int .i64 i, .int .i64 t, .int .i64 k, .string d, .slice a n c].all (·.oneCell')) = true := by simp [Value.oneCell']

theorem Tryz.sizeSnap : (Tryz.prog.info? 35).map (·.size) = some 4 := by kernel_rfl

/-- An own row stays where a store hits a block of another type. -/
theorem own_store {W : World} {b base : Nat} {e1 e2 : TypeId} {s n g : Nat} {v : Value} {xs cs : List Value} (ho : W.ownsRow base e1 s v n xs) (hr : Rw W b g e2 cs) (he : e1 ≠ e2) (j : Nat) (u : Value) : (W.setCell ⟨g, j, none⟩ u).ownsRow base e1 s v n xs := by
  refine own_same ho (fun k hk => ?_)
  have hne : k ≠ g := by
    rintro rfl
    exact own_rw ho hr he hk
  simp only [World.setCell, Array.getElem?_modify]
  rw [if_neg (fun e => hne e.symm)]

theorem own_stores {W : World} {b base : Nat} {e1 e2 : TypeId} {s n g : Nat} {v : Value} {xs cs : List Value} (ho : W.ownsRow base e1 s v n xs) (hr : Rw W b g e2 cs) (he : e1 ≠ e2) (o : Nat) (ys : List Value) : (W.setCells g o ys).ownsRow base e1 s v n xs := by
  refine own_same ho (fun k hk => setCells_heap _ _ _ _ _ ?_)
  rintro rfl
  exact own_rw ho hr he hk

set_option maxHeartbeats 1000000 in
theorem kcloneSnap_any {w : World} (i t : Int) (d : ByteArray) {mv : Value} {l : List Int} (h : IntsAt w mv l) :
    Calls Tryz.prog 18 #[.agg #[.int .i64 i, .int .i64 t, mv, .string d]] w fun e w' => ∃ a c, e = .returned (.agg #[.int .i64 i, .int .i64 t, .slice a l.length c, .string d]) ∧ w'.ownsRow w.heap.size 3 1 (.slice a l.length c) l.length (l.map kiV) ∧ Below w.heap.size w w' := by
  have hz := zero_cells Tryz.infoSnap
  have H := Lib.hid h
  obtain ⟨ma, mc, rfl⟩ := intsAt_len h
  clear h
  go_enter Tryz.func18, Tryz.ntmps18
  go_wp2_with (first | (refine wpList_alloc_z rfl 35 rfl #[.int .i64 0, .int .i64 0, .slice none 0 0, .string ⟨#[]⟩] hz ?_) | fail)
  obtain ⟨C1, hC1⟩ : ∃ C1 : Array Value, C1 = #[.int .i64 i, .int .i64 t, .slice ma l.length mc, .string d] := ⟨_, rfl⟩
  obtain ⟨C2, hC2⟩ : ∃ C2 : Array Value, C2 = #[.int .i64 0, .int .i64 0, .slice none 0 0, .string ⟨#[]⟩] := ⟨_, rfl⟩
  have hb1 : Below w.heap.size w ((w.alloc (.cells C1 35)).alloc (.cells C2 35)) := below_more (below_more (Below.refl _ _) _) _
  have hP : Rw ((w.alloc (.cells C1 35)).alloc (.cells C2 35)) 0 w.heap.size 35 C1.toList := Rw.more (Rw.alloc w _ _ (Nat.zero_le _)) _
  have hR : Rw ((w.alloc (.cells C1 35)).alloc (.cells C2 35)) 0 (w.heap.size + 1) 35 C2.toList := by
    have := Rw.alloc (w.alloc (.cells C1 35)) 35 C2 (Nat.zero_le _)
    rw [show (w.alloc (.cells C1 35)).heap.size = w.heap.size + 1 by simp] at this
    exact this
  rw [← hC1, ← hC2]
  generalize (w.alloc (.cells C1 35)).alloc (.cells C2 35) = W1 at hb1 hP hR ⊢
  subst hC1 hC2
  refine (kclone_any (intsAt_below H.out hb1)).mono ?_
  rintro e w2 ⟨ua, uc, rfl, ho, hb2⟩
  have hP2 := Rw.below hP hb2
  have hR2 := Rw.below hR hb2
  have hb02 := hb1.trans (hb2.mono hb1.size)
  have HO := Lib.hid (own_mono ho hb1.size)
  have HB := Lib.hid hb02
  have c2 : w2.cell? ⟨w.heap.size, 2, none⟩ = some (.slice ma l.length mc) := Rw.cell hP2 rfl
  have f2 := Rw.free hP2 2
  have HP3 := Lib.hid (Rw.stored hP2 2 (.slice ua l.length uc))
  have hne : w.heap.size ≠ w.heap.size + 1 := by omega
  have HR3 := Lib.hid (Rw.other hR2 hne 2 (.slice ua l.length uc))
  have HO3 := Lib.hid (own_store HO.out hP2 (by decide) 2 (.slice ua l.length uc))
  have HB3 := Lib.hid (HB.out.setCell (p := ⟨w.heap.size, 2, none⟩) (Nat.le_refl _) (.slice ua l.length uc))
  clear hP2 hR2 hb02 ho hP hR hb1 hb2 hne
  go_wp2_with (first | (refine wpList_load_mid rfl 35 _ rfl w.heap.size 0 rfl [.int .i64 i, .int .i64 t, (.slice ua l.length uc), .string d] _ (Rw.whole HP3.out) Tryz.underlying35 rfl Tryz.sizeSnap ?_) | (refine wpList_store_mid rfl 35 _ _ rfl (w.heap.size + 1) 0 #[.int .i64 i, .int .i64 t, (.slice ua l.length uc), .string d] rfl rfl (Rw.there HR3.out 0 _ (by simp)) Tryz.sizeSnap (snp_one _ _ _ _ _ _) ?_) | fail)
  have hend := Rw.storedAll HR3.out [.int .i64 i, .int .i64 t, (.slice ua l.length uc), .string d] rfl
  have HB4 := Lib.hid (below_setCells (g := w.heap.size + 1) (Nat.le_succ _) [.int .i64 i, .int .i64 t, (.slice ua l.length uc), .string d] 0 _ HB3.out)
  have HO4 := Lib.hid (own_stores HO3.out HR3.out (by decide) 0 [.int .i64 i, .int .i64 t, (.slice ua l.length uc), .string d])
  refine bodyPost_ret (v := .agg #[.int .i64 i, .int .i64 t, (.slice ua l.length uc), .string d]) ?_ rfl ⟨ua, uc, rfl, HO4.out, HB4.out⟩
  exact results_cell_row rfl _ _ (w.heap.size + 1) _ _ _ _ rfl hend.2 Tryz.underlying35 rfl Tryz.sizeSnap

/-- What the copying leaves: the row is the call's own, or the caller's with room behind it. -/
def AppE (w : World) (to : Value) (rs : List RecE) (es : List EntM) (w' : World) (v : Value) : Prop :=
  ∃ ns : List RecE, ns.map (·.e) = es ∧ OwnE w' 0 v (rs ++ ns) ∧ (∀ k, v.ownBlock = some k → to.ownBlock = some k ∨ w.heap.size ≤ k) ∧ Kept (fun k => to.ownBlock = some k) w w' ∧ ∀ r ∈ ns, ∀ k, r.u.ownBlock = some k → w.heap.size ≤ k

theorem appE_start {w : World} {to : Value} {rs : List RecE} (h : OwnE w 0 to rs) : AppE w to rs [] w to := ⟨[], rfl, by rw [List.append_nil]; exact h, fun _ hk => .inl hk, kept_refl _ _, fun r hr => absurd hr (by simp)⟩

theorem ent_cells_one (i t k : Int) (d : ByteArray) (a : Option Addr) (n c : Nat) : ∀ x ∈ [Value.int .i64 i, .int .i64 t, .int .i64 k, .string d, .slice a n c], x.oneCell' = true := fun x hx => by
  simp only [List.mem_cons, List.not_mem_nil, or_false] at hx
  rcases hx with rfl | rfl | rfl | rfl | rfl <;> rfl

theorem appE_add {w w1 w3 w4 : World} {to v1 v' u : Value} {rs ns : List RecE} {es : List EntM} {e : EntM} {o : Obj} {n : Nat} (hm : ns.map (·.e) = es) (h1 : OwnE w1 0 v1 (rs ++ ns)) (hv : ∀ k, v1.ownBlock = some k → to.ownBlock = some k ∨ w.heap.size ≤ k) (hk : Kept (fun k => to.ownBlock = some k) w w1) (hnw : ∀ r ∈ ns, ∀ k, r.u.ownBlock = some k → w.heap.size ≤ k)
    (hb : Below w1.heap.size w1 w3) (hu : w3.ownsRow w1.heap.size 3 1 u e.ms.length (e.ms.map kiV)) (hl : e.ms.length ≤ 1000000) (hn : n = (rs ++ ns).length) (h4 : w4.ownsRow 0 32 5 v' (n + 1) (rowsE (rs ++ ns) ++ cellsE ⟨e, u⟩)) (hg : (w3.alloc o).grownBy w4 v1.ownBlock)
    (hat : ∀ k, v'.ownBlock = some k → v1.ownBlock = some k ∨ k = w3.heap.size + 1) : AppE w to rs (es ++ [e]) w4 v' := by
  subst hn
  have hbA : Below w1.heap.size w1 (w3.alloc o) := hb.alloc hb.size o
  have hk4 : Kept (fun k => v1.ownBlock = some k) w1 w4 := kept_grown (kept_below hbA) hg (fun k hk => .inl hk)
  have hoff : ∀ {x : Value} {m : Nat} {xs : List Value}, w1.ownsRow 0 3 1 x m xs → w4.ownsRow 0 3 1 x m xs := fun {x m xs} hx => own_keep hx hk4 (fun k hkk hkv => own_unlike h1.1 hx (by decide) hkv hkk)
  have hu4 : w4.ownsRow 0 3 1 u e.ms.length (e.ms.map kiV) := by
    refine own_mono (own_same hu (fun k hkk => ?_)) (Nat.zero_le _)
    have hlt := own_lt hu hkk
    rw [hg.block k (by simp; omega) (fun ev => by have := (World.ownsRow.lt hu k hkk).1; have := own_lt h1.1 ev.symm; omega)]
    exact (below_more (Below.refl _ _) o).block k hlt
  refine ⟨ns ++ [⟨e, u⟩], by rw [List.map_append, hm]; rfl, ⟨?_, fun r hr => ?_⟩, fun k hkk => ?_, ?_, fun r hr k hkk => ?_⟩
  · rw [← List.append_assoc, List.length_append, rowsE_app, rowsE_one]
    exact h4
  · rw [← List.append_assoc] at hr
    rcases List.mem_append.1 hr with hr | hr
    · exact ⟨hoff (h1.2 r hr).1, (h1.2 r hr).2⟩
    · simp at hr
      subst hr
      exact ⟨hu4, hl⟩
  · rcases hat k hkk with h | h
    · exact hv k h
    · have := hb.size
      have := hk.size
      exact .inr (by omega)
  · exact kept_then hk hk4 (fun k hkk => hv k hkk)
  · rcases List.mem_append.1 hr with hr | hr
    · exact hnw r hr k hkk
    · simp at hr
      subst hr
      have := (World.ownsRow.lt hu k hkk).1
      have := hk.size
      omega

set_option maxRecDepth 100000 in
set_option maxHeartbeats 2000000 in
theorem kappend_any {w : World} {to : Value} {rs : List RecE} (h : OwnE w 0 to rs) {lv : Value} {es : List EntM} (hp : ∀ w', Kept (fun k => to.ownBlock = some k) w w' → EntsAt w' lv es) (hn : rs.length + es.length ≤ 1000000) :
    Calls Tryz.prog 19 #[to, lv] w fun e w' => ∃ a c, e = .returned (.slice a (rs.length + es.length) c) ∧ AppE w to rs es w' (.slice a (rs.length + es.length) c) := by
  obtain ⟨A, C, rfl, _⟩ := hp w (kept_refl _ _)
  obtain ⟨n, hnn⟩ : ∃ n, n = es.length := ⟨_, rfl⟩
  obtain ⟨R, hR⟩ : ∃ R, R = rs.length := ⟨_, rfl⟩
  obtain ⟨ta, tc, rfl⟩ := own_len h.1
  rw [← hnn, ← hR] at hn hp
  rw [← hnn, ← hR]
  have H := Lib.hid h
  have HP := Lib.hid hp
  have HN := Lib.hid hnn
  have HRL := Lib.hid hR
  have HNB := Lib.hid hn
  obtain ⟨i0, hi0, hz0, hz1, hz2⟩ := info_parts Tryz.infoEntry
  have hz := zero_cells Tryz.infoEntz
  rw [← hR] at H
  clear h hp hnn hn hR
  go_enter Tryz.func19, Tryz.ntmps19
  go_wp2_with fail
  go_loopw [0, 9] (fun tv iv wr => ∃ (i : Nat) (la : Option Addr) (lc : Nat), i ≤ n ∧ iv = .int .i64 i ∧ tv = .slice la (R + i) lc ∧ Hid (AppE w (.slice ta R tc) rs (es.take i) wr (.slice la (R + i) lc))) (fun _ iv _ => n - (intOf iv).toNat)
  case atStart => exact ⟨0, ta, tc, Nat.zero_le _, rfl, rfl, Lib.hid (appE_start H.out)⟩
  case round =>
    obtain ⟨i, la, lc, hi', rfl, rfl, HR⟩ := hrel
    obtain ⟨w1, hw1⟩ : ∃ w1 : World, w1 = wr := ⟨_, rfl⟩
    subst hw1
    by_cases hlt : i < n
    · obtain ⟨x, hx⟩ : ∃ x, es[i]? = some x := ⟨_, List.getElem?_eq_getElem (by rw [← HN.out]; exact hlt)⟩
      obtain ⟨ns, hm1, hN1, hv1, hk1, hx1⟩ := HR.out
      obtain ⟨A', C', hA, hcase⟩ := HP.out w1 hk1
      injection hA with e1 e2 e3
      clear e2
      subst e1 e3
      obtain ⟨b, o, rfl, hin⟩ := hcase.resolve_left (fun e => by rw [e] at hx; simp at hx)
      obtain ⟨u, hrange, hu⟩ := hin i x hx
      obtain ⟨xi, xt, xk, xd, xm⟩ := x
      obtain ⟨ua, uc, rfl⟩ := intsAt_len hu
      dsimp only at hu hrange
      obtain ⟨M, hM⟩ : ∃ M, M = xm.length := ⟨_, rfl⟩
      rw [← hM] at hrange hu
      have d0 : w1.cell? ⟨b, o + i * 5, none⟩ = some (.int .i64 xi) := hrange 0 _ rfl
      have d1 : w1.cell? ⟨b, o + i * 5 + 1, none⟩ = some (.int .i64 xt) := hrange 1 _ rfl
      have d2 : w1.cell? ⟨b, o + i * 5 + 2, none⟩ = some (.int .i64 xk) := hrange 2 _ rfl
      have d3 : w1.cell? ⟨b, o + i * 5 + 3, none⟩ = some (.string xd) := hrange 3 _ rfl
      have d4 : w1.cell? ⟨b, o + i * 5 + 4, none⟩ = some (.slice ua M uc) := hrange 4 _ rfl
      have hy : (i : Int) < (n : Int) := by omega
      have hi1 : (i : Int) < 1000000 := by have := HNB.out; omega
      have HI := Lib.hid hlt
      have HTK := Lib.hid (show es.take (i + 1) = es.take i ++ [⟨xi, xt, xk, xd, xm⟩] from take_succ_of hx)
      have HU := Lib.hid hu
      have HM := Lib.hid hM
      have HM1 := Lib.hid hm1
      have HN1 := Lib.hid hN1
      have HV1 := Lib.hid hv1
      have HK1 := Lib.hid hk1
      have HX1 := Lib.hid hx1
      clear hx1 hrange hu hM hm1 hN1 hv1 hk1 hin hcase hx hlt hi'
      go_wp2_with (first | (refine wpList_alloc_z rfl 32 rfl #[.int .i64 0, .int .i64 0, .int .i64 0, .string ⟨#[]⟩, .slice none 0 0] hz ?_) | fail)
      have hbA : Below w1.heap.size w1 (w1.alloc (.cells #[.int .i64 xi, .int .i64 xt, .int .i64 xk, .string xd, .slice ua M uc] 32)) := below_more (Below.refl _ _) _
      have hrA : Rw (w1.alloc (.cells #[.int .i64 xi, .int .i64 xt, .int .i64 xk, .string xd, .slice ua M uc] 32)) 0 w1.heap.size 32 [.int .i64 xi, .int .i64 xt, .int .i64 xk, .string xd, .slice ua M uc] := Rw.alloc w1 _ _ (Nat.zero_le _)
      refine (kclone_any (intsAt_below HU.out hbA)).mono ?_
      rintro e w2 ⟨va, vc, rfl, ho2, hb2⟩
      rw [← HM.out] at ho2 ⊢
      have hr2 := Rw.below hrA hb2
      have hb02 := hbA.trans (hb2.mono hbA.size)
      have f4 := Rw.free hr2 4
      have e4 := Rw.cell hr2 (j := 4) rfl
      have hr3 := Rw.stored hr2 4 (.slice va M vc)
      have hb03 := hb02.setCell (p := ⟨w1.heap.size, 4, none⟩) (Nat.le_refl _) (.slice va M vc)
      have ho3 := own_store (own_mono ho2 hbA.size) hr2 (by decide) 4 (.slice va M vc)
      obtain ⟨W3, hW3⟩ : ∃ W3, W3 = w2.setCell ⟨w1.heap.size, 4, none⟩ (.slice va M vc) := ⟨_, rfl⟩
      rw [← hW3] at hr3 hb03 ho3
      have hr3' : Rw W3 0 w1.heap.size 32 [.int .i64 xi, .int .i64 xt, .int .i64 xk, .string xd, .slice va M vc] := hr3
      have g0 : (w2.setCell ⟨w1.heap.size, 4, none⟩ (.slice va M vc)).cell? ⟨w1.heap.size, 0, none⟩ = some (.int .i64 xi) := by rw [← hW3]; exact Rw.cell hr3' rfl
      have g1 : (w2.setCell ⟨w1.heap.size, 4, none⟩ (.slice va M vc)).cell? ⟨w1.heap.size, 1, none⟩ = some (.int .i64 xt) := by rw [← hW3]; exact Rw.cell hr3' rfl
      have g2 : (w2.setCell ⟨w1.heap.size, 4, none⟩ (.slice va M vc)).cell? ⟨w1.heap.size, 2, none⟩ = some (.int .i64 xk) := by rw [← hW3]; exact Rw.cell hr3' rfl
      have g3 : (w2.setCell ⟨w1.heap.size, 4, none⟩ (.slice va M vc)).cell? ⟨w1.heap.size, 3, none⟩ = some (.string xd) := by rw [← hW3]; exact Rw.cell hr3' rfl
      have g4 : (w2.setCell ⟨w1.heap.size, 4, none⟩ (.slice va M vc)).cell? ⟨w1.heap.size, 4, none⟩ = some (.slice va M vc) := by rw [← hW3]; exact Rw.cell hr3' rfl
      have HB3 := Lib.hid hb03
      have HO3 := Lib.hid ho3
      have HW3 := Lib.hid hW3
      have HMX : Hid (R + i + 1 ≤ maxLen) := Lib.hid (by have := HNB.out; unfold maxLen; omega)
      have HBT : Hid ((R + i + 1) * 64 ≤ 140737488355328) := Lib.hid (by have := HNB.out; omega)
      have HLN : Hid ((rs ++ ns).length = R + i) := Lib.hid (by
        have h1 := congrArg List.length HM1.out
        rw [List.length_map, List.length_take, ← HN.out] at h1
        have := HI.out
        rw [List.length_append, ← HRL.out]
        omega)
      have HO1 : Hid (W3.ownsRow 0 32 5 (.slice la (R + i) lc) (R + i) (rowsE (rs ++ ns))) := Lib.hid (by have := own_below HN1.out.1 hb03; rw [HLN.out] at this; exact this)
      clear hbA hrA hb2 hr2 hb02 hr3 hr3' hb03 ho3 hW3 ho2 d0 d1 d2 d3 d4
      rw [HW3.out] at HO1
      go_wp2_with (first
        | (refine wpList_load_mid rfl 32 _ rfl w1.heap.size 0 rfl [.int .i64 xi, .int .i64 xt, .int .i64 xk, .string xd, .slice va M vc] _ (fun j v hj => by match j, hj with | 0, hj => (simp at hj; subst hj; exact g0) | 1, hj => (simp at hj; subst hj; exact g1) | 2, hj => (simp at hj; subst hj; exact g2) | 3, hj => (simp at hj; subst hj; exact g3) | 4, hj => (simp at hj; subst hj; exact g4) | j + 5, hj => simp at hj) Tryz.underlying32 rfl Tryz.infoEnt ?_)
        | (refine wpList_append_lies _ rfl (.tmp 17) (.tmp 19) 39 rfl 0 32 i0 _ 5 64 Tryz.underlying39 hi0 hz0 hz1 hz2 rfl (by decide) (.slice la (R + i) lc) (R + i) (rowsE (rs ++ ns)) rfl ((HO1.out).alloc _) ⟨w2.heap.size, 0, none⟩ 1 1 [.int .i64 xi, .int .i64 xt, .int .i64 xk, .string xd, .slice va M vc] rfl rfl (World.news_of_block (by have := heap_alloc_new (w2.setCell ⟨w1.heap.size, 4, none⟩ (.slice va M vc)) (.cells #[.int .i64 xi, .int .i64 xt, .int .i64 xk, .string xd, .slice va M vc] 32); simpa using this)) (ent_cells_one _ _ _ _ _ _ _) (by decide) HMX.out HBT.out (Nat.zero_le _) (w2.heap.size + 1) (by simp) ?_; intro gg cap w4 hown4 hgrow hat hlt4; rw [← HW3.out] at hgrow; have HADD := Lib.hid (appE_add HM1.out HN1.out HV1.out HK1.out HX1.out HB3.out (e := ⟨xi, xt, xk, xd, xm⟩) (by rw [← HM.out]; exact HO3.out) HU.out.1 HLN.out.symm hown4 hgrow (fun k hk => by simp only [Value.ownBlock, Option.some.injEq] at hk; subst hk; rw [HW3.out]; simpa using hat)); clear hown4 hgrow hat hlt4)
        | fail)
      go_roundw
      case rel => exact ⟨i + 1, some ⟨gg, 0, none⟩, cap, HI.out, by go_num, rfl, Lib.hid (by rw [HTK.out]; exact HADD.out)⟩
      case measure => have := HI.out; simp [intOf]; omega
    · have hin : i = n := by omega
      have hyk : ¬ (i : Int) < (n : Int) := by omega
      have htk : es.take i = es := List.take_of_length_le (by rw [← HN.out]; omega)
      subst hin
      have HR2 := Lib.hid (show AppE w (.slice ta R tc) rs es w1 (.slice la (R + i) lc) by have := HR.out; rw [htk] at this; exact this)
      clear hlt htk hi'
      go_wp2_with fail
      go_ret
      exact ⟨la, lc, rfl, HR2.out⟩

/-- A number, seven bits a byte, the lowest first. -/
def varN (x : Nat) : List UInt8 := if x < 128 then [UInt8.ofNat x] else UInt8.ofNat (x % 128 + 128) :: varN (x / 128)
termination_by x
decreasing_by omega

theorem varN_small {x : Nat} (h : x < 128) : varN x = [UInt8.ofNat x] := by rw [varN, if_pos h]

theorem varN_big {x : Nat} (h : ¬ x < 128) : varN x = UInt8.ofNat (x % 128 + 128) :: varN (x / 128) := by rw [varN, if_neg h]

theorem varN_len : ∀ (k x : Nat), x < 128 ^ (k + 1) → (varN x).length ≤ k + 1
  | 0, x, h => by rw [varN_small (by simpa using h)]; simp
  | k + 1, x, h => by
    by_cases hx : x < 128
    · rw [varN_small hx]; simp
    · rw [varN_big hx, List.length_cons]
      have := varN_len k (x / 128) (by rw [Nat.div_lt_iff_lt_mul (by decide)]; rw [Nat.pow_succ] at h; exact h)
      omega

theorem varN_pos (x : Nat) : 0 < (varN x).length := by
  by_cases hx : x < 128
  · rw [varN_small hx]; simp
  · rw [varN_big hx]; simp

def u64N (n : Int) : Nat := (n % 18446744073709551616).toNat

theorem u64N_lt (n : Int) : u64N n < 18446744073709551616 := by unfold u64N; omega

def vnumS (n : Int) : List UInt8 := varN (u64N n)

theorem vnumS_len (n : Int) : (vnumS n).length ≤ 10 := varN_len 9 _ (Nat.lt_of_lt_of_le (u64N_lt n) (by decide))

def numsS (l : List Int) : List UInt8 := (l.map vnumS).flatten

theorem numsS_snoc (l : List Int) (x : Int) : numsS (l ++ [x]) = numsS l ++ vnumS x := by unfold numsS; simp

theorem numsS_len : ∀ l : List Int, (numsS l).length ≤ 10 * l.length
  | [] => by simp [numsS]
  | x :: r => by
    have := numsS_len r
    have h1 := vnumS_len x
    unfold numsS at this ⊢
    rw [List.map_cons, List.flatten_cons, List.length_append, List.length_cons]
    omega

/-- A writer: its block, its bytes. -/
def WrAt (w : World) (g : Nat) (v : Value) (bs : List UInt8) : Prop := Rw w 0 g 116 [v] ∧ w.ownsRow 0 5 1 v bs.length (bs.map byteV)

def WrV (w w' : World) (g : Nat) (v : Value) (bs : List UInt8) : Prop := ∃ v', WrAt w' g v' bs ∧ (∀ k, v'.ownBlock = some k → v.ownBlock = some k ∨ w.heap.size ≤ k) ∧ Kept (Foot g v) w w'

theorem wrAt_lt {w : World} {g : Nat} {v : Value} {bs : List UInt8} (h : WrAt w g v bs) {k : Nat} (hk : Foot g v k) : k < w.heap.size := by
  rcases hk with rfl | hk
  · exact Rw.size h.1
  · exact own_lt h.2 hk

theorem wrAt_below {w w' : World} {g : Nat} {v : Value} {bs : List UInt8} (h : WrAt w g v bs) (hb : Below w.heap.size w w') : WrAt w' g v bs := ⟨Rw.below h.1 hb, own_below h.2 hb⟩

theorem wrV_refl {w : World} {g : Nat} {v : Value} {bs : List UInt8} (h : WrAt w g v bs) : WrV w w g v bs := ⟨v, h, fun _ hk => .inl hk, kept_refl _ _⟩

theorem wrV_below {w w' : World} {g : Nat} {v : Value} {bs : List UInt8} (h : WrAt w g v bs) (hb : Below w.heap.size w w') : WrV w w' g v bs := ⟨v, wrAt_below h hb, fun _ hk => .inl hk, kept_below hb⟩

theorem wrV_more {w w' w'' : World} {g : Nat} {v : Value} {bs : List UInt8} (h : WrV w w' g v bs) (hb : Below w'.heap.size w' w'') : WrV w w'' g v bs := by
  obtain ⟨v', h1, h2, h3⟩ := h
  exact ⟨v', wrAt_below h1 hb, h2, kept_then (G := fun _ => False) h3 (kept_below hb) (fun _ h => h.elim)⟩

theorem wrV_of {w w' w'' : World} {g : Nat} {v : Value} {bs : List UInt8} (hb : Below w.heap.size w w') (h : WrV w' w'' g v bs) : WrV w w'' g v bs := by
  obtain ⟨v', h1, h2, h3⟩ := h
  exact ⟨v', h1, fun k hk => (h2 k hk).imp id (Nat.le_trans hb.size), kept_then (G := Foot g v) (kept_below hb) h3 (fun x hx => .inl hx)⟩

theorem wrV_then {w w1 w2 : World} {g : Nat} {v v1 : Value} {bs : List UInt8} (hv : ∀ k, v1.ownBlock = some k → v.ownBlock = some k ∨ w.heap.size ≤ k) (hk : Kept (Foot g v) w w1) (h : WrV w1 w2 g v1 bs) : WrV w w2 g v bs := by
  obtain ⟨v', h1, h2, h3⟩ := h
  refine ⟨v', h1, fun k hk2 => ?_, kept_then hk h3 (foot_next hv)⟩
  rcases h2 k hk2 with h | h
  · exact hv k h
  · exact .inr (Nat.le_trans hk.size h)

/-- The end of an append: the row has grown, and is stored. -/
theorem wr_add {w w4 : World} {g : Nat} {v v' : Value} {bs xs : List UInt8} {o : Obj} (h : WrAt w g v bs) (h4 : w4.ownsRow 0 5 1 v' (bs ++ xs).length ((bs ++ xs).map byteV)) (hg : (w.alloc o).grownBy w4 v.ownBlock) (hat : ∀ k, v'.ownBlock = some k → v.ownBlock = some k ∨ w.heap.size ≤ k) :
    WrV w (w4.setCell ⟨g, 0, none⟩ v') g v (bs ++ xs) := by
  have hgv : v.ownBlock ≠ some g := own_rw h.2 h.1 (by decide)
  have hbA := below_more (Below.refl _ w) o
  have hk4 : Kept (fun k => v.ownBlock = some k) w w4 := kept_grown (kept_below hbA) hg (fun k hk => .inl hk)
  have hr4 : Rw w4 0 g 116 [v] := rw_kept h.1 hk4 hgv
  refine ⟨v', ⟨Rw.stored hr4 0 v', own_store h4 hr4 (by decide) 0 v'⟩, hat, kept_put (kept_mono hk4 (fun k hk => .inl (.inr hk))) (.inl (.inl rfl)) 0 v'⟩

theorem wr_add0 {w w4 : World} {g : Nat} {v v' : Value} {bs xs : List UInt8} (h : WrAt w g v bs) (h4 : w4.ownsRow 0 5 1 v' (bs ++ xs).length ((bs ++ xs).map byteV)) (hg : w.grownBy w4 v.ownBlock) (hat : ∀ k, v'.ownBlock = some k → v.ownBlock = some k ∨ w.heap.size ≤ k) :
    WrV w (w4.setCell ⟨g, 0, none⟩ v') g v (bs ++ xs) := by
  have hgv : v.ownBlock ≠ some g := own_rw h.2 h.1 (by decide)
  have hk4 : Kept (fun k => v.ownBlock = some k) w w4 := kept_grown (kept_refl _ _) hg (fun k hk => .inl hk)
  have hr4 : Rw w4 0 g 116 [v] := rw_kept h.1 hk4 hgv
  refine ⟨v', ⟨Rw.stored hr4 0 v', own_store h4 hr4 (by decide) 0 v'⟩, hat, kept_put (kept_mono hk4 (fun k hk => .inl (.inr hk))) (.inl (.inl rfl)) 0 v'⟩

theorem byte_one (c : UInt8) : ∀ u ∈ [byteV c], u.oneCell' = true := fun u hu => by simp at hu; subst hu; rfl

theorem u64_wrap (x : Int) : IntKind.u64.wrap x = ((u64N x : Nat) : Int) := by
  unfold u64N
  show x % 18446744073709551616 = _
  omega

theorem or128_fin : ∀ y : Fin 256, (y.val ||| 128) = y.val % 128 + 128 := by decide +kernel

theorem or128 (X : Nat) (h : X < 18446744073709551616) : bits .or .u64 (X : Int) 128 % 256 = ((UInt8.ofNat (X % 128 + 128)).toNat : Int) := by
  have hx : (BitVec.ofInt 64 (X : Int)).toNat = X := by
    rw [BitVec.ofInt_natCast, BitVec.toNat_ofNat]
    exact Nat.mod_eq_of_lt h
  have h128 : (BitVec.ofInt 64 (128 : Int)).toNat = 128 := by decide
  have key : bits .or .u64 (X : Int) 128 = IntKind.u64.wrap (((X ||| 128 : Nat) : Int)) := by
    show IntKind.u64.wrap _ = _
    show IntKind.u64.wrap (((BitVec.ofInt 64 (X : Int)).toNat ||| (BitVec.ofInt 64 (128 : Int)).toNat : Nat) : Int) = _
    rw [hx, h128]
  have hor : X ||| 128 < 18446744073709551616 := Nat.or_lt_two_pow (n := 64) h (by decide)
  rw [key]
  have hw : IntKind.u64.wrap (((X ||| 128 : Nat) : Int)) = ((X ||| 128 : Nat) : Int) := by
    show ((X ||| 128 : Nat) : Int) % 18446744073709551616 = _
    omega
  have hm : (X ||| 128) % 256 = X % 128 + 128 := by
    have h1 : (X ||| 128) % 2 ^ 8 = X % 2 ^ 8 ||| 128 % 2 ^ 8 := Nat.or_mod_two_pow
    have h2 := or128_fin ⟨X % 256, Nat.mod_lt _ (by decide)⟩
    simp only at h2
    rw [show (256 : Nat) = 2 ^ 8 by decide, h1]
    show X % 256 ||| 128 = _
    rw [h2]
    omega
  rw [hw, UInt8.toNat_ofNat']
  omega

def VarR (w wr : World) (g : Nat) (v : Value) (bs : List UInt8) (X0 X : Nat) : Prop := ∃ cur, WrV w wr g v cur ∧ cur ++ varN X = bs ++ varN X0

theorem num_one (k : IntKind) (n : Int) : ∀ u ∈ [Value.int k n], u.oneCell' = true := fun u hu => by simp at hu; subst hu; rfl

set_option maxRecDepth 100000 in
set_option maxHeartbeats 2000000 in
theorem knumbers_any {w : World} {g : Nat} {v : Value} {bs : List UInt8} (h : WrAt w g v bs) {lv : Value} {l : List Int} (hp : ∀ w', Kept (Foot g v) w w' → IntsAt w' lv l) (hn : bs.length + 10 * l.length ≤ 1099511627776) :
    Calls Tryz.prog 124 #[.pointer (some ⟨g, 0, none⟩), lv] w fun e w' => e = .returned (.tuple #[]) ∧ WrV w w' g v (bs ++ numsS l) := by
  obtain ⟨A, C, rfl⟩ := intsAt_len (hp w (kept_refl _ _))
  obtain ⟨n, hnn⟩ : ∃ n, n = l.length := ⟨_, rfl⟩
  rw [← hnn] at hn hp
  rw [← hnn]
  have H := Lib.hid h
  have HP := Lib.hid hp
  have HN := Lib.hid hnn
  have HNB := Lib.hid hn
  obtain ⟨i0, hi0, hz0, hz1, hz2⟩ := info_parts Tryz.infoByte
  clear h hp hnn hn
  go_enter Tryz.func124, Tryz.ntmps124
  go_wp2_with fail
  go_loopw [9] (fun iv wr => ∃ (i : Nat), i ≤ n ∧ iv = .int .i64 i ∧ Hid (WrV w wr g v (bs ++ numsS (l.take i)))) (fun iv _ => n - (intOf iv).toNat)
  case atStart => exact ⟨0, Nat.zero_le _, rfl, Lib.hid (by have := wrV_refl H.out; simpa [numsS] using this)⟩
  case round =>
    obtain ⟨i, hi', rfl, HR⟩ := hrel
    obtain ⟨w1, hw1⟩ : ∃ w1 : World, w1 = wr := ⟨_, rfl⟩
    subst hw1
    by_cases hlt : i < n
    · obtain ⟨x, hx⟩ : ∃ x, l[i]? = some x := ⟨_, List.getElem?_eq_getElem (by rw [← HN.out]; exact hlt)⟩
      obtain ⟨v1, hN1, hv1, hk1⟩ := HR.out
      have hcell : ∃ b o, A = some ⟨b, o, none⟩ ∧ w1.cell? ⟨b, o + i, none⟩ = some (.int .i64 x) := by
        have h1 := HP.out w1 hk1
        rcases h1.2 with ⟨_, h2⟩ | ⟨ad, c, hv, h2⟩
        · rw [h2] at hx; simp at hx
        · rcases h2 with h2 | ⟨b, o, rfl, h2⟩
          · rw [h2] at hx; simp at hx
          · injection hv with e1 _ _
            exact ⟨b, o, e1, h2 i x hx⟩
      obtain ⟨b, o, rfl, d0⟩ := hcell
      have hy : (i : Int) < (n : Int) := by omega
      have hi1 : (i : Int) < 1000000 := by have h1 := (HP.out w (kept_refl _ _)).1; have := HN.out; omega
      have HI := Lib.hid hlt
      have HTK := Lib.hid (show l.take (i + 1) = l.take i ++ [x] from take_succ_of hx)
      have HN1 := Lib.hid hN1
      have HV1 := Lib.hid hv1
      have HK1 := Lib.hid hk1
      clear hN1 hv1 hk1 hx hlt hi'
      go_wp2_with fail
      rw [show IntKind.u64.wrap x = ((u64N x : Nat) : Int) from u64_wrap x]
      obtain ⟨X0, hX0⟩ : ∃ X0, X0 = u64N x := ⟨_, rfl⟩
      rw [← hX0]
      have HX0 := Lib.hid hX0
      obtain ⟨w2, hw2⟩ : ∃ w2 : World, w2 = w1 := ⟨_, rfl⟩
      rw [← hw2]
      have HR1 : Hid (VarR w w2 g v (bs ++ numsS (l.take i)) X0 X0) := Lib.hid ⟨bs ++ numsS (l.take i), by rw [hw2]; exact HR.out, rfl⟩
      have hX64 : X0 < 18446744073709551616 := by rw [hX0]; exact u64N_lt x
      have HX64 := Lib.hid hX64
      clear hX0 hw2 hX64 d0
      go_loopw [6] (fun xv wr => ∃ X : Nat, xv = .int .u64 X ∧ Hid (X ≤ X0) ∧ Hid (VarR w wr g v (bs ++ numsS (l.take i)) X0 X)) (fun xv _ => (intOf xv).toNat)
      case atStart => exact ⟨X0, rfl, Lib.hid (Nat.le_refl _), HR1⟩
      case round =>
        obtain ⟨X, rfl, HXL, HVR⟩ := hrel
        obtain ⟨w3, hw3⟩ : ∃ w3 : World, w3 = wr := ⟨_, rfl⟩
        subst hw3
        obtain ⟨cur, ⟨v3, hN3, hv3, hk3⟩, hcur⟩ := HVR.out
        obtain ⟨va3, vc3, rfl⟩ := own_len hN3.2
        obtain ⟨L, hL⟩ : ∃ L, L = cur.length := ⟨_, rfl⟩
        rw [← hL] at hN3 hv3
        have cg : w3.cell? ⟨g, 0, none⟩ = some (.slice va3 L vc3) := Rw.cell hN3.1 rfl
        have fg := Rw.free hN3.1 0
        by_cases hsm : X < 128
        · have hsm2 : decide ((128 : Int) ≤ (X : Int)) = false := decide_eq_false (by omega)
          have hn3 : (X : Int) < 128 := by omega
          obtain ⟨c, hc⟩ : ∃ c, c = UInt8.ofNat X := ⟨_, rfl⟩
          have HCX : Hid ((X : Int) = (c.toNat : Int)) := Lib.hid (by rw [hc, UInt8.toNat_ofNat']; omega)
          have HC := Lib.hid hc
          have HN3 := Lib.hid hN3
          have HV3 := Lib.hid hv3
          have HK3 := Lib.hid hk3
          have HL := Lib.hid hL
          have HCU : Hid (cur.length + (varN X).length = (bs ++ numsS (l.take i)).length + (varN X0).length) := Lib.hid (by have := congrArg List.length hcur; rw [List.length_append, List.length_append] at this; exact this)
          have HCR := Lib.hid hcur
          have HLB : Hid (L + 1 ≤ 1099511627776) := Lib.hid (by
            have h1 := HCU.out
            have h2 := varN_pos X
            have h3 := numsS_len (l.take i)
            have h4 := varN_len 9 X0 (Nat.lt_of_lt_of_le HX64.out (by decide))
            have h5 := HNB.out
            have h6 := HI.out
            rw [List.length_take] at h3
            rw [List.length_append] at h1
            omega)
          have HMX : Hid (L + 1 ≤ maxLen) := Lib.hid (by have := HLB.out; unfold maxLen; omega)
          have HBT : Hid ((L + 1) * 1 ≤ 140737488355328) := Lib.hid (by have := HLB.out; omega)
          have HO3 : Hid (w3.ownsRow 0 5 1 (.slice va3 L vc3) L (cur.map byteV)) := Lib.hid (by have := hN3.2; rw [← hL] at this; exact this)
          have HSM := Lib.hid hsm
          clear hc hN3 hv3 hk3 hL hcur hsm
          go_wp2_with (first
            | (refine wpList_append_lies _ rfl (.tmp 35) (.tmp 38) 29 rfl 0 5 i0 (.int .u8 0) 1 1 Tryz.underlying29 hi0 hz0 hz1 hz2 rfl (by decide) (.slice va3 L vc3) L (cur.map byteV) rfl (HO3.out.alloc _) ⟨w3.heap.size, 0, none⟩ 1 1 [.int .u8 (X : Int)] rfl rfl (World.news_of_block (heap_alloc_new w3 _)) (num_one _ _) (by decide) HMX.out HBT.out (Nat.zero_le _) (w3.heap.size + 1) (by simp) ?_; intro gg cap w4 hown4 hgrow hat hlt4; have hr4 := rw_kept HN3.out.1 (kept_grown (kept_below (below_more (Below.refl _ _) _)) hgrow (fun k hk => .inl hk)) (own_rw HO3.out HN3.out.1 (by decide)); have hc4 := Rw.cell hr4 (j := 0) rfl; have hf4 := Rw.free hr4 0; have HG4 := Lib.hid hgrow; have HO4 := Lib.hid hown4; have HAT := Lib.hid hat; clear hr4 hown4 hgrow hat hlt4 cg fg)
            | fail)
          go_roundw
          case rel =>
            refine ⟨i + 1, HI.out, by go_num, Lib.hid ?_⟩
            have h5 := HCR.out
            rw [varN_small HSM.out, ← HC.out] at h5
            have h6 : bs ++ numsS (l.take (i + 1)) = cur ++ [c] := by
              rw [HTK.out, numsS_snoc, ← List.append_assoc, h5, HX0.out]
              rfl
            rw [h6]
            have h4 : w4.ownsRow 0 5 1 (.slice (some ⟨gg, 0, none⟩) (L + 1) cap) (cur ++ [c]).length ((cur ++ [c]).map byteV) := by
              have h7 := HO4.out
              rw [HCX.out] at h7
              rw [List.length_append, List.map_append, ← HL.out]
              exact h7
            exact wrV_then HV3.out HK3.out (wr_add HN3.out h4 HG4.out (fun k hk => by
              simp only [Value.ownBlock, Option.some.injEq] at hk
              subst hk
              exact HAT.out.imp id (fun h => by omega)))
          case measure => have := HI.out; simp [intOf]; omega
        · have hsm2 : decide ((128 : Int) ≤ (X : Int)) = true := decide_eq_true (by omega)
          have hn3 : (128 : Int) ≤ (X : Int) := by omega
          obtain ⟨c, hc⟩ : ∃ c, c = UInt8.ofNat (X % 128 + 128) := ⟨_, rfl⟩
          have hbo : bits BinOp.or IntKind.u64 (X : Int) 128 % 256 = (c.toNat : Int) := by rw [hc]; exact or128 X (Nat.lt_of_le_of_lt HXL.out HX64.out)
          have HC := Lib.hid hc
          have HN3 := Lib.hid hN3
          have HV3 := Lib.hid hv3
          have HK3 := Lib.hid hk3
          have HL := Lib.hid hL
          have HCU : Hid (cur.length + (varN X).length = (bs ++ numsS (l.take i)).length + (varN X0).length) := Lib.hid (by have := congrArg List.length hcur; rw [List.length_append, List.length_append] at this; exact this)
          have HCR := Lib.hid hcur
          have HLB : Hid (L + 1 ≤ 1099511627776) := Lib.hid (by
            have h1 := HCU.out
            have h2 := varN_pos X
            have h3 := numsS_len (l.take i)
            have h4 := varN_len 9 X0 (Nat.lt_of_lt_of_le HX64.out (by decide))
            have h5 := HNB.out
            have h6 := HI.out
            rw [List.length_take] at h3
            rw [List.length_append] at h1
            omega)
          have HMX : Hid (L + 1 ≤ maxLen) := Lib.hid (by have := HLB.out; unfold maxLen; omega)
          have HBT : Hid ((L + 1) * 1 ≤ 140737488355328) := Lib.hid (by have := HLB.out; omega)
          have HO3 : Hid (w3.ownsRow 0 5 1 (.slice va3 L vc3) L (cur.map byteV)) := Lib.hid (by have := hN3.2; rw [← hL] at this; exact this)
          clear hc hN3 hv3 hk3 hL hcur hsm
          go_wp2_with (first
            | (refine wpList_append_lies _ rfl (.tmp 23) (.tmp 27) 29 rfl 0 5 i0 (.int .u8 0) 1 1 Tryz.underlying29 hi0 hz0 hz1 hz2 rfl (by decide) (.slice va3 L vc3) L (cur.map byteV) rfl (HO3.out.alloc _) ⟨w3.heap.size, 0, none⟩ 1 1 [byteV c] rfl rfl (World.news_of_block (heap_alloc_new w3 _)) (byte_one c) (by decide) HMX.out HBT.out (Nat.zero_le _) (w3.heap.size + 1) (by simp) ?_; intro gg cap w4 hown4 hgrow hat hlt4; have hr4 := rw_kept HN3.out.1 (kept_grown (kept_below (below_more (Below.refl _ _) _)) hgrow (fun k hk => .inl hk)) (own_rw HO3.out HN3.out.1 (by decide)); have hc4 := Rw.cell hr4 (j := 0) rfl; have hf4 := Rw.free hr4 0; have HG4 := Lib.hid hgrow; have HO4 := Lib.hid hown4; have HAT := Lib.hid hat; clear hr4 hown4 hgrow hat hlt4 cg fg)
            | fail)
          go_roundw
          case rel =>
            refine ⟨X / 128, by rw [show ((X / 128 : Nat) : Int) = (X : Int) / 128 by omega], Lib.hid (by have := HXL.out; omega), Lib.hid ⟨cur ++ [c], wrV_then HV3.out HK3.out ?_, ?_⟩⟩
            · have h4 : w4.ownsRow 0 5 1 (.slice (some ⟨gg, 0, none⟩) (L + 1) cap) (cur ++ [c]).length ((cur ++ [c]).map byteV) := by
                rw [List.length_append, List.map_append, ← HL.out]
                exact HO4.out
              exact wr_add HN3.out h4 HG4.out (fun k hk => by
                simp only [Value.ownBlock, Option.some.injEq] at hk
                subst hk
                exact HAT.out.imp id (fun h => by omega))
            · have h5 := HCR.out
              rw [varN_big (by omega : ¬ X < 128), ← HC.out] at h5
              rw [List.append_assoc]
              exact h5
          case measure => simp [intOf]; omega
    · have hin : i = n := by omega
      have hyk : ¬ (i : Int) < (n : Int) := by omega
      have htk : l.take i = l := List.take_of_length_le (by rw [← HN.out]; omega)
      have HR2 := Lib.hid (show WrV w w1 g v (bs ++ numsS l) by have := HR.out; rw [htk] at this; exact this)
      clear hlt htk hi' hin
      go_wp2_with fail
      go_end0
      exact ⟨rfl, HR2.out⟩

/-- append(b, s...) of a text: where the row lies. -/
theorem wpList_append_text {P : Program} {w : World} {ops : Array Oper} {rest : List Oper} {o : Oper} {a : Act} {Q : Exit → Act → World → Prop} (hgd : o.guard = none) (sl x : Operand) (t u : TypeId)
    (ho : o.op = .call { callee := .builtin .append, args := #[sl, x], argTypes := #[t, u] })
    (e : TypeId) (i : TypeInfo) (ht : P.underlying t = some (.slice e)) (hu : P.underlying u = some .string) (hi : P.info? e = some i) (hz : i.zero = some (.int .u8 0))
    (hsize : i.size = 1) (hby : i.bytes = 1)
    (v : Value) (n : Nat) (xs : List Value) (hs : a.eval sl = v) (hown : w.ownsRow 0 e 1 v n xs) (s : ByteArray) (hx : a.eval x = .string s)
    (hbytes : n + s.size ≤ 140737488355328)
    (h : ∀ v' w', w'.ownsRow 0 e 1 v' (n + s.size) (xs ++ Lib.strCells s) → w.grownBy w' v.ownBlock → (∀ k, v'.ownBlock = some k → v.ownBlock = some k ∨ w.heap.size ≤ k) → wpList P ops Q rest (a.put o.dst v') w') : wpList P ops Q (o :: rest) a w := by
  refine wpList_plain hgd fun K hK => ?_
  obtain ⟨v', w', hr, h2, h3, h4⟩ := Lib.run_append_own_string (P := P) w 0 t u o.type e i ht hu hi hz hsize hby v n xs hown s (by unfold maxLen; omega) hbytes (Nat.zero_le _)
  have hxl : xs.length = n := by simpa using hown.1
  have hat : ∀ k, v'.ownBlock = some k → v.ownBlock = some k ∨ w.heap.size ≤ k := fun k hk => by
    rcases hown.2 with ⟨rfl, rfl⟩ | ⟨g, cap, cur, rfl, hbg, hg, hnc, hcm, hcs, htake⟩
    · by_cases hm : s.size = 0
      · rw [h4.2 ⟨rfl, hm⟩] at hk
        simp [Value.ownBlock] at hk
      · have hr2 := run_append_nil_string (P := P) w t u o.type e i (.int .u8 0) ht hu hi hz s (by omega) (by omega) (by rw [hby]; omega)
        rw [hr] at hr2
        injection hr2 with e1 _
        rw [e1] at hk
        simp [Value.ownBlock] at hk
        exact .inr (by omega)
    · by_cases hroom : n + s.size ≤ cap
      · have hcs' : cur.size = cap := by simpa using hcs
        have hr2 := Lib.run_append_room_string (P := P) w t u o.type e i ht hu hi hsize g n cap cur hg s hroom (by omega)
        rw [hr] at hr2
        injection hr2 with e1 _
        rw [e1] at hk
        exact .inl hk
      · have holds : ∀ j u, xs[j]? = some u → w.cell? ((⟨g, 0, none⟩ : Addr).add j) = some u := World.ownsRow.cells hown (g := g) rfl
        have hr2 := Lib.run_append_grow_string (P := P) w t u o.type e i (.int .u8 0) ht hu hi hz ⟨g, 0, none⟩ n cap xs (by rw [hsize]; simpa using hxl) holds s (by omega) (by omega) (by rw [hby]; exact growslice_fits (by omega) (by omega))
        rw [hr] at hr2
        injection hr2 with e1 _
        rw [e1] at hk
        simp [Value.ownBlock] at hk
        exact .inr (by omega)
  unfold Oper.wp execOp
  simp only [ho, resolve, invoke, builtin, Sem.run_bind, Sem.run_pure, Result.andThen_ok, List.map_toArray, List.map_cons, List.map_nil, hs, hx, hr]
  exact hK _ _ (h v' w' h2 h3 hat)

def textS (d : ByteArray) : List UInt8 := vnumS d.size ++ d.data.toList

def listS (l : List Int) : List UInt8 := vnumS l.length ++ numsS l

def entS (e : EntM) : List UInt8 := numsS [e.tm, e.kd] ++ textS e.d ++ listS e.ms

theorem numsS_one (n : Int) : numsS [n] = vnumS n := by unfold numsS; simp

theorem textS_len (d : ByteArray) : (textS d).length ≤ 10 + d.size := by
  unfold textS
  rw [List.length_append, size_data]
  have := vnumS_len d.size
  omega

theorem listS_len (l : List Int) : (listS l).length ≤ 10 + 10 * l.length := by
  unfold listS
  rw [List.length_append]
  have := vnumS_len l.length
  have := numsS_len l
  omega

theorem entS_len (e : EntM) : (entS e).length ≤ 40 + e.d.size + 10 * e.ms.length := by
  unfold entS
  rw [List.length_append, List.length_append]
  have h1 := numsS_len [e.tm, e.kd]
  have h2 := textS_len e.d
  have h3 := listS_len e.ms
  simp only [List.length_cons, List.length_nil] at h1
  omega

/-- A literal of numbers. -/
theorem ints_lit {w w' : World} {F : Nat → Prop} {l : List Int} {e2 : TypeId} {f2 : Nat × Nat} {cs : Array Value} {b n c : Nat} (hb : b = w.heap.size) (hn : n = l.length) (hl : l.length ≤ 1000000) (hcs : cs.toList = l.map kiV) (hF : ∀ k, F k → k < w.heap.size) (hk : Kept F (w.alloc (.cells cs e2 f2)) w') : IntsAt w' (.slice (some ⟨b, 0, none⟩) n c) l := by
  subst hb hn
  refine ⟨hl, .inr ⟨_, c, rfl, .inr ⟨w.heap.size, 0, rfl, fun j x hj => ?_⟩⟩⟩
  have hblk := heap_alloc_new w (.cells cs e2 f2)
  have h2 := (hk.blk w.heap.size (by simp) (fun h => by have := hF _ h; omega)).trans hblk
  rw [Nat.zero_add, cell_of_row _ _ _ _ e2 f2 h2]
  have h3 : (l.map kiV)[j]? = some (kiV x) := by rw [List.getElem?_map, hj]; rfl
  rw [← hcs] at h3
  simpa using h3

set_option maxHeartbeats 1000000 in
theorem ktext_any {w : World} {g : Nat} {v : Value} {bs : List UInt8} (h : WrAt w g v bs) (d : ByteArray) (hn : bs.length + d.size ≤ 1000000000) :
    Calls Tryz.prog 127 #[.pointer (some ⟨g, 0, none⟩), .string d] w fun e w' => e = .returned (.tuple #[]) ∧ WrV w w' g v (bs ++ textS d) := by
  have hbA : Below w.heap.size w (w.alloc (.cells #[.int .i64 d.size] 3)) := below_more (Below.refl _ _) _
  have HNM := Lib.hid (knumbers_any (wrAt_below h hbA) (l := [(d.size : Int)]) (lv := .slice (some ⟨w.heap.size, 0, none⟩) 1 1) (fun w' hk => ints_lit rfl rfl (by simp) rfl (fun k hk2 => wrAt_lt h hk2) hk) (by simp; omega))
  have HBA := Lib.hid hbA
  have HN := Lib.hid hn
  obtain ⟨i0, hi0, hz0, hz1, hz2⟩ := info_parts Tryz.infoByte
  clear hbA h hn
  rw [numsS_one] at HNM
  go_enter Tryz.func127, Tryz.ntmps127
  go_wp2_with fail
  refine (HNM.out).mono ?_
  rintro e w1 ⟨rfl, hv1⟩
  obtain ⟨v1, hN1, hf1, hk1⟩ := wrV_of HBA.out hv1
  obtain ⟨va, vc, rfl⟩ := own_len hN1.2
  obtain ⟨L, hL⟩ : ∃ L, L = (bs ++ vnumS d.size).length := ⟨_, rfl⟩
  rw [← hL] at hN1 hf1
  have cg : w1.cell? ⟨g, 0, none⟩ = some (.slice va L vc) := Rw.cell hN1.1 rfl
  have fg := Rw.free hN1.1 0
  have HBT : Hid (L + d.size ≤ 140737488355328) := Lib.hid (by rw [hL, List.length_append]; have := vnumS_len d.size; have := HN.out; omega)
  have HN1 := Lib.hid hN1
  have HF1 := Lib.hid hf1
  have HK1 := Lib.hid hk1
  have HL := Lib.hid hL
  have HO1 : Hid (w1.ownsRow 0 5 1 (.slice va L vc) L ((bs ++ vnumS d.size).map byteV)) := Lib.hid (by have := hN1.2; rw [← hL] at this; exact this)
  clear hv1 hN1 hf1 hk1 hL
  go_wp2_with (first
    | (refine wpList_append_text rfl (.tmp 13) (.tmp 14) 29 9 rfl 5 i0 Tryz.underlying29 Tryz.underlying9 hi0 hz0 hz1 hz2 (.slice va L vc) L _ rfl HO1.out d rfl HBT.out ?_; intro v4 w4 hown4 hgrow hat; obtain ⟨va4, vc4, rfl⟩ := own_len hown4; have hr4 := rw_kept HN1.out.1 (kept_grown (kept_refl _ _) hgrow (fun k hk => .inl hk)) (own_rw HO1.out HN1.out.1 (by decide)); have hc4 := Rw.cell hr4 (j := 0) rfl; have hf4 := Rw.free hr4 0; have HG4 := Lib.hid hgrow; have HO4 := Lib.hid hown4; have HAT := Lib.hid hat; clear hr4 hown4 hgrow hat cg fg)
    | fail)
  go_end0
  refine ⟨rfl, ?_⟩
  have h4 : w4.ownsRow 0 5 1 (.slice va4 (L + d.size) vc4) (bs ++ vnumS d.size ++ d.data.toList).length ((bs ++ vnumS d.size ++ d.data.toList).map byteV) := by
    rw [List.length_append, List.map_append, ← HL.out, size_data]
    exact HO4.out
  have h5 := wrV_then HF1.out HK1.out (wr_add0 HN1.out h4 HG4.out HAT.out)
  unfold textS
  rw [← List.append_assoc]
  exact h5

theorem kept_next {w w1 w' : World} {g : Nat} {v v1 : Value} (hf : ∀ k, v1.ownBlock = some k → v.ownBlock = some k ∨ w.heap.size ≤ k) (hk : Kept (Foot g v) w w1) (hk1 : Kept (Foot g v1) w1 w') : Kept (Foot g v) w w' := kept_then hk hk1 (foot_next hf)

set_option maxHeartbeats 1000000 in
theorem klist_any {w : World} {g : Nat} {v : Value} {bs : List UInt8} (h : WrAt w g v bs) {lv : Value} {l : List Int} (hp : ∀ w', Kept (Foot g v) w w' → IntsAt w' lv l) (hn : bs.length ≤ 1000000000) :
    Calls Tryz.prog 128 #[.pointer (some ⟨g, 0, none⟩), lv] w fun e w' => e = .returned (.tuple #[]) ∧ WrV w w' g v (bs ++ listS l) := by
  have hl := (hp w (kept_refl _ _)).1
  obtain ⟨A, C, rfl⟩ := intsAt_len (hp w (kept_refl _ _))
  obtain ⟨n, hnn⟩ : ∃ n, n = l.length := ⟨_, rfl⟩
  rw [← hnn] at hp ⊢
  have hbA : Below w.heap.size w (w.alloc (.cells #[.int .i64 n] 3)) := below_more (Below.refl _ _) _
  have HNM := Lib.hid (knumbers_any (wrAt_below h hbA) (l := [(n : Int)]) (lv := .slice (some ⟨w.heap.size, 0, none⟩) 1 1) (fun w' hk => ints_lit rfl rfl (by simp) rfl (fun k hk2 => wrAt_lt h hk2) hk) (by simp; omega))
  have HBA := Lib.hid hbA
  have HN := Lib.hid hn
  have HP := Lib.hid hp
  have HNN := Lib.hid hnn
  have HL := Lib.hid hl
  clear hbA h hn hp hnn hl
  rw [numsS_one] at HNM
  go_enter Tryz.func128, Tryz.ntmps128
  go_wp2_with fail
  refine (HNM.out).mono ?_
  rintro e w1 ⟨rfl, hv1⟩
  obtain ⟨v1, hN1, hf1, hk1⟩ := wrV_of HBA.out hv1
  have HNM2 := Lib.hid (knumbers_any hN1 (fun w' hk => HP.out w' (kept_next hf1 hk1 hk)) (by rw [List.length_append]; have := vnumS_len n; have := HN.out; have := HL.out; omega))
  have HF1 := Lib.hid hf1
  have HK1 := Lib.hid hk1
  clear hv1 hN1 hf1 hk1 HNM
  go_wp2_with fail
  refine (HNM2.out).mono ?_
  rintro e w2 ⟨rfl, hv2⟩
  have HE := Lib.hid (wrV_then HF1.out HK1.out hv2)
  clear hv2
  go_wp2_with fail
  go_end0
  refine ⟨rfl, ?_⟩
  unfold listS
  rw [← List.append_assoc, ← HNN.out]
  exact HE.out

set_option maxHeartbeats 1000000 in
theorem kentry_any {w : World} {g : Nat} {v : Value} {bs : List UInt8} (h : WrAt w g v bs) (e : EntM) {u : Value} (hp : ∀ w', Kept (Foot g v) w w' → IntsAt w' u e.ms) (hn : bs.length + e.d.size ≤ 900000000) :
    Calls Tryz.prog 125 #[.pointer (some ⟨g, 0, none⟩), .agg #[.int .i64 e.ix, .int .i64 e.tm, .int .i64 e.kd, .string e.d, u]] w fun en w' => en = .returned (.tuple #[]) ∧ WrV w w' g v (bs ++ entS e) := by
  obtain ⟨xi, xt, xk, xd, xm⟩ := e
  obtain ⟨A, C, rfl⟩ := intsAt_len (hp w (kept_refl _ _))
  dsimp only at hp hn ⊢
  obtain ⟨n, hnn⟩ : ∃ n, n = xm.length := ⟨_, rfl⟩
  rw [← hnn] at hp ⊢
  have hbA : Below w.heap.size w (w.alloc (.cells #[.int .i64 xi, .int .i64 xt, .int .i64 xk, .string xd, .slice A n C] 32)) := below_more (Below.refl _ _) _
  have hrA : Rw (w.alloc (.cells #[.int .i64 xi, .int .i64 xt, .int .i64 xk, .string xd, .slice A n C] 32)) 0 w.heap.size 32 [.int .i64 xi, .int .i64 xt, .int .i64 xk, .string xd, .slice A n C] := Rw.alloc w _ _ (Nat.zero_le _)
  have hNA := wrAt_below h hbA
  have hbB := below_more (Below.refl _ (w.alloc (.cells #[.int .i64 xi, .int .i64 xt, .int .i64 xk, .string xd, .slice A n C] 32))) (.cells #[.int .i64 xt, .int .i64 xk] 3)
  have HNM := Lib.hid (knumbers_any (wrAt_below hNA hbB) (l := [xt, xk]) (lv := .slice (some ⟨w.heap.size + 1, 0, none⟩) 2 2) (fun w' hk => ints_lit (by simp) rfl (by simp) rfl (fun k hk2 => wrAt_lt hNA hk2) hk) (by simp; omega))
  have HBB := Lib.hid (below_then hbA hbB)
  have HRB := Lib.hid (Rw.below hrA hbB)
  have HGW : Hid (¬ w.heap.size = g) := Lib.hid (fun e => by have := Rw.size h.1; omega)
  have HOFF : Hid (¬ Foot g v w.heap.size) := Lib.hid (fun hf => by have := wrAt_lt h hf; omega)
  have HN := Lib.hid hn
  have HP := Lib.hid hp
  clear hbA hrA hNA hbB h hn hp hnn
  go_enter Tryz.func125, Tryz.ntmps125
  go_wp2_with fail
  refine (HNM.out).mono ?_
  rintro e w1 ⟨rfl, hv1⟩
  have hr1 : Rw w1 0 w.heap.size 32 [.int .i64 xi, .int .i64 xt, .int .i64 xk, .string xd, .slice A n C] := by
    obtain ⟨_, _, _, hk⟩ := hv1
    exact rw_kept HRB.out hk HOFF.out
  obtain ⟨v1, hN1, hf1, hk1⟩ := wrV_of HBB.out hv1
  have c3 := Rw.cell hr1 (j := 3) rfl
  have HTX := Lib.hid (ktext_any hN1 xd (by rw [List.length_append]; have := numsS_len [xt, xk]; simp only [List.length_cons, List.length_nil] at this; have := HN.out; omega))
  have HR1 := Lib.hid hr1
  have HF1 := Lib.hid hf1
  have HK1 := Lib.hid hk1
  have HOF1 : Hid (¬ Foot g v1 w.heap.size) := Lib.hid (fun hf => hf.elim (fun e => HGW.out e) (fun hk => own_rw hN1.2 hr1 (by decide) hk))
  clear hv1 hr1 hN1 hf1 hk1 HNM
  go_wp2_with fail
  refine (HTX.out).mono ?_
  rintro e w2 ⟨rfl, hv2⟩
  have hr2 : Rw w2 0 w.heap.size 32 [.int .i64 xi, .int .i64 xt, .int .i64 xk, .string xd, .slice A n C] := by
    obtain ⟨_, _, _, hk⟩ := hv2
    exact rw_kept HR1.out hk HOF1.out
  obtain ⟨v2, hN2, hf2, hk2⟩ := wrV_then HF1.out HK1.out hv2
  have c4 := Rw.cell hr2 (j := 4) rfl
  have HLS := Lib.hid (klist_any hN2 (fun w' hk => HP.out w' (kept_next hf2 hk2 hk)) (by
    rw [List.length_append, List.length_append]
    have h1 := numsS_len [xt, xk]
    have h2 := textS_len xd
    simp only [List.length_cons, List.length_nil] at h1
    have := HN.out
    omega))
  have HF2 := Lib.hid hf2
  have HK2 := Lib.hid hk2
  clear hv2 hr2 hN2 hf2 hk2 HTX c3
  go_wp2_with fail
  refine (HLS.out).mono ?_
  rintro e w3 ⟨rfl, hv3⟩
  have HE := Lib.hid (wrV_then HF2.out HK2.out hv3)
  clear hv3 c4
  go_wp2_with fail
  go_end0
  refine ⟨rfl, ?_⟩
  have h9 := HE.out
  unfold entS
  rw [← List.append_assoc, ← List.append_assoc]
  exact h9

inductive ChM where
  | vote (t v : Int)
  | app (l : List EntM)
  | cut (i : Int)
  | snap (s : SnpM)

def entsS (l : List EntM) : List UInt8 := (l.map entS).flatten

theorem entsS_snoc (l : List EntM) (e : EntM) : entsS (l ++ [e]) = entsS l ++ entS e := by unfold entsS; simp

def headIx : List EntM → Int
  | [] => 0
  | e :: _ => e.ix

def writeS : ChM → List UInt8
  | .vote t v => numsS [1, t, v]
  | .app l => numsS [2, headIx l, l.length] ++ entsS l
  | .cut i => numsS [3, i]
  | .snap s => numsS [4, s.ix, s.tm] ++ listS s.ms ++ textS s.d

def szE (e : EntM) : Nat := 40 + e.d.size + 10 * e.ms.length

def szEs (l : List EntM) : Nat := (l.map szE).sum

theorem szEs_app (a b : List EntM) : szEs (a ++ b) = szEs a + szEs b := by unfold szEs; simp

theorem szEs_take (l : List EntM) (k : Nat) : szEs (l.take k) ≤ szEs l := by
  have h := szEs_app (l.take k) (l.drop k)
  rw [List.take_append_drop] at h
  omega

theorem szEs_mem : ∀ {l : List EntM} {e : EntM}, e ∈ l → szE e ≤ szEs l
  | x :: r, e, h => by
    have h1 : szEs (x :: r) = szE x + szEs r := by unfold szEs; simp
    rcases List.mem_cons.1 h with rfl | h
    · omega
    · have := szEs_mem h
      omega

theorem entsS_len : ∀ l : List EntM, (entsS l).length ≤ szEs l
  | [] => by simp [entsS]
  | x :: r => by
    have h1 : szEs (x :: r) = szE x + szEs r := by unfold szEs; simp
    have h2 : entsS (x :: r) = entS x ++ entsS r := by unfold entsS; simp
    have h3 := entS_len x
    have h4 := entsS_len r
    rw [h2, List.length_append, h1]
    unfold szE at *
    omega

def szCh : ChM → Nat
  | .vote _ _ => 30
  | .app l => 30 + szEs l
  | .cut _ => 20
  | .snap s => 50 + 10 * s.ms.length + s.d.size

theorem writeS_len : ∀ c : ChM, (writeS c).length ≤ szCh c
  | .vote t v => numsS_len [1, t, v]
  | .cut i => numsS_len [3, i]
  | .app l => by
    have h1 := numsS_len [2, headIx l, (l.length : Int)]
    have h2 := entsS_len l
    simp only [writeS, szCh, List.length_append]
    simp only [List.length_cons, List.length_nil] at h1
    omega
  | .snap s => by
    have h1 := numsS_len [4, s.ix, s.tm]
    have h2 := listS_len s.ms
    have h3 := textS_len s.d
    simp only [writeS, szCh, List.length_append]
    simp only [List.length_cons, List.length_nil] at h1
    omega

set_option maxHeartbeats 1000000 in
theorem wvote_any {w : World} {g : Nat} {v : Value} {bs : List UInt8} (h : WrAt w g v bs) (t q : Int) (hn : bs.length ≤ 800000000) :
    Calls Tryz.prog 142 #[.agg #[.int .i64 t, .int .i64 q], .pointer (some ⟨g, 0, none⟩)] w fun e w' => e = .returned (.tuple #[]) ∧ WrV w w' g v (bs ++ writeS (.vote t q)) := by
  have hbA : Below w.heap.size w (w.alloc (.cells #[.int .i64 t, .int .i64 q] 67)) := below_more (Below.refl _ _) _
  have hNA := wrAt_below h hbA
  have hbB := below_more (Below.refl _ (w.alloc (.cells #[.int .i64 t, .int .i64 q] 67))) (.cells #[.int .i64 1, .int .i64 t, .int .i64 q] 3)
  have HNM := Lib.hid (knumbers_any (wrAt_below hNA hbB) (l := [1, t, q]) (lv := .slice (some ⟨w.heap.size + 1, 0, none⟩) 3 3) (fun w' hk => ints_lit (by simp) rfl (by simp) rfl (fun k hk2 => wrAt_lt hNA hk2) hk) (by simp; omega))
  have HBB := Lib.hid (below_then hbA hbB)
  clear hbA hNA hbB h hn
  go_enter Tryz.func142, Tryz.ntmps142
  go_wp2_with fail
  refine (HNM.out).mono ?_
  rintro e w1 ⟨rfl, hv1⟩
  have HE := Lib.hid (wrV_of HBB.out hv1)
  clear hv1
  go_wp2_with fail
  go_end0
  exact ⟨rfl, HE.out⟩

set_option maxHeartbeats 1000000 in
theorem wcut_any {w : World} {g : Nat} {v : Value} {bs : List UInt8} (h : WrAt w g v bs) (i : Int) (hn : bs.length ≤ 800000000) :
    Calls Tryz.prog 138 #[.int .i64 i, .pointer (some ⟨g, 0, none⟩)] w fun e w' => e = .returned (.tuple #[]) ∧ WrV w w' g v (bs ++ writeS (.cut i)) := by
  have hbB := below_more (Below.refl _ w) (.cells #[.int .i64 3, .int .i64 i] 3)
  have HNM := Lib.hid (knumbers_any (wrAt_below h hbB) (l := [3, i]) (lv := .slice (some ⟨w.heap.size, 0, none⟩) 2 2) (fun w' hk => ints_lit rfl rfl (by simp) rfl (fun k hk2 => wrAt_lt h hk2) hk) (by simp; omega))
  have HBB := Lib.hid hbB
  clear hbB h hn
  go_enter Tryz.func138, Tryz.ntmps138
  go_wp2_with fail
  refine (HNM.out).mono ?_
  rintro e w1 ⟨rfl, hv1⟩
  have HE := Lib.hid (wrV_of HBB.out hv1)
  clear hv1
  go_wp2_with fail
  go_end0
  exact ⟨rfl, HE.out⟩

set_option maxRecDepth 100000 in
set_option maxHeartbeats 2000000 in
theorem wapp_any {w : World} {g : Nat} {v : Value} {bs : List UInt8} (h : WrAt w g v bs) {Z : Nat → Prop} {lv : Value} {es : List EntM} (hp : EntsZ w Z lv es) (hoff : ∀ k, k < w.heap.size → Z k → ¬ Foot g v k) (hne : es ≠ []) (hn : bs.length + szEs es ≤ 800000000) (hl : es.length ≤ 1000000) :
    Calls Tryz.prog 121 #[lv, .pointer (some ⟨g, 0, none⟩)] w fun e w' => e = .returned (.tuple #[]) ∧ WrV w w' g v (bs ++ writeS (.app es)) := by
  have HP0 := Lib.hid hp
  obtain ⟨A, C, rfl, hcase0⟩ := hp
  obtain ⟨b, o, rfl, _, hin0⟩ := hcase0.resolve_left hne
  obtain ⟨e0, he0⟩ : ∃ e0, es[0]? = some e0 := ⟨_, List.getElem?_eq_getElem (List.length_pos_iff.2 hne)⟩
  obtain ⟨u0, hr0, _⟩ := hin0 0 e0 he0
  have hx0 : headIx es = e0.ix := by
    cases es with
    | nil => simp at he0
    | cons x r => simp at he0; subst he0; rfl
  obtain ⟨n, hnn⟩ : ∃ n, n = es.length := ⟨_, rfl⟩
  obtain ⟨i0, hi0⟩ : ∃ i0, i0 = e0.ix := ⟨_, rfl⟩
  rw [← hnn] at HP0 ⊢
  have HP := Lib.hid (show ∀ w', Kept (Foot g v) w w' → EntsZ w' Z (.slice (some ⟨b, o, none⟩) n C) es from fun w' hk => entsZ_keep HP0.out (fun k hlt hz => hk.blk k hlt (hoff k hlt hz)))
  have HOF := Lib.hid hoff
  have c0 : w.cell? ⟨b, o, none⟩ = some (.int .i64 i0) := by rw [hi0]; have := hr0 0 _ rfl; simpa using this
  have hn0 : (0 : Int) < (n : Int) := by have := (List.getElem?_eq_some_iff.1 he0).1; omega
  have hn0' : 0 < n := by omega
  have hbB := below_more (Below.refl _ w) (.cells #[.int .i64 2, .int .i64 i0, .int .i64 n] 3)
  have HNM := Lib.hid (knumbers_any (wrAt_below h hbB) (l := [2, i0, (n : Int)]) (lv := .slice (some ⟨w.heap.size, 0, none⟩) 3 3) (fun w' hk => ints_lit rfl rfl (by simp) rfl (fun k hk2 => wrAt_lt h hk2) hk) (by simp; omega))
  have HBB := Lib.hid hbB
  have HN := Lib.hid hnn
  have HNB := Lib.hid hn
  have HL := Lib.hid hl
  have HX0 : Hid (headIx es = i0) := Lib.hid (by rw [hx0, hi0])
  have hz := zero_cells Tryz.infoEntz
  have HSW : Hid (∀ k, k < w.heap.size → Z k → ∀ {v1 : Value}, (∀ k, v1.ownBlock = some k → v.ownBlock = some k ∨ w.heap.size ≤ k) → ¬ Foot g v1 k) := Lib.hid (fun k hlt hz {v1} hf hft => (foot_next hf k hft).elim (hoff k hlt hz) (fun h => by omega))
  clear hbB h hnn hn hl hin0 hr0 hx0 hi0 he0 hne hcase0 hoff HP0
  go_enter Tryz.func121, Tryz.ntmps121
  go_wp2_with fail
  refine (HNM.out).mono ?_
  rintro e w1 ⟨rfl, hv1⟩
  have HV0 := Lib.hid (wrV_of HBB.out hv1)
  clear hv1 HNM c0
  go_wp2_with fail
  go_loopw [17] (fun iv wr => ∃ (i : Nat), i ≤ n ∧ iv = .int .i64 i ∧ Hid (WrV w wr g v (bs ++ numsS [2, i0, (n : Int)] ++ entsS (es.take i)))) (fun iv _ => n - (intOf iv).toNat)
  case atStart => exact ⟨0, Nat.zero_le _, rfl, Lib.hid (by have := HV0.out; simpa [entsS] using this)⟩
  case round =>
    obtain ⟨i, hi', rfl, HR⟩ := hrel
    obtain ⟨w2, hw2⟩ : ∃ w2 : World, w2 = wr := ⟨_, rfl⟩
    subst hw2
    by_cases hlt : i < n
    · obtain ⟨x, hx⟩ : ∃ x, es[i]? = some x := ⟨_, List.getElem?_eq_getElem (by rw [← HN.out]; exact hlt)⟩
      obtain ⟨v1, hN1, hv1, hk1⟩ := HR.out
      obtain ⟨A', C', hA, hcase⟩ := HP.out w2 hk1
      injection hA with e1 e2 e3
      clear e2
      subst e1 e3
      obtain ⟨b', o', hbo, _, hin⟩ := hcase.resolve_left (fun e => by rw [e] at hx; simp at hx)
      cases hbo
      obtain ⟨u, hrange, hu⟩ := hin i x hx
      have hxm := szEs_mem (List.mem_of_getElem? hx)
      have hsn := szEs_take es i
      have htot : szEs (es.take i) + szE x ≤ szEs es := by
        have h1 := szEs_app (es.take i) [x]
        have h2 := szEs_take es (i + 1)
        rw [take_succ_of hx, h1] at h2
        have h3 : szEs [x] = szE x := by unfold szEs; simp
        omega
      obtain ⟨xi, xt, xk, xd, xm⟩ := x
      obtain ⟨ua, uc, rfl⟩ := intsAt_len (intsZ_at hu)
      dsimp only at hu hrange
      have d0 : w2.cell? ⟨b, o + i * 5, none⟩ = some (.int .i64 xi) := hrange 0 _ rfl
      have d1 : w2.cell? ⟨b, o + i * 5 + 1, none⟩ = some (.int .i64 xt) := hrange 1 _ rfl
      have d2 : w2.cell? ⟨b, o + i * 5 + 2, none⟩ = some (.int .i64 xk) := hrange 2 _ rfl
      have d3 : w2.cell? ⟨b, o + i * 5 + 3, none⟩ = some (.string xd) := hrange 3 _ rfl
      have d4 : w2.cell? ⟨b, o + i * 5 + 4, none⟩ = some (.slice ua xm.length uc) := hrange 4 _ rfl
      have hy : (i : Int) < (n : Int) := by omega
      have hi1 : (i : Int) < 1000000 := by have := HL.out; have := HN.out; omega
      have HI := Lib.hid hlt
      have HTK := Lib.hid (show es.take (i + 1) = es.take i ++ [⟨xi, xt, xk, xd, xm⟩] from take_succ_of hx)
      have hbA : Below w2.heap.size w2 (w2.alloc (.cells #[.int .i64 xi, .int .i64 xt, .int .i64 xk, .string xd, .slice ua xm.length uc] 32)) := below_more (Below.refl _ _) _
      have HUZ : Hid (IntsZ w Z (.slice ua xm.length uc) xm) := Lib.hid (by
        obtain ⟨A3, C3, hA3, hc3⟩ := HP.out w (kept_refl _ _)
        injection hA3 with e1 _ _
        obtain ⟨b3, o3, hbo3, hz3, hin3⟩ := hc3.resolve_left (fun e => by rw [e] at hx; simp at hx)
        rw [← e1] at hbo3
        cases hbo3
        obtain ⟨u3, hr3, hu3⟩ := hin3 i _ hx
        have h4 := hr3 4 _ rfl
        have h5 := cell_kept h4 (hk1.blk b (block_of_cell h4) (HOF.out b (block_of_cell h4) hz3))
        have h6 := hrange 4 _ rfl
        rw [h6] at h5
        cases h5
        exact hu3)
      have HEN := Lib.hid (kentry_any (wrAt_below hN1 hbA) ⟨xi, xt, xk, xd, xm⟩ (u := .slice ua xm.length uc) (fun w' hk => intsZ_at (intsZ_keep HUZ.out (fun k hlt hz => by
        rw [hk.blk k (Nat.lt_of_lt_of_le hlt (Nat.le_trans hk1.size hbA.size)) (HSW.out k hlt hz hv1), hbA.block k (Nat.lt_of_lt_of_le hlt hk1.size)]
        exact hk1.blk k hlt (HOF.out k hlt hz)))) (by
          have h1 := numsS_len [2, i0, (n : Int)]
          have h2 := entsS_len (es.take i)
          have h3 := HNB.out
          simp only [List.length_append]
          simp only [List.length_cons, List.length_nil] at h1
          unfold szE at htot
          dsimp only at htot
          omega))
      have HB1 := Lib.hid hbA
      have HV1 := Lib.hid hv1
      have HK1 := Lib.hid hk1
      clear hrange hu hbA hN1 hv1 hk1 hin hcase hx hlt hi' hxm hsn htot
      go_wp2_with (first | (refine wpList_alloc_z rfl 32 rfl #[.int .i64 0, .int .i64 0, .int .i64 0, .string ⟨#[]⟩, .slice none 0 0] hz ?_) | fail)
      refine (HEN.out).mono ?_
      rintro e w3 ⟨rfl, hv3⟩
      have HE := Lib.hid (wrV_then HV1.out HK1.out (wrV_of HB1.out hv3))
      clear hv3 d0 d1 d2 d3 d4
      go_wp2_with fail
      go_roundw
      case rel => exact ⟨i + 1, HI.out, by go_num, Lib.hid (by rw [HTK.out, entsS_snoc, ← List.append_assoc]; exact HE.out)⟩
      case measure => have := HI.out; simp [intOf]; omega
    · have hin : i = n := by omega
      have hyk : ¬ (i : Int) < (n : Int) := by omega
      have htk : es.take i = es := List.take_of_length_le (by rw [← HN.out]; omega)
      have HR2 := Lib.hid (show WrV w w2 g v (bs ++ writeS (.app es)) by
        have h1 := HR.out
        rw [htk] at h1
        simp only [writeS]
        rw [HX0.out, ← HN.out, ← List.append_assoc]
        exact h1)
      clear hlt htk hi' hin
      go_wp2_with fail
      go_end0
      exact ⟨rfl, HR2.out⟩

set_option maxHeartbeats 1000000 in
theorem wsnap_any {w : World} {g : Nat} {v : Value} {bs : List UInt8} (h : WrAt w g v bs) (s : SnpM) {mv : Value} (hp : ∀ w', Kept (Foot g v) w w' → IntsAt w' mv s.ms) (hn : bs.length + s.d.size ≤ 800000000) :
    Calls Tryz.prog 133 #[.agg #[.int .i64 s.ix, .int .i64 s.tm, mv, .string s.d], .pointer (some ⟨g, 0, none⟩)] w fun en w' => en = .returned (.tuple #[]) ∧ WrV w w' g v (bs ++ writeS (.snap s)) := by
  obtain ⟨xi, xt, xm, xd⟩ := s
  obtain ⟨A, C, rfl⟩ := intsAt_len (hp w (kept_refl _ _))
  dsimp only at hp hn ⊢
  have hml := (hp w (kept_refl _ _)).1
  obtain ⟨n, hnn⟩ : ∃ n, n = xm.length := ⟨_, rfl⟩
  rw [← hnn] at hp ⊢
  have hbA : Below w.heap.size w (w.alloc (.cells #[.int .i64 xi, .int .i64 xt, .slice A n C, .string xd] 50)) := below_more (Below.refl _ _) _
  have hrA : Rw (w.alloc (.cells #[.int .i64 xi, .int .i64 xt, .slice A n C, .string xd] 50)) 0 w.heap.size 50 [.int .i64 xi, .int .i64 xt, .slice A n C, .string xd] := Rw.alloc w _ _ (Nat.zero_le _)
  have hNA := wrAt_below h hbA
  have hbB := below_more (Below.refl _ (w.alloc (.cells #[.int .i64 xi, .int .i64 xt, .slice A n C, .string xd] 50))) (.cells #[.int .i64 4, .int .i64 xi, .int .i64 xt] 3)
  have HNM := Lib.hid (knumbers_any (wrAt_below hNA hbB) (l := [4, xi, xt]) (lv := .slice (some ⟨w.heap.size + 1, 0, none⟩) 3 3) (fun w' hk => ints_lit (by simp) rfl (by simp) rfl (fun k hk2 => wrAt_lt hNA hk2) hk) (by simp; omega))
  have HBB := Lib.hid (below_then hbA hbB)
  have HRB := Lib.hid (Rw.below hrA hbB)
  have HGW : Hid (¬ w.heap.size = g) := Lib.hid (fun e => by have := Rw.size h.1; omega)
  have HOFF : Hid (¬ Foot g v w.heap.size) := Lib.hid (fun hf => by have := wrAt_lt h hf; omega)
  have HN := Lib.hid hn
  have HML := Lib.hid hml
  have HP := Lib.hid hp
  clear hbA hrA hNA hbB h hn hp hnn hml
  go_enter Tryz.func133, Tryz.ntmps133
  go_wp2_with fail
  refine (HNM.out).mono ?_
  rintro e w1 ⟨rfl, hv1⟩
  have hr1 : Rw w1 0 w.heap.size 50 [.int .i64 xi, .int .i64 xt, .slice A n C, .string xd] := by
    obtain ⟨_, _, _, hk⟩ := hv1
    exact rw_kept HRB.out hk HOFF.out
  obtain ⟨v1, hN1, hf1, hk1⟩ := wrV_of HBB.out hv1
  have c2 := Rw.cell hr1 (j := 2) rfl
  have HLS := Lib.hid (klist_any hN1 (fun w' hk => HP.out w' (kept_next hf1 hk1 hk)) (by rw [List.length_append]; have := numsS_len [4, xi, xt]; simp only [List.length_cons, List.length_nil] at this; have := HN.out; omega))
  have HR1 := Lib.hid hr1
  have HF1 := Lib.hid hf1
  have HK1 := Lib.hid hk1
  have HOF1 : Hid (¬ Foot g v1 w.heap.size) := Lib.hid (fun hf => hf.elim (fun e => HGW.out e) (fun hk => own_rw hN1.2 hr1 (by decide) hk))
  clear hv1 hr1 hN1 hf1 hk1 HNM
  go_wp2_with fail
  refine (HLS.out).mono ?_
  rintro e w2 ⟨rfl, hv2⟩
  have hr2 : Rw w2 0 w.heap.size 50 [.int .i64 xi, .int .i64 xt, .slice A n C, .string xd] := by
    obtain ⟨_, _, _, hk⟩ := hv2
    exact rw_kept HR1.out hk HOF1.out
  obtain ⟨v2, hN2, hf2, hk2⟩ := wrV_then HF1.out HK1.out hv2
  have c3 := Rw.cell hr2 (j := 3) rfl
  have HTX := Lib.hid (ktext_any hN2 xd (by
    rw [List.length_append, List.length_append]
    have h1 := numsS_len [4, xi, xt]
    have h2 := listS_len xm
    simp only [List.length_cons, List.length_nil] at h1
    have := HN.out
    have := HML.out
    omega))
  have HF2 := Lib.hid hf2
  have HK2 := Lib.hid hk2
  clear hv2 hr2 hN2 hf2 hk2 HLS c2
  go_wp2_with fail
  refine (HTX.out).mono ?_
  rintro e w3 ⟨rfl, hv3⟩
  have HE := Lib.hid (wrV_then HF2.out HK2.out hv3)
  clear hv3 c3
  go_wp2_with fail
  go_end0
  refine ⟨rfl, ?_⟩
  have h9 := HE.out
  simp only [writeS]
  rw [← List.append_assoc, ← List.append_assoc]
  exact h9

end Go.Proofs.YtageldnhchgplaaGreatDoor
