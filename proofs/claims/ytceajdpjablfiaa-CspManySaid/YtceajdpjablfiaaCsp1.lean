/- csp: how lists of directives lie in memory; the append of one; both ASCII. -/
import Derived.Test.YtceajdpjablfiaaShelf
import Derived.BigQuiet
import Derived.Maps.AppendAt
import Derived.Test.YtceajdpjablfiaaProg
import Derived.Test.YtceajdpjablfiaaKit
import Derived.Test.YtceajdpjablfiaaPlain
import Derived.Test.YtceajdpjablfiaaAsc4
import Derived.Test.YtceajdpjablfiaaRow
import Derived.Test.YtceajdpjablfiaaCod8
import Derived.Test.YtceajdpjablfiaaHdr10
import Derived.Test.YtceajdpjablfiaaHdr19
import Derived.Test.YtceajdpjablfiaaCsp0
namespace Go.Proofs.Ytceajdpjablfiaa
open Go.RowKit Go.Proofs

/-- A list of texts: nil, or in a block of texts. -/
def StrSl (w : World) (u : Value) (xs : List (List UInt8)) : Prop :=
  (u = .slice none 0 0 ∧ xs = []) ∨ ∃ b o c cur fr, u = .slice (some ⟨b, o, none⟩) xs.length c ∧ w.heap[b]? = some (.cells cur 9 fr) ∧ ∀ (j : Nat) x, xs[j]? = some x → w.cell? ⟨b, o + j, none⟩ = some (strL x)

theorem heap_lt {w : World} {b : Nat} {x : Obj} (h : w.heap[b]? = some x) : b < w.heap.size := by
  rcases Nat.lt_or_ge b w.heap.size with hb | hb
  · exact hb
  · rw [Array.getElem?_eq_none hb] at h; cases h

theorem strSl_at {w : World} {u : Value} {xs : List (List UInt8)} (h : StrSl w u xs) : SliceAt w u (xs.map strL) := by
  rcases h with ⟨rfl, rfl⟩ | ⟨b, o, c, cur, fr, rfl, _, hat⟩
  · exact SliceAt.nil w
  · refine ⟨some ⟨b, o, none⟩, c, by rw [List.length_map], .inr ⟨b, o, rfl, fun j x hj => ?_⟩⟩
    rw [List.getElem?_map] at hj
    cases hx : xs[j]? with
    | none => rw [hx] at hj; cases hj
    | some y => rw [hx] at hj; cases hj; exact hat j y hx

theorem strSl_slv {w : World} {u : Value} {xs : List (List UInt8)} (h : StrSl w u xs) : SlV u := by
  rcases h with ⟨rfl, rfl⟩ | ⟨b, o, c, cur, fr, rfl, _, _⟩
  · exact .inl rfl
  · exact .inr ⟨_, _, _, rfl⟩

theorem strSl_len {w : World} {u : Value} {xs : List (List UInt8)} (h : StrSl w u xs) : ∃ a c, u = .slice a xs.length c := by
  rcases h with ⟨rfl, rfl⟩ | ⟨b, o, c, cur, fr, rfl, _, _⟩
  · exact ⟨_, _, rfl⟩
  · exact ⟨_, _, rfl⟩

theorem cell_heap {w w' : World} {b o : Nat} (h : w'.heap[b]? = w.heap[b]?) : w'.cell? ⟨b, o, none⟩ = w.cell? ⟨b, o, none⟩ := by
  unfold World.cell?
  rw [h]

theorem strSl_same {w w' : World} {u : Value} {xs : List (List UInt8)} (h : StrSl w u xs) (hk : ∀ (b : Nat) (cur : Array Value) (fr : Nat × Nat), w.heap[b]? = some (Obj.cells cur 9 fr) → w'.heap[b]? = w.heap[b]?) : StrSl w' u xs := by
  rcases h with h | ⟨b, o, c, cur, fr, rfl, hb, hat⟩
  · exact .inl h
  · have e := hk b cur fr hb
    exact .inr ⟨b, o, c, cur, fr, rfl, e.trans hb, fun j x hj => (cell_heap e).trans (hat j x hj)⟩

theorem strSl_below {w w' : World} {u : Value} {xs : List (List UInt8)} (h : StrSl w u xs) (hb : Below w.heap.size w w') : StrSl w' u xs :=
  strSl_same h fun b _ _ he => hb.block b (heap_lt he)

theorem strSl_own {w : World} {base : Nat} {v : Value} {xs : List (List UInt8)} (h : w.ownsRow base 9 1 v xs.length (xs.map strL)) : StrSl w v xs := by
  rcases h.2 with ⟨hv, hn⟩ | ⟨g, cap, cur, hv, _, hg, _⟩
  · exact .inl ⟨hv, List.eq_nil_of_length_eq_zero hn⟩
  · subst hv
    refine .inr ⟨g, 0, cap, cur, _, rfl, hg, fun j x hj => ?_⟩
    have hl : j < xs.length := (List.getElem?_eq_some_iff.1 hj).1
    rw [Nat.zero_add, h.cellAt j (by omega), List.getElem?_map, hj]
    rfl

/-- A row of directives: that came in, or of the call's own. -/
def DirsAt (w : World) (v : Value) (ds : List DirM) : Prop :=
  ∃ a c, v = .slice a ds.length c ∧ (ds = [] ∨ ∃ b o, a = some ⟨b, o, none⟩ ∧ ∀ (j : Nat) d, ds[j]? = some d → w.cell? ⟨b, o + j * 2, none⟩ = some (strL d.cdn) ∧ ∃ u, w.cell? ⟨b, o + j * 2 + 1, none⟩ = some u ∧ StrSl w u d.cdl)

theorem dirs_below {w w' : World} {v : Value} {ds : List DirM} (h : DirsAt w v ds) (hb : Below w.heap.size w w') : DirsAt w' v ds := by
  obtain ⟨a, c, rfl, h⟩ := h
  refine ⟨a, c, rfl, ?_⟩
  rcases h with h | ⟨b, o, rfl, hat⟩
  · exact .inl h
  · refine .inr ⟨b, o, rfl, fun j d hj => ?_⟩
    obtain ⟨h1, u, h2, h3⟩ := hat j d hj
    exact ⟨(hb.cell (block_of_cell h1)).trans h1, u, (hb.cell (block_of_cell h2)).trans h2, strSl_below h3 hb⟩

theorem dirs_len {w : World} {v : Value} {ds : List DirM} (h : DirsAt w v ds) : ∃ a c, v = .slice a ds.length c := by
  obtain ⟨a, c, rfl, _⟩ := h
  exact ⟨a, c, rfl⟩

theorem dirs_nil (w : World) : DirsAt w (.slice none 0 0) [] := ⟨none, 0, rfl, .inl rfl⟩

theorem dirs_at {w : World} {v : Value} {ds : List DirM} (h : DirsAt w v ds) {k : Nat} {d : DirM} (hk : ds[k]? = some d) :
    ∃ b o c, v = .slice (some ⟨b, o, none⟩) ds.length c ∧ w.cell? ⟨b, o + k * 2, none⟩ = some (strL d.cdn) ∧ ∃ u, w.cell? ⟨b, o + k * 2 + 1, none⟩ = some u ∧ StrSl w u d.cdl := by
  obtain ⟨a, c, rfl, h⟩ := h
  rcases h with h | ⟨b, o, rfl, hat⟩
  · rw [h] at hk; simp at hk
  · exact ⟨b, o, c, rfl, hat k d hk⟩

/-- Not empty: where it lies, and each directive. -/
theorem dirs_some {w : World} {v : Value} {ds : List DirM} (h : DirsAt w v ds) (hne : ds ≠ []) :
    ∃ b o c, v = .slice (some ⟨b, o, none⟩) ds.length c ∧ ∀ (j : Nat) d, ds[j]? = some d → w.cell? ⟨b, o + j * 2, none⟩ = some (strL d.cdn) ∧ ∃ u, w.cell? ⟨b, o + j * 2 + 1, none⟩ = some u ∧ StrSl w u d.cdl := by
  obtain ⟨a, c, rfl, h⟩ := h
  rcases h with h | ⟨b, o, rfl, hat⟩
  · exact absurd h hne
  · exact ⟨b, o, c, rfl, hat⟩

/-! of the call's own -/
def dirC : List (DirM × Value) → List Value
  | [] => []
  | r :: t => strL r.1.cdn :: r.2 :: dirC t

theorem dirC_app : ∀ a b : List (DirM × Value), dirC (a ++ b) = dirC a ++ dirC b
  | [], b => rfl
  | r :: t, b => by simp only [List.cons_append, dirC, dirC_app t b]

theorem dirC_at : ∀ (rs : List (DirM × Value)) (j : Nat) (r : DirM × Value), rs[j]? = some r → (dirC rs)[j * 2]? = some (strL r.1.cdn) ∧ (dirC rs)[j * 2 + 1]? = some r.2
  | [], j, r, h => by simp at h
  | q :: t, 0, r, h => by
    simp at h
    subst h
    exact ⟨rfl, rfl⟩
  | q :: t, j + 1, r, h => by
    have ih := dirC_at t j r (by simpa using h)
    have e : (j + 1) * 2 = j * 2 + 1 + 1 := by omega
    rw [e]
    simpa [dirC] using ih

def OwnD (w : World) (base : Nat) (v : Value) (ds : List DirM) : Prop :=
  ∃ rs : List (DirM × Value), rs.map (·.1) = ds ∧ w.ownsRow base 30 2 v ds.length (dirC rs) ∧ ∀ r ∈ rs, StrSl w r.2 r.1.cdl

theorem ownD_nil (w : World) (base : Nat) : OwnD w base (.slice none 0 0) [] := ⟨[], rfl, World.ownsRow_nil _ _ _ _, fun r h => by cases h⟩

theorem ownD_at {w : World} {base : Nat} {v : Value} {ds : List DirM} (h : OwnD w base v ds) : DirsAt w v ds := by
  obtain ⟨rs, rfl, hown, hs⟩ := h
  rcases hown.2 with ⟨hv, hn⟩ | ⟨g, cap, cur, hv, _⟩
  · have hnil : rs.map (·.1) = [] := List.eq_nil_of_length_eq_zero hn
    rw [hnil]
    exact ⟨none, 0, hv, .inl rfl⟩
  · subst hv
    refine ⟨some ⟨g, 0, none⟩, cap, rfl, .inr ⟨g, 0, rfl, fun j d hj => ?_⟩⟩
    rw [List.getElem?_map] at hj
    cases hr : rs[j]? with
    | none => rw [hr] at hj; cases hj
    | some r =>
      rw [hr] at hj
      cases hj
      have hl : j < (rs.map (·.1)).length := by rw [List.length_map]; exact (List.getElem?_eq_some_iff.1 hr).1
      obtain ⟨h1, h2⟩ := dirC_at rs j r hr
      rw [Nat.zero_add]
      exact ⟨(hown.cellAt (j * 2) (by omega)).trans h1, r.2, (hown.cellAt (j * 2 + 1) (by omega)).trans h2, hs r (List.mem_of_getElem? hr)⟩

theorem ownD_below {w w' : World} {base : Nat} {v : Value} {ds : List DirM} (h : OwnD w base v ds) (hb : Below w.heap.size w w') : OwnD w' base v ds := by
  obtain ⟨rs, h1, h2, h3⟩ := h
  exact ⟨rs, h1, own_below h2 hb, fun r hr => strSl_below (h3 r hr) hb⟩

theorem ownD_len {w : World} {base : Nat} {v : Value} {ds : List DirM} (h : OwnD w base v ds) : ∃ a c, v = .slice a ds.length c := dirs_len (ownD_at h)

theorem ownD_mono {w : World} {base base' : Nat} {v : Value} {ds : List DirM} (h : OwnD w base' v ds) (hb : base ≤ base') : OwnD w base v ds := by
  obtain ⟨rs, h1, h2, h3⟩ := h
  exact ⟨rs, h1, own_mono h2 hb, h3⟩

/-- Blocks that are no rows of directives stay. -/
def StayD (w w' : World) : Prop := ∀ k, k < w.heap.size → (∀ cs fr, w.heap[k]? ≠ some (.cells cs 30 fr)) → w'.heap[k]? = w.heap[k]?

theorem grown_stay {w w' : World} {base : Nat} {v : Value} {n : Nat} {xs : List Value} (h : w.ownsRow base 30 2 v n xs) (hg : w.grownBy w' v.ownBlock) : StayD w w' := by
  intro k hk hn
  refine hg.block k hk ?_
  intro e
  rcases h.2 with ⟨hv, _⟩ | ⟨g, cap, cur, hv, _, hh, _⟩
  · rw [hv] at e; simp [Value.ownBlock] at e
  · rw [hv] at e
    simp [Value.ownBlock] at e
    subst e
    exact hn _ _ hh

theorem strSl_stay {w w' : World} {u : Value} {xs : List (List UInt8)} (h : StrSl w u xs) (hs : StayD w w') : StrSl w' u xs :=
  strSl_same h fun b cur fr he => hs b (heap_lt he) (fun cs f2 e => by
    rw [he] at e
    injection e with e
    injection e with _ e2 _
    exact absurd e2 (by decide))

/-- An append of one directive. -/
theorem wpList_append_dir {P : Program} {W w : World} {d : DirM} {u : Value} {ops : Array Oper} {rest : List Oper} {o : Oper} {a : Act} {Q : Exit → Act → World → Prop} (hgd : o.guard = none) (s y : Operand) (t : TypeId)
    (ho : o.op = .call { callee := .builtin .append, args := #[s, y], argTypes := #[t, t] })
    (base : Nat) (hW : W = w.alloc (.cells #[strL d.cdn, u] 30)) (i : TypeInfo) (z : Value) (ht : P.underlying t = some (.slice 30)) (hi : P.info? 30 = some i) (hz : i.zero = some z)
    (hsize : i.size = 2) (hby : i.bytes = 40) (hzs : z.cells.size = 2)
    (v : Value) (ds : List DirM) (hs : a.eval s = v) (hown : OwnD w base v ds) (hu : StrSl w u d.cdl)
    (g : Nat) (hx : a.eval y = .slice (some ⟨g, 0, none⟩) 1 1) (hg0 : g = w.heap.size) (hn : ds.length < 1000000) (hbase : base ≤ w.heap.size)
    (h : ∀ v' w', OwnD w' base v' (ds ++ [d]) → Below base w w' → StayD w w' → wpList P ops Q rest (a.put o.dst v') w') : wpList P ops Q (o :: rest) a W := by
  subst hW hg0
  obtain ⟨rs, hrs, hrow, hss⟩ := hown
  refine wpList_append_own _ hgd s y t ho base 30 i z 2 40 ht hi hz hsize hby hzs (by decide) v ds.length (dirC rs) hs (hrow.alloc _) ⟨w.heap.size, 0, none⟩ 1 1 [strL d.cdn, u] hx rfl ?_ ?_ ?_ ?_ ?_ ?_
  · intro j x hj
    match j, hj with
    | 0, hj =>
      simp at hj
      subst hj
      exact alloc_cell w _ _ _ 0
    | 1, hj =>
      simp at hj
      subst hj
      exact alloc_cell w _ _ _ 1
    | j + 2, hj => simp at hj
  · intro x hx2
    simp at hx2
    rcases hx2 with rfl | rfl
    · rfl
    · obtain ⟨a1, c1, rfl⟩ := strSl_len hu
      rfl
  · unfold maxLen; omega
  · omega
  · simp; omega
  · intro v' w' hown' hg _
    have hb0 : Below w.heap.size w (w.alloc (.cells #[strL d.cdn, u] 30)) := below_more (Below.refl _ _) _
    have hst := grown_stay (hrow.alloc (.cells #[strL d.cdn, u] 30)) hg
    have hkeep : ∀ (q : Value) (xs : List (List UInt8)), StrSl w q xs → StrSl w' q xs := fun q xs hq => strSl_stay (strSl_below hq hb0) hst
    refine h v' w' ⟨rs ++ [(d, u)], by rw [List.map_append, hrs]; rfl, by rw [List.length_append, dirC_app]; exact hown', fun r hr => ?_⟩ (((Below.refl base w).alloc hbase _).trans (below_own_any (hrow.alloc _) hg (by simp; omega))) ?_
    · rcases List.mem_append.1 hr with hr | hr
      · exact hkeep _ _ (hss r hr)
      · rw [List.mem_singleton.1 hr]
        exact hkeep _ _ hu
    · intro k hk hn2
      have e1 : (w.alloc (.cells #[strL d.cdn, u] 30)).heap[k]? = w.heap[k]? := hb0.block k hk
      rw [hst k (Nat.lt_of_lt_of_le hk hb0.size) (fun cs fr => by rw [e1]; exact hn2 cs fr), e1]

/-! both ASCII -/
theorem asc_snoc (s : ByteArray) (k : Nat) (h : k < s.size) : ascB (s.data.toList.take (k + 1)) = (ascB (s.data.toList.take k) && decide (s[k].toNat < 128)) := by
  rw [take_snoc s k h]
  unfold ascB
  rw [List.all_append]
  simp

theorem asc_no {l : List UInt8} {k : Nat} (h : ascB (l.take k) = false) : ascB l = false := by
  cases e : ascB l with
  | false => rfl
  | true =>
    rw [asc_of (fun c hc => asc_mem e c (List.mem_of_mem_take hc))] at h
    cases h

theorem casc_any (s : ByteArray) (hs : s.size ≤ 1073741824) (w : World) : Calls Try.prog 12 #[.string s] w fun e w' => e = .returned (.bool (ascB s.data.toList)) ∧ w' = w := by
  go_enter Try.func12, Try.ntmps12
  go_wp2_with fail
  go_loopw [6] (fun i wr => ∃ k : Nat, k ≤ s.size ∧ i = .int .i64 k ∧ Hid (ascB (s.data.toList.take k) = true) ∧ wr = w) (fun i _ => s.size - (intOf i).toNat)
  case atStart => exact ⟨0, Nat.zero_le _, rfl, Lib.hid rfl, rfl⟩
  case round =>
    obtain ⟨k, hk, rfl, HA, hw⟩ := hrel
    subst hw
    by_cases hlt : k < s.size
    · have HS := Lib.hid (asc_snoc s k hlt)
      by_cases h128 : (128 : Int) ≤ (s[k].toNat : Int)
      · have HF : Hid (ascB s.data.toList = false) := Lib.hid (asc_no (k := k + 1) (by rw [HS.out, decide_eq_false (by omega), Bool.and_false]))
        go_wp2_with fail
        go_ret
        exact ⟨ret_bool HF.out.symm, rfl⟩
      · have HT : Hid (ascB (s.data.toList.take (k + 1)) = true) := Lib.hid (by rw [HS.out, HA.out, decide_eq_true (by omega)]; rfl)
        go_wp2_with fail
        go_roundw
        case rel => exact ⟨k + 1, by omega, by go_num, HT, trivial⟩
        case measure => simp [intOf]; omega
    · have HF : Hid (ascB s.data.toList = true) := Lib.hid (by have h := HA.out; rwa [List.take_of_length_le (by rw [size_data]; omega)] at h)
      go_wp2_with fail
      go_ret
      exact ⟨ret_bool HF.out.symm, rfl⟩

theorem casc_ref (s : ByteArray) (hs : s.size ≤ 1073741824) (w : World) : Calls Try.prog 13 #[.string s] w fun e w' => e = .returned (.bool (ascB s.data.toList)) ∧ w' = w := by
  go_enter Try.func13, Try.ntmps13
  go_wp2_with fail
  go_loopw [3] (fun i wr => ∃ k : Nat, k ≤ s.size ∧ i = .int .i64 k ∧ Hid (ascB (s.data.toList.take k) = true) ∧ wr = w) (fun i _ => s.size - (intOf i).toNat)
  case atStart => exact ⟨0, Nat.zero_le _, rfl, Lib.hid rfl, rfl⟩
  case round =>
    obtain ⟨k, hk, rfl, HA, hw⟩ := hrel
    subst hw
    by_cases hlt : k < s.size
    · have HS := Lib.hid (asc_snoc s k hlt)
      by_cases h128 : (128 : Int) ≤ (s[k].toNat : Int)
      · have HF : Hid (ascB s.data.toList = false) := Lib.hid (asc_no (k := k + 1) (by rw [HS.out, decide_eq_false (by omega), Bool.and_false]))
        go_wp2_with fail
        go_ret
        exact ⟨ret_bool HF.out.symm, rfl⟩
      · have HT : Hid (ascB (s.data.toList.take (k + 1)) = true) := Lib.hid (by rw [HS.out, HA.out, decide_eq_true (by omega)]; rfl)
        go_wp2_with fail
        go_roundw
        case rel => exact ⟨k + 1, by omega, by go_num, HT, trivial⟩
        case measure => simp [intOf]; omega
    · have HF : Hid (ascB s.data.toList = true) := Lib.hid (by have h := HA.out; rwa [List.take_of_length_le (by rw [size_data]; omega)] at h)
      go_wp2_with fail
      go_ret
      exact ⟨ret_bool HF.out.symm, rfl⟩

end Go.Proofs.Ytceajdpjablfiaa
