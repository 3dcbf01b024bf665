/- Rows of fields of the call's own; the same fields in another order and in great letters. -/
import Derived.Test.YtfgpcajjnpmoeaaShelf
import Derived.Test.YtfgpcajjnpmoeaaKit
import Derived.Test.YtfgpcajjnpmoeaaPlain
import Derived.Test.YtfgpcajjnpmoeaaRow
import Derived.Test.YtfgpcajjnpmoeaaCod8
import Derived.Test.YtfgpcajjnpmoeaaHdr0
import Derived.Test.YtfgpcajjnpmoeaaHdr18
namespace Go.Proofs.Ytfgpcajjnpmoeaa
open Go.RowKit Go.Proofs

theorem below_own_any {w w' : World} {base : Nat} {e : TypeId} {size : Nat} {v : Value} {n : Nat} {xs : List Value} (hown : w.ownsRow base e size v n xs) (hg : w.grownBy w' v.ownBlock) (hb : base ≤ w.heap.size) : Below base w w' := by
  refine (Below.refl base w).grown hg hb ?_
  intro k hk
  rcases hown.2 with ⟨hv, _⟩ | ⟨g, cap, cur, hv, hbg, _⟩
  · rw [hv] at hk; simp [Value.ownBlock] at hk
  · rw [hv] at hk; simp [Value.ownBlock] at hk; omega

def fldC : List FldM → List Value
  | [] => []
  | f :: r => .string f.hn :: .string f.hv :: fldC r

theorem fldC_app : ∀ a b : List FldM, fldC (a ++ b) = fldC a ++ fldC b
  | [], b => rfl
  | f :: r, b => by simp only [List.cons_append, fldC, fldC_app r b]

theorem fldC_len : ∀ a : List FldM, (fldC a).length = a.length * 2
  | [] => rfl
  | f :: r => by simp only [fldC, List.length_cons, fldC_len r]; omega

theorem fldC_at : ∀ (ls : List FldM) (j : Nat) (f : FldM), ls[j]? = some f → (fldC ls)[j * 2]? = some (.string f.hn) ∧ (fldC ls)[j * 2 + 1]? = some (.string f.hv)
  | [], j, f, h => by simp at h
  | g :: r, 0, f, h => by
    simp at h
    subst h
    exact ⟨rfl, rfl⟩
  | g :: r, j + 1, f, h => by
    have ih := fldC_at r j f (by simpa using h)
    have e : (j + 1) * 2 = j * 2 + 1 + 1 := by omega
    rw [e]
    simpa [fldC] using ih

theorem flds_own {w : World} {base : Nat} {e : TypeId} {v : Value} {ls : List FldM} (h : w.ownsRow base e 2 v ls.length (fldC ls)) : FldsAt w v ls := by
  rcases h.2 with ⟨hv, hn⟩ | ⟨g, cap, cur, hv, _⟩
  · have hnil : ls = [] := List.eq_nil_of_length_eq_zero hn
    subst hnil
    exact ⟨none, 0, hv, .inl rfl⟩
  · subst hv
    refine ⟨some ⟨g, 0, none⟩, cap, rfl, .inr ⟨g, 0, rfl, fun j f hj => ?_⟩⟩
    have hl : j < ls.length := (List.getElem?_eq_some_iff.1 hj).1
    obtain ⟨h1, h2⟩ := fldC_at ls j f hj
    rw [Nat.zero_add]
    exact ⟨(h.cellAt (j * 2) (by omega)).trans h1, (h.cellAt (j * 2 + 1) (by omega)).trans h2⟩

/-- An append of one field. -/
theorem wpList_append_fld {P : Program} {W w : World} {n v : ByteArray} {ops : Array Oper} {rest : List Oper} {o : Oper} {a : Act} {Q : Exit → Act → World → Prop} (hgd : o.guard = none) (s y : Operand) (t : TypeId)
    (ho : o.op = .call { callee := .builtin .append, args := #[s, y], argTypes := #[t, t] })
    (base : Nat) (e : TypeId) (hW : W = w.alloc (.cells #[.string n, .string v] e)) (i : TypeInfo) (z : Value) (ht : P.underlying t = some (.slice e)) (hi : P.info? e = some i) (hz : i.zero = some z)
    (hsize : i.size = 2) (hby : i.bytes = 32) (hzs : z.cells.size = 2)
    (u : Value) (ls : List FldM) (hs : a.eval s = u) (hown : w.ownsRow base e 2 u ls.length (fldC ls))
    (g : Nat) (hx : a.eval y = .slice (some ⟨g, 0, none⟩) 1 1) (hg0 : g = w.heap.size) (hn : ls.length < 1000000) (hbase : base ≤ w.heap.size)
    (h : ∀ v' w', w'.ownsRow base e 2 v' (ls ++ [(⟨n, v⟩ : FldM)]).length (fldC (ls ++ [(⟨n, v⟩ : FldM)])) → Below base w w' → wpList P ops Q rest (a.put o.dst v') w') : wpList P ops Q (o :: rest) a W := by
  subst hW hg0
  refine wpList_append_own _ hgd s y t ho base e i z 2 32 ht hi hz hsize hby hzs (by decide) u ls.length (fldC ls) hs (hown.alloc _) ⟨w.heap.size, 0, none⟩ 1 1 [.string n, .string v] hx rfl ?_ ?_ ?_ ?_ ?_ ?_
  · intro j x hj
    match j, hj with
    | 0, hj =>
      simp at hj
      subst hj
      exact alloc_cell w _ _ _ 0
    | 1, hj =>
      simp at hj
      subst hj
      exact alloc_cell w _ _ _ 1
    | j + 2, hj => simp at hj
  · intro x hx2
    simp at hx2
    rcases hx2 with rfl | rfl <;> rfl
  · unfold maxLen; omega
  · omega
  · simp; omega
  · intro v' w' hown' hg _
    refine h v' w' ?_ (((Below.refl base w).alloc hbase _).trans (below_own_any (hown.alloc _) hg (by simp; omega)))
    rw [List.length_append, fldC_app]
    exact hown'

/-! another order, great letters -/
def capF (f : FldM) : FldM := ⟨⟨(capL (fnm f)).toArray⟩, f.hv⟩

theorem cap_sim (f : FldM) : simF (capF f) = simF f := by
  have e : fnm (capF f) = capL (fnm f) := rfl
  have e2 : fvl (capF f) = fvl f := rfl
  unfold simF simB
  rw [e, e2, lowL_cap]

theorem cap_low (f : FldM) : lowL (fnm (capF f)) = lowL (fnm f) := lowL_cap (fnm f)

def revF (ls : List FldM) : List FldM := ls.reverse.map capF

theorem rev_cons (f : FldM) (r : List FldM) : revF (f :: r) = revF r ++ [capF f] := by
  unfold revF
  rw [List.reverse_cons, List.map_append]
  rfl

theorem bad_app (a b : List FldM) : badL (a ++ b) = badL a ++ badL b := by unfold badL; rw [List.filter_append, List.map_append]

theorem good_app (a b : List FldM) : goodL (a ++ b) = goodL a ++ goodL b := by unfold goodL; rw [List.filter_append, List.map_append]

theorem sum_app (a b : List FldM) : sumL (a ++ b) = sumL a + sumL b := by unfold sumL; rw [List.filter_append, List.map_append, List.sum_append]

theorem bad_cap (f : FldM) : badL [capF f] = badL [f] := by
  unfold badL
  rw [List.filter_cons, List.filter_cons, cap_sim]
  split
  · rw [List.map_cons, List.map_cons, cap_low]
  · rfl

theorem good_cap (f : FldM) : goodL [capF f] = goodL [f] := by
  unfold goodL
  rw [List.filter_cons, List.filter_cons, cap_sim]
  split
  · rw [List.map_cons, List.map_cons, cap_low]
  · rfl

theorem sum_cap (f : FldM) : sumL [capF f] = sumL [f] := by
  unfold sumL
  rw [List.filter_cons, List.filter_cons, cap_sim]
  split <;> rfl

theorem rev_bad : ∀ (ls : List FldM) (x : List UInt8), x ∈ badL (revF ls) ↔ x ∈ badL ls
  | [], x => Iff.rfl
  | f :: r, x => by
    have ih := rev_bad r x
    have e : badL (f :: r) = badL [f] ++ badL r := bad_app [f] r
    rw [rev_cons, bad_app, bad_cap, e, List.mem_append, List.mem_append, ih]
    exact or_comm

theorem rev_good : ∀ (ls : List FldM) (x : List UInt8), x ∈ goodL (revF ls) ↔ x ∈ goodL ls
  | [], x => Iff.rfl
  | f :: r, x => by
    have ih := rev_good r x
    have e : goodL (f :: r) = goodL [f] ++ goodL r := good_app [f] r
    rw [rev_cons, good_app, good_cap, e, List.mem_append, List.mem_append, ih]
    exact or_comm

theorem rev_sum : ∀ ls : List FldM, sumL (revF ls) = sumL ls
  | [] => rfl
  | f :: r => by
    have ih := rev_sum r
    have e : sumL (f :: r) = sumL [f] + sumL r := sum_app [f] r
    rw [rev_cons, sum_app, sum_cap, e, ih]
    omega

theorem rev_leave (ls : List FldM) (x : List UInt8) : x ∈ leaveL (revF ls) ↔ x ∈ leaveL ls := by
  unfold leaveL
  rw [rev_sum, List.mem_append, List.mem_append, rev_bad]
  split
  · rw [rev_good]
  · simp

theorem tot_app (a b : List FldM) : fldTot (a ++ b) = fldTot a + fldTot b := by
  induction a with
  | nil => simp [fldTot]
  | cons x r ih => simp only [List.cons_append, fldTot, ih]; omega

theorem rev_tot : ∀ ls : List FldM, fldTot (revF ls) = fldTot ls
  | [] => rfl
  | f :: r => by
    have ih := rev_tot r
    rw [rev_cons, tot_app, ih]
    have e : (capF f).hn.size = f.hn.size := by
      show (capL (fnm f)).length = _
      unfold capL fnm
      rw [List.length_map, size_data]
    have e2 : (capF f).hv.size = f.hv.size := rfl
    simp only [fldTot, e, e2]
    omega

end Go.Proofs.Ytfgpcajjnpmoeaa
