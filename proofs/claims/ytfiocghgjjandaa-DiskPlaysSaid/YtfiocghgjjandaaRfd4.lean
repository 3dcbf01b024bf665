/- The two disks' models are twins: a file's place, the rows' turns, what the numbers mean. -/
import Derived.BigRegion
import Derived.Deep.RegionHeld3
import Derived.Test.YtfiocghgjjandaaProg
import Derived.Test.YtfiocghgjjandaaKit
import Derived.Test.YtfiocghgjjandaaRow
import Derived.Test.YtfiocghgjjandaaSha
import Derived.Test.YtfiocghgjjandaaFp
import Derived.Test.YtfiocghgjjandaaRdk0
import Derived.Test.YtfiocghgjjandaaDsk0
import Derived.Test.YtfiocghgjjandaaDsk6
import Derived.Test.YtfiocghgjjandaaDsk7
import Derived.Test.YtfiocghgjjandaaDsk9
import Derived.Test.YtfiocghgjjandaaDsk17
import Derived.Test.YtfiocghgjjandaaNet0
import Derived.Test.YtfiocghgjjandaaRfd0
import Derived.Test.YtfiocghgjjandaaRfd3
namespace Go.Proofs.Ytfiocghgjjandaa
open Go.RowKit Go.Proofs

theorem findM_pos : ∀ (fs : List FileM) (s : List UInt8), findM fs s = (posM fs s).bind (fun k => fs[k]?)
  | [], s => rfl
  | f :: r, s => by
    have ih := findM_pos r s
    unfold findM at ih ⊢
    unfold posM
    rw [List.find?_cons]
    by_cases h : f.name = s
    · rw [if_pos h]; simp [h]
    · rw [if_neg h]
      have h2 : (f.name == s) = false := by simpa using h
      rw [h2]
      simp only
      rw [ih]
      cases posM r s <;> simp

theorem pos_find {fs : List FileM} {s : List UInt8} {k : Nat} (h : posM fs s = some k) : ∃ f, fs[k]? = some f ∧ findM fs s = some f ∧ f.name = s := by
  obtain ⟨f, h1, h2⟩ := posM_some h
  exact ⟨f, h1, by rw [findM_pos, h]; exact h1, h2⟩

theorem pos_nofind {fs : List FileM} {s : List UInt8} (h : posM fs s = none) : findM fs s = none := by rw [findM_pos, h]; rfl

theorem sort_cons {f : FileM} {r : List FileM} (h : SortM (f :: r)) : (∀ g ∈ r, bytesBefore f.name g.name = true) ∧ SortM r := List.pairwise_cons.1 h

theorem sort_ne {f : FileM} {r : List FileM} (h : SortM (f :: r)) {s : List UInt8} (hs : f.name = s) : ∀ g ∈ r, g.name ≠ s := fun g hg e => bef_ne ((sort_cons h).1 g hg) (hs.trans e.symm)

theorem erase_drop : ∀ {fs : List FileM} {s : List UInt8} {k : Nat}, SortM fs → posM fs s = some k → fs.eraseIdx k = dropM s fs
  | f :: r, s, k, hs, h => by
    unfold posM at h
    unfold dropM
    rw [List.filter_cons]
    by_cases hf : f.name = s
    · rw [if_pos hf] at h
      cases h
      rw [if_neg (by simp [hf])]
      exact (dropM_none (sort_ne hs hf)).symm
    · rw [if_neg hf] at h
      obtain ⟨j, hj, rfl⟩ := Option.map_eq_some_iff.1 h
      rw [if_pos (by simpa using hf)]
      show f :: r.eraseIdx j = _
      rw [erase_drop (sort_cons hs).2 hj]
      rfl

theorem setM_none {s : List UInt8} {y : FileM} {r : List FileM} (h : ∀ g ∈ r, g.name ≠ s) : setM s (fun _ => y) r = r := by
  unfold setM
  refine (List.map_congr_left (fun f hf => ?_)).trans (List.map_id r)
  rw [if_neg (h f hf)]
  rfl

theorem set_set : ∀ {fs : List FileM} {s : List UInt8} {k : Nat} (y : FileM), SortM fs → posM fs s = some k → fs.set k y = setM s (fun _ => y) fs
  | f :: r, s, k, y, hs, h => by
    unfold posM at h
    unfold setM
    rw [List.map_cons]
    by_cases hf : f.name = s
    · rw [if_pos hf] at h
      cases h
      rw [if_pos hf, List.set_cons_zero]
      exact congrArg (y :: ·) (setM_none (sort_ne hs hf)).symm
    · rw [if_neg hf] at h
      obtain ⟨j, hj, rfl⟩ := Option.map_eq_some_iff.1 h
      rw [if_neg hf, List.set_cons_succ, set_set y (sort_cons hs).2 hj]
      rfl

theorem ins_at {x : FileM} : ∀ {fs : List FileM} {i : Nat}, SortM fs → i ≤ fs.length → (∀ f ∈ fs.drop i, bytesBefore x.name f.name = true) → (i = 0 ∨ ∃ f, fs[i - 1]? = some f ∧ bytesBefore x.name f.name = false) → fs.take i ++ x :: fs.drop i = insM x fs
  | [], i, _, hi, _, _ => by
    simp at hi
    subst hi
    rfl
  | y :: r, 0, _, _, hd, _ => by
    unfold insM
    rw [if_pos (hd y (by simp))]
    rfl
  | y :: r, i + 1, hs, hi, hd, hb => by
    obtain ⟨f, hf, hbf⟩ := hb.resolve_left (by omega)
    rw [Nat.add_sub_cancel] at hf
    have hxy : bytesBefore x.name y.name = false := by
      cases i with
      | zero => simp at hf; rw [hf]; exact hbf
      | succ j =>
        cases hq : bytesBefore x.name y.name with
        | false => rfl
        | true =>
          rw [List.getElem?_cons_succ] at hf
          have := bef_trans hq ((sort_cons hs).1 f (List.mem_of_getElem? hf))
          rw [hbf] at this
          cases this
    unfold insM
    rw [hxy, if_neg (by decide), ← ins_at (x := x) (fs := r) (i := i) (sort_cons hs).2 (by simpa using hi) (fun f hf => hd f (by simpa using hf)) ?_]
    · rfl
    · cases i with
      | zero => exact .inl rfl
      | succ j => exact .inr ⟨f, by rw [Nat.add_sub_cancel]; simpa using hf, hbf⟩

theorem bef_asym {a b : List UInt8} (h : bytesBefore a b = true) : bytesBefore b a = false := by
  cases hq : bytesBefore b a with
  | false => rfl
  | true => have := bef_trans h hq; rw [bef_irr] at this; cases this

theorem sort_get {fs : List FileM} (hs : SortM fs) {i j : Nat} {f g : FileM} (hi : fs[i]? = some f) (hj : fs[j]? = some g) (h : i < j) : bytesBefore f.name g.name = true := by
  obtain ⟨h1, rfl⟩ := List.getElem?_eq_some_iff.1 hi
  obtain ⟨h2, rfl⟩ := List.getElem?_eq_some_iff.1 hj
  exact List.pairwise_iff_getElem.1 hs i j h1 h2 h

/-- A file put where it was is where it was. -/
theorem put_back {fs : List FileM} {s : List UInt8} {k : Nat} {f : FileM} (hs : SortM fs) (h : posM fs s = some k) (hf : fs[k]? = some f) : putM ⟨s, f.b, f.syn⟩ (dropM s fs) = fs := by
  obtain ⟨f2, h1, h2, h3⟩ := pos_find h
  rw [hf] at h1
  cases h1
  have hk := (List.getElem?_eq_some_iff.1 hf).1
  have hx : (⟨s, f.b, f.syn⟩ : FileM) = f := by rw [← h3]
  rw [hx]
  unfold putM
  rw [h3, dropM_none (s := s) (fs := dropM s fs) (fun g hg => (dropM_mem.1 hg).2), ← erase_drop hs h]
  rw [← ins_at (x := f) (fs := fs.eraseIdx k) (i := k) (by rw [erase_drop hs h]; exact dropM_sort hs) (by rw [List.length_eraseIdx, if_pos hk]; omega) ?_ ?_]
  · rw [List.eraseIdx_eq_take_drop_succ, List.take_append, List.drop_append, List.take_take, List.length_take, show min k fs.length = k by omega, Nat.sub_self, Nat.min_self, List.take_zero, List.append_nil, List.drop_of_length_le (l := fs.take k) (by rw [List.length_take]; omega), List.nil_append, List.drop_zero]
    conv => rhs; rw [← List.take_append_drop k fs]
    rw [List.drop_eq_getElem_cons hk, (List.getElem?_eq_some_iff.1 hf).2]
  · intro g hg
    rw [List.eraseIdx_eq_take_drop_succ, List.drop_append, List.length_take, show min k fs.length = k by omega, Nat.sub_self, List.drop_of_length_le (l := fs.take k) (by rw [List.length_take]; omega), List.nil_append, List.drop_zero] at hg
    obtain ⟨j, hj⟩ := List.mem_iff_getElem?.1 hg
    rw [List.getElem?_drop] at hj
    exact sort_get hs hf hj (by omega)
  · cases k with
    | zero => exact .inl rfl
    | succ j =>
      obtain ⟨g, hg⟩ : ∃ g, fs[j]? = some g := ⟨_, List.getElem?_eq_getElem (by omega)⟩
      refine .inr ⟨g, ?_, bef_asym (sort_get hs hg hf (by omega))⟩
      rw [Nat.add_sub_cancel, List.getElem?_eraseIdx, if_pos (by omega)]
      exact hg

/-- The same disk, in both's words. -/
structure TwinM (C : CodM) (D : DiskM) : Prop where
  fs : D.fs = C.fs
  room : D.room = C.room
  n : D.n = C.ops
  notCut : C.cut = false → D.last < 0
  isCut : C.cut = true → 0 ≤ D.last ∧ ((C.left : Int) = max (D.last - C.ops) 0 ∨ (1152921504606846976 ≤ C.left + C.ops ∧ 1152921504606846976 ≤ D.last))

theorem twin_tick {C : CodM} {D : DiskM} (T : TwinM C D) (ho : C.ops < 1000000000) : goesM C = !offM D ∧ TwinM (tickM C) D.op := by
  obtain ⟨hf, hr, hn, hon, hoff⟩ := T
  cases hc : C.cut with
  | false =>
    have h := hon hc
    refine ⟨?_, hf, hr, by show D.n + 1 = C.ops + 1; rw [hn], fun _ => h, fun h => ?_⟩
    · unfold goesM offM
      rw [hc, decide_eq_false (by omega : ¬ 0 ≤ D.last)]
      rfl
    · have : (tickM C).cut = C.cut := rfl
      rw [this, hc] at h
      cases h
  | true =>
    obtain ⟨h0, h1⟩ := hoff hc
    refine ⟨?_, hf, hr, by show D.n + 1 = C.ops + 1; rw [hn], fun h => ?_, fun _ => ?_⟩
    · unfold goesM offM
      rw [hc, decide_eq_true h0, hn]
      rcases Nat.eq_zero_or_pos C.left with hl | hl
      · rw [decide_eq_false (by omega : ¬ C.left ≠ 0), decide_eq_true (by omega)]; rfl
      · rw [decide_eq_true (by omega : C.left ≠ 0), decide_eq_false (by omega)]; rfl
    · have : (tickM C).cut = C.cut := rfl
      rw [this, hc] at h
      cases h
    · have e1 : (tickM C).left = C.left - 1 := by unfold tickM; rw [hc]; rfl
      have e2 : (tickM C).ops = C.ops + 1 := rfl
      have e3 : D.op.last = D.last := rfl
      rw [e1, e2, e3]
      omega

theorem twin_with {C : CodM} {D : DiskM} (T : TwinM C D) (fs : List FileM) : TwinM (withM C fs) { D with fs := fs } := ⟨rfl, T.room, T.n, T.notCut, T.isCut⟩

theorem twin_cut {C : CodM} {D : DiskM} (T : TwinM C D) (ho : C.ops < 1000000000) (n : Int) : TwinM (cutM C n) (D.cutAt n) := by
  refine ⟨T.fs, T.room, T.n, fun h => (by cases h), fun _ => ?_⟩
  have e1 : (cutM C n).left = n.toNat := rfl
  have e2 : (cutM C n).ops = C.ops := rfl
  have e3 : (D.cutAt n).last = (D.n : Int) + min (max n 0) 1152921504606846976 := rfl
  have := T.n
  rw [e1, e2, e3]
  omega

/-- What stays so. -/
structure COk (C : CodM) : Prop where
  sort : SortM C.fs
  syn : ∀ f ∈ C.fs, f.syn ≤ f.b.length
  len : C.fs.length ≤ 64
  size : sizeM C.fs ≤ C.room
  room : C.room ≤ 4194304

/-- The reference disk of a twin. -/
def RTw (w : World) (Y : Nat → Prop) (h : Nat) (C : CodM) : Prop := ∃ D, TwinM C D ∧ RefI w Y h D

def RTwV (w w' : World) (Y : Nat → Prop) (h : Nat) (C : CodM) : Prop := RTw w' (fun k => Y k ∨ (w.heap.size ≤ k ∧ k < w'.heap.size)) h C ∧ Kept Y w w'

theorem rowsF_set : ∀ {ps : List RecF} {i : Nat} {r r' : RecF} {j : Nat} {u : Value}, ps[i]? = some r → j < 3 → (cellsF r).set j u = cellsF r' → (rowsF ps).set (i * 3 + j) u = rowsF (ps.set i r')
  | p :: t, 0, r, r', j, u, h, hj, hc => by
    cases h
    show (cellsF p ++ rowsF t).set (0 * 3 + j) u = cellsF r' ++ rowsF t
    rw [Nat.zero_mul, Nat.zero_add, List.set_append_left _ _ (by show j < 3; exact hj), hc]
  | p :: t, i + 1, r, r', j, u, h, hj, hc => by
    show (cellsF p ++ rowsF t).set ((i + 1) * 3 + j) u = cellsF p ++ rowsF (t.set i r')
    rw [List.set_append_right _ _ (by show 3 ≤ _; omega), show (i + 1) * 3 + j - (cellsF p).length = i * 3 + j by show _ - 3 = _; omega, rowsF_set (by simpa using h) hj hc]

theorem refR_put1 {w : World} {Y : Nat → Prop} {h : Nat} {D : DiskM} {gl n c : Nat} {ps : List RecF} {X : Nat → Prop} (H : RefR w Y h D (.slice (some ⟨gl, 0, none⟩) n c) ps X) (hn : n = ps.length) {i : Nat} {r : RecF} (hi : ps[i]? = some r) {j : Nat} (hj : j < 3) (u : Value) (r' : RecF) (hc : (cellsF r).set j u = cellsF r') (hr : ByteZ w X r'.u r'.f.b) (fs : List FileM) (hfs : (ps.set i r').map (·.f) = fs) :
    RefR (w.setCell ⟨gl, i * 3 + j, none⟩ u) Y h { D with fs := fs } (.slice (some ⟨gl, 0, none⟩) n c) (ps.set i r') X ∧ Kept (fun k => k = gl) w (w.setCell ⟨gl, i * 3 + j, none⟩ u) := by
  have hne : h ≠ gl := fun e => refR_lh H (by rw [e]; rfl)
  have hX : ∀ k, X k → (w.setCell ⟨gl, i * 3 + j, none⟩ u).heap[k]? = w.heap[k]? := fun k hk => heap_put w (fun e => (H.xy k hk).2.2.1 (by rw [e]; rfl)) _ _
  have ho := H.own
  rw [← hn] at ho
  refine ⟨⟨hfs, H.yh, Rw.other H.rwd (fun e => hne e.symm) _ _, ?_, H.yl, fun k hk => ⟨(H.xy k hk).1, (H.xy k hk).2.1, (H.xy k hk).2.2.1, by have := (H.xy k hk).2.2.2; simpa [World.setCell] using this⟩, ?_⟩, kept_put (kept_refl (fun k => k = gl) w) (.inl rfl) _ _⟩
  · rw [List.length_set, ← hn, ← rowsF_set hi hj hc]
    exact (World.ownsRow.stored ho _ u).1
  · intro q hq
    rcases List.mem_or_eq_of_mem_set hq with hq | rfl
    · exact byteZ_keep (H.bys q hq) (fun k _ hk => hX k hk) (fun _ h => h)
    · exact byteZ_keep hr (fun k _ hk => hX k hk) (fun _ h => h)

/-- New blocks are its own from now on. -/
theorem refR_newX {w w' : World} {Y : Nat → Prop} {h : Nat} {D : DiskM} {L : Value} {rs : List RecF} {X : Nat → Prop} (H : RefR w Y h D L rs X) (hb : Below w.heap.size w w') :
    RefR w' (fun k => Y k ∨ (w.heap.size ≤ k ∧ k < w'.heap.size)) h D L rs (fun k => X k ∨ (w.heap.size ≤ k ∧ k < w'.heap.size)) := by
  have h1 := refR_below H hb
  have hlt := refR_lt H
  refine ⟨h1.fs, .inl h1.yh, h1.rwd, h1.own, fun k hk => .inl (h1.yl k hk), fun k hk => ?_, fun r hr => byteZ_keep (h1.bys r hr) (fun _ _ _ => rfl) (fun _ h => .inl h)⟩
  rcases hk with hk | hk
  · exact ⟨.inl (h1.xy k hk).1, (h1.xy k hk).2⟩
  · exact ⟨.inr hk, by omega, fun e => by have := own_lt H.own e; omega, hk.2⟩

theorem xV_eq (s : ByteArray) (l : List UInt8) (i : Nat) (u : Value) : xV ⟨⟨s.data.toList, l, i⟩, u⟩ = .agg #[.string s, u, .int .i64 i] := by
  unfold xV nameV
  rfl

theorem map_putI (rs : List RecF) (x : RecF) (i : Nat) : (putI rs x i).map (·.f) = (rs.map (·.f)).take i ++ x.f :: (rs.map (·.f)).drop i := by
  unfold putI
  rw [List.map_append, List.map_cons, List.map_take, List.map_drop]

/-- put, on a row by rising names that lacks the name. -/
theorem rput_tw {w : World} {Y : Nat → Prop} {h : Nat} {D : DiskM} {L : Value} {rs : List RecF} {X : Nat → Prop} (H : RefR w Y h D L rs X) (x : RecF) (hx : ByteZ w X x.u x.f.b) (hl : rs.length ≤ 64) (hs : SortM D.fs) (hp : ∀ f ∈ D.fs, f.name ≠ x.f.name) :
    Calls Try.prog 47 #[.pointer (some ⟨h, 0, none⟩), xV x] w fun e w' => e = .returned (.tuple #[]) ∧ RefI w' (fun k => Y k ∨ (w.heap.size ≤ k ∧ k < w'.heap.size)) h { D with fs := putM x.f D.fs } ∧ Kept Y w w' := by
  refine (rput_any H x hx hl).mono ?_
  rintro e w' ⟨rfl, i, L', hi, ⟨⟨h1, h2⟩, h3⟩, h4⟩
  have hfs := H.fs
  have e : (putD D rs x i) = { D with fs := putM x.f D.fs } := by
    unfold putD
    rw [map_putI, hfs]
    have := ins_at (x := x.f) (fs := D.fs) (i := i) hs (by rw [← hfs, List.length_map]; exact hi) (fun f hf => by
        rw [← hfs, ← List.map_drop] at hf
        obtain ⟨r, hr, rfl⟩ := List.mem_map.1 hf
        exact h3 r hr) (h4.imp id (fun ⟨r, hr, hb⟩ => ⟨r.f, by rw [← hfs, List.getElem?_map, hr]; rfl, hb⟩))
    rw [this]
    unfold putM
    rw [dropM_none hp]
  rw [e] at h1
  exact ⟨rfl, ⟨_, _, _, h1⟩, h2⟩

theorem rtwV_mk {w w' : World} {Y : Nat → Prop} {h : Nat} {C : CodM} {D : DiskM} {L : Value} {rs : List RecF} {X : Nat → Prop} (T : TwinM C D) (H : RefR w' (fun k => Y k ∨ (w.heap.size ≤ k ∧ k < w'.heap.size)) h D L rs X) (hk : Kept Y w w') : RTwV w w' Y h C := ⟨⟨D, T, L, rs, X, H⟩, hk⟩

theorem rtwV_same {w w' : World} {Y : Nat → Prop} {h : Nat} {C : CodM} {D : DiskM} {L : Value} {rs : List RecF} {X : Nat → Prop} (T : TwinM C D) (H : RefR w' Y h D L rs X) (hk : Kept (fun k => k = h) w w') : RTwV w w' Y h C :=
  rtwV_mk T (refR_more H (fun _ h => .inl h)) (kept_mono hk (fun k e => by subst e; exact .inl H.yh))

theorem byteSl_zero (w : World) : (w.alloc (.cells #[] 5)).ownsRow w.heap.size 5 1 (.slice (some ⟨w.heap.size, 0, none⟩) 0 0) 0 (([] : List UInt8).map byteV) := World.ownsRow_made w #[] 0 (Nat.le_refl _) (by decide) rfl

theorem byteZ_own {w : World} {Z : Nat → Prop} {base : Nat} {v : Value} {l : List UInt8} (h : w.ownsRow base 5 1 v l.length (l.map byteV)) (hZ : ∀ k, v.ownBlock = some k → Z k) : ByteZ w Z v l := by
  rcases h.2 with ⟨rfl, hn⟩ | ⟨g, cap, cur, rfl, _, _, hc, _⟩
  · have : l = [] := List.eq_nil_of_length_eq_zero hn
    subst this
    exact .inl ⟨rfl, rfl⟩
  · refine .inr ⟨_, cap, rfl, hc, .inr ⟨g, 0, rfl, hZ g rfl, fun j x hj => ?_⟩⟩
    rw [Nat.zero_add]
    have hlt := (List.getElem?_eq_some_iff.1 hj).1
    rw [World.ownsRow.cellAt h j (by omega), List.getElem?_map, hj]
    rfl

end Go.Proofs.Ytfiocghgjjandaa
