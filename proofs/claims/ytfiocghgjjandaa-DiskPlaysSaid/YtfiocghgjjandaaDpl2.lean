/- What stays so in both disks' models; the two of them side by side. -/
import Derived.BigRegion
import Derived.Deep.RegionHeld3
import Derived.Test.YtfiocghgjjandaaProg
import Derived.Test.YtfiocghgjjandaaKit
import Derived.Test.YtfiocghgjjandaaRow
import Derived.Test.YtfiocghgjjandaaJoin
import Derived.Test.YtfiocghgjjandaaFp
import Derived.Test.YtfiocghgjjandaaRdk0
import Derived.Test.YtfiocghgjjandaaDsk0
import Derived.Test.YtfiocghgjjandaaDsk1
import Derived.Test.YtfiocghgjjandaaDsk6
import Derived.Test.YtfiocghgjjandaaDsk7
import Derived.Test.YtfiocghgjjandaaDsk8
import Derived.Test.YtfiocghgjjandaaDsk9
import Derived.Test.YtfiocghgjjandaaDsk12
import Derived.Test.YtfiocghgjjandaaDsk13
import Derived.Test.YtfiocghgjjandaaDsk15
import Derived.Test.YtfiocghgjjandaaDsk17
import Derived.Test.YtfiocghgjjandaaNet0
import Derived.Test.YtfiocghgjjandaaRfd0
import Derived.Test.YtfiocghgjjandaaRfd4
import Derived.Test.YtfiocghgjjandaaRfd5
import Derived.Test.YtfiocghgjjandaaRfd7
namespace Go.Proofs.Ytfiocghgjjandaa
open Go.RowKit Go.Proofs

theorem insD_len {x : FileM} : ∀ {fs : List FileM}, (insM x fs).length = fs.length + 1
  | [] => rfl
  | y :: r => by
    unfold insM
    split
    · rfl
    · rw [List.length_cons, insD_len, List.length_cons]

theorem insD_size {x : FileM} : ∀ {fs : List FileM}, sizeM (insM x fs) = x.b.length + sizeM fs
  | [] => by simp [insM, sizeM]
  | y :: r => by
    have ih := insD_size (x := x) (fs := r)
    unfold insM
    unfold sizeM at ih ⊢
    split
    · rw [List.map_cons, List.sum_cons]
    · rw [List.map_cons, List.sum_cons, ih, List.map_cons, List.sum_cons]
      omega

structure FsOk (room : Nat) (fs : List FileM) : Prop where
  sort : SortM fs
  syn : ∀ f ∈ fs, f.syn ≤ f.b.length
  len : fs.length ≤ 64
  size : sizeM fs ≤ room

theorem cok_of {C : CodM} (h : FsOk C.room C.fs) (hr : C.room ≤ 4194304) : COk C := ⟨h.sort, h.syn, h.len, h.size, hr⟩

theorem fsok_of {C : CodM} (h : COk C) : FsOk C.room C.fs := ⟨h.sort, h.syn, h.len, h.size⟩

theorem sizeM_cons (f : FileM) (r : List FileM) : sizeM (f :: r) = f.b.length + sizeM r := rfl

theorem set_sizeM : ∀ {fs : List FileM} {k : Nat} {f : FileM} (y : FileM), fs[k]? = some f → sizeM (fs.set k y) + f.b.length = sizeM fs + y.b.length
  | p :: t, 0, f, y, h => by
    cases h
    rw [List.set_cons_zero, sizeM_cons, sizeM_cons]
    omega
  | p :: t, k + 1, f, y, h => by
    have := set_sizeM y (show t[k]? = some f by simpa using h)
    rw [List.set_cons_succ, sizeM_cons, sizeM_cons]
    omega

theorem find_pos {fs : List FileM} {s : List UInt8} {f : FileM} (h : findM fs s = some f) : ∃ k, posM fs s = some k ∧ fs[k]? = some f := by
  cases hp : posM fs s with
  | none => rw [pos_nofind hp] at h; cases h
  | some k =>
    obtain ⟨f2, h1, h2, _⟩ := pos_find hp
    rw [h] at h2
    cases h2
    exact ⟨k, rfl, h1⟩

theorem fsok_set {room : Nat} {fs : List FileM} {s : List UInt8} {f : FileM} (h : FsOk room fs) (hf : findM fs s = some f) (y : FileM) (hy : y.name = s) (hs : y.syn ≤ y.b.length) (hz : sizeM fs + y.b.length ≤ room + f.b.length) : FsOk room (setM s (fun _ => y) fs) := by
  obtain ⟨k, hp, hk⟩ := find_pos hf
  have e := set_set y h.sort hp
  refine ⟨setM_sort h.sort (fun _ _ => hy), ?_, ?_, ?_⟩
  · rw [← e]
    intro g hg
    rcases List.mem_or_eq_of_mem_set hg with hg | rfl
    · exact h.syn g hg
    · exact hs
  · rw [← e, List.length_set]
    exact h.len
  · have := set_sizeM y hk
    rw [← e]
    omega

theorem fsok_mem {room : Nat} {fs : List FileM} {s : List UInt8} {f : FileM} (h : FsOk room fs) (hf : findM fs s = some f) : f.syn ≤ f.b.length ∧ f.b.length ≤ sizeM fs := ⟨h.syn f (findM_some hf).1, sizeM_mem (findM_some hf).1⟩

theorem dropM_size {s : List UInt8} : ∀ {fs : List FileM}, sizeM (dropM s fs) ≤ sizeM fs
  | [] => Nat.le_refl _
  | f :: r => by
    have ih := dropM_size (s := s) (fs := r)
    unfold dropM at ih ⊢
    rw [List.filter_cons]
    split
    · rw [sizeM_cons, sizeM_cons]; omega
    · rw [sizeM_cons]; omega

theorem erase_size : ∀ {fs : List FileM} {k : Nat} {f : FileM}, fs[k]? = some f → sizeM (fs.eraseIdx k) + f.b.length = sizeM fs ∧ (fs.eraseIdx k).length + 1 = fs.length
  | p :: t, 0, f, h => by
    cases h
    exact ⟨by rw [sizeM_cons]; show sizeM t + _ = _; omega, rfl⟩
  | p :: t, k + 1, f, h => by
    have ih := erase_size (show t[k]? = some f by simpa using h)
    refine ⟨?_, ?_⟩
    · show sizeM (p :: t.eraseIdx k) + _ = _
      rw [sizeM_cons, sizeM_cons]
      omega
    · show (p :: t.eraseIdx k).length + 1 = _
      simp only [List.length_cons]
      omega

theorem fsok_drop {room : Nat} {fs : List FileM} {s : List UInt8} (h : FsOk room fs) : FsOk room (dropM s fs) :=
  ⟨dropM_sort h.sort, fun f hf => h.syn f (dropM_mem.1 hf).1, Nat.le_trans dropM_len h.len, Nat.le_trans dropM_size h.size⟩

theorem fsok_put {room : Nat} {fs : List FileM} (h : FsOk room fs) (x : FileM) (hs : x.syn ≤ x.b.length) (hl : fs.length < 64) (hz : sizeM fs + x.b.length ≤ room) : FsOk room (putM x fs) := by
  refine ⟨putM_sort h.sort, ?_, ?_, ?_⟩
  · intro f hf
    rcases insM_mem.1 hf with rfl | hf
    · exact hs
    · exact h.syn f (dropM_mem.1 hf).1
  · unfold putM
    rw [insD_len]
    have := dropM_len (s := x.name) (fs := fs)
    omega
  · unfold putM
    rw [insD_size]
    have := dropM_size (s := x.name) (fs := fs)
    omega

theorem fsok_app {C : CodM} (h : FsOk C.room C.fs) (s m : List UInt8) : FsOk C.room (appM C s m).2.fs := by
  unfold appM
  split
  · exact h
  · split
    · exact h
    · split
      · exact h
      · rename_i hfull
        have hfull2 : fullM C s m.length = false := by simpa using hfull
        unfold fullM at hfull2
        rw [Bool.or_eq_false_iff] at hfull2
        obtain ⟨h1, h2⟩ := hfull2
        have hz : sizeM C.fs + m.length ≤ C.room := by simpa using h2
        show FsOk C.room (addM C.fs s m)
        unfold addM
        cases hf : findM C.fs s with
        | none =>
          have hl : C.fs.length < 64 := by rw [hf] at h1; simpa using h1
          exact fsok_put h ⟨s, m, 0⟩ (Nat.zero_le _) hl hz
        | some f =>
          obtain ⟨e1, e2⟩ := fsok_mem h hf
          exact fsok_set h hf ⟨s, f.b ++ m, f.syn⟩ rfl (by show f.syn ≤ (f.b ++ m).length; rw [List.length_append]; omega) (by show _ + (f.b ++ m).length ≤ _; rw [List.length_append]; omega)

theorem fsok_syn {room : Nat} : ∀ {ns : List ByteArray} {fs : List FileM}, FsOk room fs → FsOk room (syncA fs ns)
  | [], _, h => h
  | s :: r, fs, h => by
    refine fsok_syn (ns := r) (fs := syncO fs s.data.toList) ?_
    unfold syncO
    cases hf : findM fs s.data.toList with
    | none => exact h
    | some f => exact fsok_set h hf ⟨s.data.toList, f.b, f.b.length⟩ rfl (Nat.le_refl _) (Nat.add_le_add_right h.size _)

theorem fsok_synM {C : CodM} (h : FsOk C.room C.fs) (ns : List ByteArray) : FsOk C.room (synM C ns).2.fs := by
  unfold synM
  split
  · exact h
  · split
    · exact h
    · exact fsok_syn h

theorem fsok_truM {C : CodM} (h : FsOk C.room C.fs) (s : List UInt8) (n : Int) : FsOk C.room (truM C s n).2.fs := by
  unfold truM
  split
  · exact h
  · cases hf : findM C.fs s with
    | none => exact h
    | some f =>
      simp only
      split
      · exact h
      · obtain ⟨e1, e2⟩ := fsok_mem h hf
        have := h.size
        exact fsok_set h hf ⟨s, f.b.take n.toNat, min f.syn n.toNat⟩ rfl (by show min f.syn n.toNat ≤ (f.b.take n.toNat).length; rw [List.length_take]; omega) (by show _ + (f.b.take n.toNat).length ≤ _; rw [List.length_take]; omega)

theorem fsok_remM {C : CodM} (h : FsOk C.room C.fs) (s : List UInt8) : FsOk C.room (remM C s).2.fs := by
  unfold remM
  split
  · exact h
  · cases hf : findM C.fs s with
    | none => exact h
    | some f => exact fsok_drop h

theorem fsok_renM {C : CodM} (h : FsOk C.room C.fs) (s t : List UInt8) : FsOk C.room (renM C s t).2.fs := by
  unfold renM
  split
  · exact h
  · cases hf : findM C.fs s with
    | none => exact h
    | some f =>
      simp only
      split
      · exact h
      · obtain ⟨k, hp, hk⟩ := find_pos hf
        obtain ⟨e1, e2⟩ := erase_size hk
        rw [erase_drop h.sort hp] at e1 e2
        have := h.size
        have := h.len
        exact fsok_put (fsok_drop h) ⟨t, f.b, f.syn⟩ (fsok_mem h hf).1 (by omega) (by show _ + f.b.length ≤ _; omega)

theorem last_le {f : FileM} {q : Nat} (h : f.syn + q ≤ f.b.length) : (lastM f q).syn ≤ (lastM f q).b.length ∧ (lastM f q).b.length ≤ f.b.length := by
  unfold lastM
  simp only [List.length_take]
  omega

theorem crash_rel : ∀ {fs : List FileM} {ps : List Int}, (∀ f ∈ fs, f.syn ≤ f.b.length) → (crashL fs ps).map (·.name) = fs.map (·.name) ∧ (∀ g ∈ crashL fs ps, g.syn ≤ g.b.length) ∧ sizeM (crashL fs ps) ≤ sizeM fs
  | [], ps, _ => by cases ps <;> exact ⟨rfl, fun g hg => absurd hg (by simp [crashL]), Nat.le_refl _⟩
  | f :: r, ps, h => by
    obtain ⟨q, ps', e, hq⟩ : ∃ q ps', crashL (f :: r) ps = lastM f q :: crashL r ps' ∧ f.syn + q ≤ f.b.length := by
      have h0 := h f (by simp)
      by_cases hs : f.syn < f.b.length
      · cases ps with
        | nil => exact ⟨0, [], crashL_none, by omega⟩
        | cons p t =>
          refine ⟨_, t, crashL_take hs, ?_⟩
          have h1 := Int.emod_nonneg p (show ((f.b.length - f.syn + 1 : Nat) : Int) ≠ 0 by omega)
          have h2 := Int.emod_lt_of_pos p (show (0 : Int) < ((f.b.length - f.syn + 1 : Nat) : Int) by omega)
          omega
      · exact ⟨0, ps, crashL_skip hs, by omega⟩
    obtain ⟨a, b, c⟩ := crash_rel (fs := r) (ps := ps') (fun g hg => h g (by simp [hg]))
    obtain ⟨l1, l2⟩ := last_le hq
    rw [e]
    refine ⟨?_, fun g hg => ?_, ?_⟩
    · rw [List.map_cons, List.map_cons, a]
      rfl
    · rcases List.mem_cons.1 hg with rfl | hg
      · exact l1
      · exact b g hg
    · rw [sizeM_cons, sizeM_cons]
      omega

theorem fsok_crash {room : Nat} {fs : List FileM} (h : FsOk room fs) (ps : List Int) : FsOk room (crashL fs ps) := by
  obtain ⟨a, b, c⟩ := crash_rel (ps := ps) h.syn
  refine ⟨?_, b, ?_, Nat.le_trans c h.size⟩
  · have hs := h.sort
    unfold SortM at hs ⊢
    rw [← List.pairwise_map (f := fun g : FileM => g.name) (R := fun a b => bytesBefore a b = true)] at hs ⊢
    rw [a]
    exact hs
  · have := congrArg List.length a
    rw [List.length_map, List.length_map] at this
    rw [this]
    exact h.len

def NamOk (fs : List FileM) : Prop := ∀ f ∈ fs, f.name.length ≤ 100

theorem nam_set {fs : List FileM} {s : List UInt8} {f y : FileM} (h : NamOk fs) (hs : SortM fs) (hf : findM fs s = some f) (hy : y.name = s) : NamOk (setM s (fun _ => y) fs) := by
  obtain ⟨k, hp, hk⟩ := find_pos hf
  rw [← set_set y hs hp]
  intro g hg
  rcases List.mem_or_eq_of_mem_set hg with hg | rfl
  · exact h g hg
  · rw [hy, ← (findM_some hf).2]
    exact h f (findM_some hf).1

theorem nam_drop {fs : List FileM} {s : List UInt8} (h : NamOk fs) : NamOk (dropM s fs) := fun f hf => h f (dropM_mem.1 hf).1

theorem nam_put {fs : List FileM} {x : FileM} (h : NamOk fs) (hx : x.name.length ≤ 100) : NamOk (putM x fs) := fun f hf => by
  rcases insM_mem.1 hf with rfl | hf
  · exact hx
  · exact nam_drop h f hf

theorem nameB_len {s : List UInt8} (h : nameB s = true) : s.length ≤ 100 := by
  unfold nameB at h
  simp only [Bool.and_eq_true, decide_eq_true_eq] at h
  exact h.2

theorem nam_app {C : CodM} (h : NamOk C.fs) (hs : SortM C.fs) (s m : List UInt8) : NamOk (appM C s m).2.fs := by
  unfold appM
  split
  · exact h
  · split
    · exact h
    · rename_i hn
      split
      · exact h
      · show NamOk (addM C.fs s m)
        unfold addM
        cases hf : findM C.fs s with
        | none => exact nam_put h (nameB_len (by simpa using hn))
        | some f => exact nam_set h hs hf rfl

theorem nam_sync : ∀ {ns : List ByteArray} {fs : List FileM}, NamOk fs → SortM fs → NamOk (syncA fs ns)
  | [], _, h, _ => h
  | s :: r, fs, h, hs => by
    refine nam_sync (ns := r) (fs := syncO fs s.data.toList) ?_ (syncO_sort hs)
    unfold syncO
    cases hf : findM fs s.data.toList with
    | none => exact h
    | some f => exact nam_set h hs hf rfl

theorem nam_syn {C : CodM} (h : NamOk C.fs) (hs : SortM C.fs) (ns : List ByteArray) : NamOk (synM C ns).2.fs := by
  unfold synM
  split
  · exact h
  · split
    · exact h
    · exact nam_sync h hs

theorem nam_tru {C : CodM} (h : NamOk C.fs) (hs : SortM C.fs) (s : List UInt8) (n : Int) : NamOk (truM C s n).2.fs := by
  unfold truM
  split
  · exact h
  · cases hf : findM C.fs s with
    | none => exact h
    | some f =>
      simp only
      split
      · exact h
      · exact nam_set h hs hf rfl

theorem nam_rem {C : CodM} (h : NamOk C.fs) (s : List UInt8) : NamOk (remM C s).2.fs := by
  unfold remM
  split
  · exact h
  · cases hf : findM C.fs s with
    | none => exact h
    | some f => exact nam_drop h

theorem nam_ren {C : CodM} (h : NamOk C.fs) (s t : List UInt8) : NamOk (renM C s t).2.fs := by
  unfold renM
  split
  · exact h
  · cases hf : findM C.fs s with
    | none => exact h
    | some f =>
      simp only
      split
      · exact h
      · rename_i hn
        exact nam_put (nam_drop h) (nameB_len (by simpa using hn))

theorem nam_crash {fs : List FileM} (h : NamOk fs) (hs : ∀ f ∈ fs, f.syn ≤ f.b.length) (ps : List Int) : NamOk (crashL fs ps) := fun f hf => by
  obtain ⟨a, _⟩ := crash_rel (ps := ps) hs
  have h1 : f.name ∈ (crashL fs ps).map (·.name) := List.mem_map.2 ⟨f, hf, rfl⟩
  rw [a] at h1
  obtain ⟨g, hg, e⟩ := List.mem_map.1 h1
  rw [← e]
  exact h g hg

/-- All that is known of a disk between two steps. -/
structure CAll (C : CodM) (k : Nat) : Prop where
  ok : COk C
  nam : NamOk C.fs
  ops : C.ops ≤ k
  left : C.left < 9223372036854775808

theorem call_ok {C : CodM} {k : Nat} (h : CAll C k) (hk : k ≤ 1000) : CodOk C := by
  have h1 := h.ok.size
  have h2 := h.ok.room
  have h3 := h.ok.len
  have h4 := h.ops
  exact ⟨by omega, h1, by omega, h.left, by omega⟩

theorem tick_left (C : CodM) : (tickM C).left ≤ C.left := by unfold tickM; simp only; split <;> omega

theorem call_step {C C' : CodM} {k : Nat} (h : CAll C k) (hf : FsOk C.room C'.fs) (hr : C'.room = C.room) (ho : C'.ops = C.ops + 1) (hl : C'.left ≤ C.left) (hn : NamOk C'.fs) : CAll C' (k + 1) :=
  ⟨cok_of (by rw [hr]; exact hf) (by rw [hr]; exact h.ok.room), hn, by rw [ho]; have := h.ops; omega, Nat.lt_of_le_of_lt hl h.left⟩

theorem parts3 {C : CodM} {r : Int × CodM} (h : r.2 = tickM C ∨ ∃ fs, r.2 = withM (tickM C) fs) : r.2.room = C.room ∧ r.2.ops = C.ops + 1 ∧ r.2.left ≤ C.left := by
  rcases h with h | ⟨fs, h⟩ <;> rw [h] <;> exact ⟨rfl, rfl, tick_left C⟩

theorem app_form (C : CodM) (s m : List UInt8) : (appM C s m).2 = tickM C ∨ ∃ fs, (appM C s m).2 = withM (tickM C) fs := by
  unfold appM
  split
  · exact .inl rfl
  · split
    · exact .inl rfl
    · split
      · exact .inl rfl
      · exact .inr ⟨_, rfl⟩

theorem syn_form (C : CodM) (ns : List ByteArray) : (synM C ns).2 = tickM C ∨ ∃ fs, (synM C ns).2 = withM (tickM C) fs := by
  unfold synM
  split
  · exact .inl rfl
  · split
    · exact .inl rfl
    · exact .inr ⟨_, rfl⟩

theorem tru_form (C : CodM) (s : List UInt8) (n : Int) : (truM C s n).2 = tickM C ∨ ∃ fs, (truM C s n).2 = withM (tickM C) fs := by
  unfold truM
  split
  · exact .inl rfl
  · cases findM C.fs s with
    | none => exact .inl rfl
    | some f =>
      simp only
      split
      · exact .inl rfl
      · exact .inr ⟨_, rfl⟩

theorem rem_form (C : CodM) (s : List UInt8) : (remM C s).2 = tickM C ∨ ∃ fs, (remM C s).2 = withM (tickM C) fs := by
  unfold remM
  split
  · exact .inl rfl
  · cases findM C.fs s with
    | none => exact .inl rfl
    | some f => exact .inr ⟨_, rfl⟩

theorem ren_form (C : CodM) (s t : List UInt8) : (renM C s t).2 = tickM C ∨ ∃ fs, (renM C s t).2 = withM (tickM C) fs := by
  unfold renM
  split
  · exact .inl rfl
  · cases findM C.fs s with
    | none => exact .inl rfl
    | some f =>
      simp only
      split
      · exact .inl rfl
      · exact .inr ⟨_, rfl⟩

theorem call_app {C : CodM} {k : Nat} (h : CAll C k) (s m : List UInt8) : CAll (appM C s m).2 (k + 1) := by
  obtain ⟨a, b, c⟩ := parts3 (app_form C s m)
  exact call_step h (fsok_app (fsok_of h.ok) s m) a b c (nam_app h.nam h.ok.sort s m)

theorem call_syn {C : CodM} {k : Nat} (h : CAll C k) (ns : List ByteArray) : CAll (synM C ns).2 (k + 1) := by
  obtain ⟨a, b, c⟩ := parts3 (syn_form C ns)
  exact call_step h (fsok_synM (fsok_of h.ok) ns) a b c (nam_syn h.nam h.ok.sort ns)

theorem call_tru {C : CodM} {k : Nat} (h : CAll C k) (s : List UInt8) (n : Int) : CAll (truM C s n).2 (k + 1) := by
  obtain ⟨a, b, c⟩ := parts3 (tru_form C s n)
  exact call_step h (fsok_truM (fsok_of h.ok) s n) a b c (nam_tru h.nam h.ok.sort s n)

theorem call_rem {C : CodM} {k : Nat} (h : CAll C k) (s : List UInt8) : CAll (remM C s).2 (k + 1) := by
  obtain ⟨a, b, c⟩ := parts3 (rem_form C s)
  exact call_step h (fsok_remM (fsok_of h.ok) s) a b c (nam_rem h.nam s)

theorem call_ren {C : CodM} {k : Nat} (h : CAll C k) (s t : List UInt8) : CAll (renM C s t).2 (k + 1) := by
  obtain ⟨a, b, c⟩ := parts3 (ren_form C s t)
  exact call_step h (fsok_renM (fsok_of h.ok) s t) a b c (nam_ren h.nam s t)

theorem call_more {C : CodM} {k : Nat} (h : CAll C k) : CAll C (k + 1) := ⟨h.ok, h.nam, Nat.le_succ_of_le h.ops, h.left⟩

theorem call_cut {C : CodM} {k : Nat} (h : CAll C k) (n : Int) (hn : n ≤ 9223372036854775807) : CAll (cutM C n) (k + 1) :=
  ⟨⟨h.ok.sort, h.ok.syn, h.ok.len, h.ok.size, h.ok.room⟩, h.nam, Nat.le_succ_of_le h.ops, by show n.toNat < _; omega⟩

theorem call_crash {C : CodM} {k : Nat} (h : CAll C k) (ps : List Int) : CAll (crashM C ps) (k + 1) :=
  ⟨cok_of (fsok_crash (fsok_of h.ok) ps) h.ok.room, nam_crash h.nam h.ok.syn ps, Nat.zero_le _, by show 0 < _; decide⟩

/-- Nothing of its own turned. -/
theorem refR_keepY {w w' : World} {Y : Nat → Prop} {h : Nat} {D : DiskM} {L : Value} {rs : List RecF} {X : Nat → Prop} (H : RefR w Y h D L rs X) (hs : w.heap.size ≤ w'.heap.size) (hk : ∀ k, k < w.heap.size → Y k → w'.heap[k]? = w.heap[k]?) : RefR w' Y h D L rs X := by
  have hlt := refR_lt H
  refine ⟨H.fs, H.yh, ⟨Nat.zero_le _, (hk h hlt H.yh).trans H.rwd.2⟩, own_same H.own (fun k hk2 => hk k (own_lt H.own hk2) (H.yl k hk2)), H.yl,
    fun k hk2 => ⟨(H.xy k hk2).1, (H.xy k hk2).2.1, (H.xy k hk2).2.2.1, Nat.lt_of_lt_of_le (H.xy k hk2).2.2.2 hs⟩, fun r hr => byteZ_keep (H.bys r hr) (fun k hlt hX => hk k hlt (H.xy k hX).1) (fun _ h => h)⟩

theorem rtw_keepY {w w' : World} {Y : Nat → Prop} {h : Nat} {C : CodM} (H : RTw w Y h C) (hs : w.heap.size ≤ w'.heap.size) (hk : ∀ k, k < w.heap.size → Y k → w'.heap[k]? = w.heap[k]?) : RTw w' Y h C := by
  obtain ⟨D, T, L, rs, X, R⟩ := H
  exact ⟨D, T, L, rs, X, refR_keepY R hs hk⟩

/-- The two disks, each on blocks of its own. -/
def BothD (w0 w : World) (Z : Nat → Prop) (g h : Nat) (C : CodM) (k : Nat) : Prop :=
  ∃ Y, DIn w0 w (fun k => Y k ∨ Z k) g C ∧ RTw w Y h C ∧ (∀ k, Y k → w0.heap.size ≤ k ∧ k < w.heap.size ∧ ¬ Z k) ∧ CAll C k

/-- Between: the code's has gone on. -/
def MidD (w0 w : World) (Z : Nat → Prop) (g h : Nat) (C C' : CodM) : Prop :=
  ∃ Y, DIn w0 w (fun k => Y k ∨ Z k) g C' ∧ RTw w Y h C ∧ (∀ k, Y k → w0.heap.size ≤ k ∧ k < w.heap.size ∧ ¬ Z k)

theorem bothD_below {w0 w : World} {Z : Nat → Prop} {g h : Nat} {C : CodM} {k : Nat} (H : BothD w0 w Z g h C k) : Below w0.heap.size w0 w := by
  obtain ⟨Y, h1, _⟩ := H
  exact dIn_below h1

theorem bothD_new {w0 w w' : World} {Z : Nat → Prop} {g h : Nat} {C : CodM} {k : Nat} (H : BothD w0 w Z g h C k) (hb : Below w.heap.size w w') : BothD w0 w' (fun k => Z k ∨ (w.heap.size ≤ k ∧ k < w'.heap.size)) g h C k := by
  obtain ⟨Y, h1, h2, h3, h4⟩ := H
  refine ⟨Y, dIn_less (dIn_new h1 hb) (fun k hk => hk.elim (fun h => .inl (.inl h)) (fun h => h.elim (fun h => .inl (.inr h)) .inr)), rtw_keepY h2 hb.size (fun k hk _ => hb.block k hk), fun k hk => ?_, h4⟩
  obtain ⟨a, b, c⟩ := h3 k hk
  exact ⟨a, Nat.lt_of_lt_of_le b hb.size, fun hz => hz.elim c (fun hz => by omega)⟩

theorem bothD_less {w0 w : World} {Z Z' : Nat → Prop} {g h : Nat} {C : CodM} {k : Nat} (H : BothD w0 w Z g h C k) (hZ : ∀ k, Z' k → Z k) : BothD w0 w Z' g h C k := by
  obtain ⟨Y, h1, h2, h3, h4⟩ := H
  exact ⟨Y, dIn_less h1 (fun k hk => hk.imp id (hZ k)), h2, fun k hk => ⟨(h3 k hk).1, (h3 k hk).2.1, fun hz => (h3 k hk).2.2 (hZ k hz)⟩, h4⟩

theorem midD_new {w0 w w' : World} {Z : Nat → Prop} {g h : Nat} {C C' : CodM} (H : MidD w0 w Z g h C C') (hb : Below w.heap.size w w') : MidD w0 w' (fun k => Z k ∨ (w.heap.size ≤ k ∧ k < w'.heap.size)) g h C C' := by
  obtain ⟨Y, h1, h2, h3⟩ := H
  refine ⟨Y, dIn_less (dIn_new h1 hb) (fun k hk => hk.elim (fun h => .inl (.inl h)) (fun h => h.elim (fun h => .inl (.inr h)) .inr)), rtw_keepY h2 hb.size (fun k hk _ => hb.block k hk), fun k hk => ?_⟩
  obtain ⟨a, b, c⟩ := h3 k hk
  exact ⟨a, Nat.lt_of_lt_of_le b hb.size, fun hz => hz.elim c (fun hz => by omega)⟩

theorem midD_less {w0 w : World} {Z Z' : Nat → Prop} {g h : Nat} {C C' : CodM} (H : MidD w0 w Z g h C C') (hZ : ∀ k, Z' k → Z k) : MidD w0 w Z' g h C C' := by
  obtain ⟨Y, h1, h2, h3⟩ := H
  exact ⟨Y, dIn_less h1 (fun k hk => hk.imp id (hZ k)), h2, fun k hk => ⟨(h3 k hk).1, (h3 k hk).2.1, fun hz => (h3 k hk).2.2 (hZ k hz)⟩⟩

/-- A call of the code's. -/
theorem bothD_code {w0 w : World} {Z : Nat → Prop} {g h : Nat} {C C' : CodM} {k : Nat} {F : Nat} {args : Array Value} {E : Ending} (H : BothD w0 w Z g h C k)
    (hc : ∀ Z', DIn w0 w Z' g C → (∀ k, Z k → Z' k) → Calls Try.prog F args w fun e w' => e = E ∧ DIn w0 w' Z' g C' ∧ KeptZ w0 w w' Z') :
    Calls Try.prog F args w fun e w' => e = E ∧ MidD w0 w' Z g h C C' ∧ (∀ k, k < w.heap.size → (k < w0.heap.size ∨ Z k) → w'.heap[k]? = w.heap[k]?) ∧ w.heap.size ≤ w'.heap.size := by
  obtain ⟨Y, h1, h2, h3, h4⟩ := H
  refine (hc _ h1 (fun k hk => .inr hk)).mono ?_
  rintro e w' ⟨rfl, hd, hk⟩
  exact ⟨rfl, ⟨Y, hd, rtw_keepY h2 hk.1 (fun k hlt hY => hk.2 k hlt (.inr (.inl hY))), fun k hY => ⟨(h3 k hY).1, Nat.lt_of_lt_of_le (h3 k hY).2.1 hk.1, (h3 k hY).2.2⟩⟩, fun k hlt hz => hk.2 k hlt (hz.imp id .inr), hk.1⟩

/-- A call of the reference's. -/
theorem midD_ref {w0 w : World} {Z : Nat → Prop} {g h : Nat} {C C' : CodM} {k : Nat} {F : Nat} {args : Array Value} {E : Ending} (H : MidD w0 w Z g h C C') (hall : CAll C' k)
    (hc : ∀ Y, RTw w Y h C → (∀ w', Kept Y w w' → ∀ k, k < w.heap.size → (k < w0.heap.size ∨ Z k) → w'.heap[k]? = w.heap[k]?) → Calls Try.prog F args w fun e w' => e = E ∧ RTwV w w' Y h C') :
    Calls Try.prog F args w fun e w' => e = E ∧ BothD w0 w' Z g h C' k := by
  obtain ⟨Y, h1, h2, h3⟩ := H
  refine (hc Y h2 (fun w' hk k hlt hz => hk.blk k hlt (fun hY => ?_))).mono ?_
  · obtain ⟨a, b, c⟩ := h3 k hY
    rcases hz with hz | hz
    · omega
    · exact c hz
  · rintro e w' ⟨rfl, hr, hk⟩
    have hb0 := dIn_below h1
    have hbe : Below w0.heap.size w0 w' := ⟨hk.os.trans hb0.os, hk.tape.trans hb0.tape, hk.output.trans hb0.output, Nat.le_trans hb0.size hk.size, fun k hlt => by
      rw [hk.blk k (Nat.lt_of_lt_of_le hlt hb0.size) (fun hY => by have := (h3 k hY).1; omega)]
      exact hb0.block k hlt⟩
    have hd := dIn_other h1 hk (fun k hlt hY => .inl hY) hbe
    have hZ0 : ∀ k, Z k → k < w.heap.size := fun k hz => by
      obtain ⟨F, _, _, hZ, _⟩ := h1
      exact hZ k (.inr hz)
    refine ⟨rfl, fun k => Y k ∨ (w.heap.size ≤ k ∧ k < w'.heap.size), dIn_less hd (fun k hk => hk.elim (fun h => h.elim (fun h => .inl (.inl h)) .inr) (fun h => .inl (.inr h))), hr, fun k hk2 => ?_, hall⟩
    rcases hk2 with hk2 | hk2
    · exact ⟨(h3 k hk2).1, Nat.lt_of_lt_of_le (h3 k hk2).2.1 hk.size, (h3 k hk2).2.2⟩
    · exact ⟨Nat.le_trans hb0.size hk2.1, hk2.2, fun hz => by have := hZ0 k hz; omega⟩

end Go.Proofs.Ytfiocghgjjandaa
