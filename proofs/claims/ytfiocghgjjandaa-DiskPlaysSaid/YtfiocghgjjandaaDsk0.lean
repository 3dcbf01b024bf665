/- Stage 4's code disk: its plain model, and how it lies in memory. -/
import Derived.Maps.OwnSet
import Derived.Maps.RangeWalk
import Derived.Deep.MidRow
import Derived.Test.YtfiocghgjjandaaProg
import Derived.Test.YtfiocghgjjandaaKit
import Derived.Test.YtfiocghgjjandaaRow
import Derived.Test.YtfiocghgjjandaaRdk0
namespace Go.Proofs.Ytfiocghgjjandaa
open Go.RowKit Go.Proofs Go.Maps

/-- Bytes in their order: total. -/
theorem bef_irr : ∀ a : List UInt8, bytesBefore a a = false
  | [] => rfl
  | x :: r => by simp [bytesBefore, bef_irr r]

theorem bef_total : ∀ {a b : List UInt8}, a ≠ b → bytesBefore a b = false → bytesBefore b a = true
  | [], [], h, _ => absurd rfl h
  | [], _ :: _, _, h => by simp [bytesBefore] at h
  | _ :: _, [], _, _ => rfl
  | x :: r, y :: s, h, hb => by
    simp only [bytesBefore, Bool.or_eq_false_iff, decide_eq_false_iff_not, Bool.and_eq_false_iff, beq_eq_false_iff_ne, Bool.or_eq_true, decide_eq_true_eq, Bool.and_eq_true, beq_iff_eq] at hb ⊢
    rcases UInt8.lt_or_lt_of_ne (a := x) (b := y) |> fun f => (Classical.em (x = y)).imp id f with rfl | h1
    · exact .inr ⟨rfl, bef_total (fun e => h (by rw [e])) (hb.2.resolve_left (fun hn => hn rfl))⟩
    · exact .inl (h1.resolve_left hb.1)

theorem bef_trans : ∀ {a b c : List UInt8}, bytesBefore a b = true → bytesBefore b c = true → bytesBefore a c = true
  | [], [], _, h, _ => by simp [bytesBefore] at h
  | [], _ :: _, [], _, h => by simp [bytesBefore] at h
  | [], _ :: _, _ :: _, _, _ => rfl
  | _ :: _, [], _, h, _ => by simp [bytesBefore] at h
  | _ :: _, _ :: _, [], _, h => by simp [bytesBefore] at h
  | x :: r, y :: s, z :: t, h1, h2 => by
    simp only [bytesBefore, Bool.or_eq_true, decide_eq_true_eq, Bool.and_eq_true, beq_iff_eq] at h1 h2 ⊢
    rcases h1 with h1 | ⟨rfl, h1⟩
    · rcases h2 with h2 | ⟨rfl, _⟩
      · exact .inl (UInt8.lt_trans h1 h2)
      · exact .inl h1
    · rcases h2 with h2 | ⟨rfl, h2⟩
      · exact .inl h2
      · exact .inr ⟨rfl, bef_trans h1 h2⟩

theorem bef_ne {a b : List UInt8} (h : bytesBefore a b = true) : a ≠ b := by
  intro e
  rw [e, bef_irr] at h
  cases h

/-- Rows by rising names: what a name stands for, without a name, with one more. -/
def findM (fs : List FileM) (s : List UInt8) : Option FileM := fs.find? (fun f => f.name == s)

def dropM (s : List UInt8) (fs : List FileM) : List FileM := fs.filter (fun f => !(f.name == s))

def insM (x : FileM) : List FileM → List FileM
  | [] => [x]
  | y :: r => if bytesBefore x.name y.name then x :: y :: r else y :: insM x r

def putM (x : FileM) (fs : List FileM) : List FileM := insM x (dropM x.name fs)

def setM (s : List UInt8) (h : FileM → FileM) (fs : List FileM) : List FileM := fs.map (fun f => if f.name = s then h f else f)

def SortM (fs : List FileM) : Prop := fs.Pairwise (fun a b => bytesBefore a.name b.name = true)

def sizeM (fs : List FileM) : Nat := (fs.map (fun f => f.b.length)).sum

theorem findM_some {fs : List FileM} {s : List UInt8} {f : FileM} (h : findM fs s = some f) : f ∈ fs ∧ f.name = s := by
  unfold findM at h
  exact ⟨List.mem_of_find?_eq_some h, by simpa using List.find?_some h⟩

theorem findM_none {fs : List FileM} {s : List UInt8} (h : findM fs s = none) : ∀ f ∈ fs, f.name ≠ s := by
  unfold findM at h
  simpa using h

theorem insM_mem {x : FileM} : ∀ {fs : List FileM} {f : FileM}, f ∈ insM x fs ↔ f = x ∨ f ∈ fs
  | [], f => by simp [insM]
  | y :: r, f => by
    unfold insM
    split
    · simp
    · simp only [List.mem_cons, insM_mem]
      constructor
      · rintro (h | h | h) <;> simp [h]
      · rintro (h | h | h) <;> simp [h]

theorem insM_sort {x : FileM} : ∀ {fs : List FileM}, SortM fs → (∀ f ∈ fs, f.name ≠ x.name) → SortM (insM x fs)
  | [], _, _ => by simp [insM, SortM]
  | y :: r, h, hn => by
    have h2 := List.pairwise_cons.1 h
    unfold insM
    split
    · rename_i hb
      refine List.pairwise_cons.2 ⟨fun f hf => ?_, h⟩
      rcases List.mem_cons.1 hf with rfl | hf
      · exact hb
      · exact bef_trans hb (h2.1 f hf)
    · rename_i hb
      refine List.pairwise_cons.2 ⟨fun f hf => ?_, insM_sort h2.2 (fun f hf => hn f (by simp [hf]))⟩
      rcases insM_mem.1 hf with rfl | hf
      · exact bef_total (fun e => hn y (by simp) e.symm) (by simpa using hb)
      · exact h2.1 f hf

theorem dropM_sort {s : List UInt8} {fs : List FileM} (h : SortM fs) : SortM (dropM s fs) := List.Pairwise.filter _ h

theorem dropM_mem {s : List UInt8} {fs : List FileM} {f : FileM} : f ∈ dropM s fs ↔ f ∈ fs ∧ f.name ≠ s := by simp [dropM]

theorem putM_sort {x : FileM} {fs : List FileM} (h : SortM fs) : SortM (putM x fs) := insM_sort (dropM_sort h) (fun _ hf => (dropM_mem.1 hf).2)

theorem dropM_none {s : List UInt8} {fs : List FileM} (h : ∀ f ∈ fs, f.name ≠ s) : dropM s fs = fs := by
  unfold dropM
  rw [List.filter_eq_self]
  intro f hf
  simpa using h f hf

/-- A file of the code's disk: what it is, its block, its bytes' slice. -/
structure Rec where
  f : FileM
  g : Nat
  u : Value

def ptrR (v : Value) : Option (DataW Unit × List MemPlace) :=
  match v with
  | .pointer none => some (.nil, [])
  | .pointer (some ⟨g, 0, none⟩) => some (.lit (.int .u64 g), [])
  | _ => none

def recP : Option Rec → Value
  | none => .pointer none
  | some r => .pointer (some ⟨r.g, 0, none⟩)

def entR (r : Rec) : Lit × DataW Unit := (.string r.f.name, .lit (.int .u64 r.g))

def findR (rs : List Rec) (s : List UInt8) : Option Rec := rs.find? (fun r => r.f.name == s)

def dropR (s : List UInt8) (rs : List Rec) : List Rec := rs.filter (fun r => !(r.f.name == s))

def insR (x : Rec) : List Rec → List Rec
  | [] => [x]
  | y :: r => if bytesBefore x.f.name y.f.name then x :: y :: r else y :: insR x r

def putR (x : Rec) (rs : List Rec) : List Rec := insR x (dropR x.f.name rs)

theorem findR_some {rs : List Rec} {s : List UInt8} {r : Rec} (h : findR rs s = some r) : r ∈ rs ∧ r.f.name = s := by
  unfold findR at h
  exact ⟨List.mem_of_find?_eq_some h, by simpa using List.find?_some h⟩

theorem findR_none {rs : List Rec} {s : List UInt8} (h : findR rs s = none) : ∀ r ∈ rs, r.f.name ≠ s := by
  unfold findR at h
  simpa using h

theorem findR_f (rs : List Rec) (s : List UInt8) : (findR rs s).map (·.f) = findM (rs.map (·.f)) s := by
  unfold findR findM
  rw [List.find?_map]
  rfl

theorem dropR_f (rs : List Rec) (s : List UInt8) : (dropR s rs).map (·.f) = dropM s (rs.map (·.f)) := by
  unfold dropR dropM
  rw [List.filter_map]
  rfl

theorem insR_f (x : Rec) : ∀ rs : List Rec, (insR x rs).map (·.f) = insM x.f (rs.map (·.f))
  | [] => rfl
  | y :: r => by
    unfold insR
    simp only [List.map_cons, insM]
    split
    · rfl
    · rw [List.map_cons, insR_f x r]

theorem putR_f (x : Rec) (rs : List Rec) : (putR x rs).map (·.f) = putM x.f (rs.map (·.f)) := by
  unfold putR putM
  rw [insR_f, dropR_f]

theorem insR_mem {x : Rec} : ∀ {rs : List Rec} {r : Rec}, r ∈ insR x rs ↔ r = x ∨ r ∈ rs
  | [], r => by simp [insR]
  | y :: rs, r => by
    unfold insR
    split
    · simp
    · simp only [List.mem_cons, insR_mem]
      constructor
      · rintro (h | h | h) <;> simp [h]
      · rintro (h | h | h) <;> simp [h]

theorem dropR_mem {s : List UInt8} {rs : List Rec} {r : Rec} : r ∈ dropR s rs ↔ r ∈ rs ∧ r.f.name ≠ s := by simp [dropR]

theorem putR_mem {x : Rec} {rs : List Rec} {r : Rec} (h : r ∈ putR x rs) : r = x ∨ (r ∈ rs ∧ r.f.name ≠ x.f.name) := by
  rcases insR_mem.1 h with h | h
  · exact .inl h
  · exact .inr (dropR_mem.1 h)

theorem insR_pair {p : Rec → Rec → Prop} {x : Rec} (hs : ∀ a b, p a b → p b a) : ∀ {rs : List Rec}, rs.Pairwise p → (∀ r ∈ rs, p x r) → (insR x rs).Pairwise p
  | [], _, _ => by simp [insR]
  | y :: r, h, hx => by
    have h2 := List.pairwise_cons.1 h
    unfold insR
    split
    · exact List.pairwise_cons.2 ⟨hx, h⟩
    · refine List.pairwise_cons.2 ⟨fun f hf => ?_, insR_pair hs h2.2 (fun f hf => hx f (by simp [hf]))⟩
      rcases insR_mem.1 hf with rfl | hf
      · exact hs _ _ (hx y (by simp))
      · exact h2.1 f hf

/-- What the map's datum does. -/
theorem entR_ins (x : Rec) : ∀ rs : List Rec, DataW.insert (entR x) (rs.map entR) = (insR x rs).map entR
  | [] => rfl
  | y :: r => by
    unfold insR
    simp only [List.map_cons, DataW.insert]
    show (if bytesBefore x.f.name y.f.name = true then _ else _) = _
    split
    · rfl
    · rw [List.map_cons, entR_ins x r]

theorem entR_drop (s : List UInt8) (rs : List Rec) : (rs.map entR).filter (ChangeMaps.notKey (.string s)) = (dropR s rs).map entR := by
  unfold dropR
  rw [List.filter_map]
  rfl

theorem entR_put (x : Rec) (rs : List Rec) : (DataW.map (rs.map entR)).put (.string x.f.name) (.lit (.int .u64 x.g)) = .map ((putR x rs).map entR) := by
  rw [DataW.put_eq]
  unfold ChangeMaps.putKey
  rw [entR_drop]
  show DataW.map (DataW.insert (entR x) _) = _
  rw [entR_ins]
  rfl

theorem entR_del (s : List UInt8) (rs : List Rec) : (DataW.map (rs.map entR)).del (.string s) = .map ((dropR s rs).map entR) := by
  rw [DataW.del_eq]
  unfold ChangeMaps.delKey
  rw [entR_drop]

theorem entR_at (s : List UInt8) (z : DataW Unit) : ∀ rs : List Rec, (DataW.map (rs.map entR)).atKey (.string s) z = match findR rs s with | some r => .lit (.int .u64 r.g) | none => z
  | [] => rfl
  | y :: r => by
    have ih := entR_at s z r
    unfold DataW.atKey findR at ih ⊢
    by_cases hy : y.f.name = s
    · simp [entR, Lit.sameKey, hy]
    · have h1 : (y.f.name == s) = false := by simpa using hy
      simp only [List.map_cons, List.find?_cons, h1]
      have h2 : (entR y).1.sameKey (.string s) = false := h1
      rw [h2]
      exact ih

/-- The map of a disk: nil, or a block. -/
theorem Try.keyS : Keyed Try.prog 9 := string_keyed Try.underlying9

def MapAt (w : World) (b : Nat) (rs : List Rec) : Prop := w.ownsMap Try.prog 9 ptrR b rs.length (.map (rs.map entR))

def MapV (w : World) (mv : Value) (rs : List Rec) : Prop := (mv = .map none ∧ rs = []) ∨ ∃ b, mv = .map (some b) ∧ MapAt w b rs

theorem mapAt_tight {w : World} {b n : Nat} {rs : List Rec} (h : w.ownsMap Try.prog 9 ptrR b n (.map (rs.map entR))) : MapAt w b rs := by
  obtain ⟨es, clock, hb, F, _, hD⟩ := h
  refine ⟨es, clock, hb, F, ?_, hD⟩
  have h1 := length_read (P := Try.prog) (k := 9) (R0 := ptrR) es
  injection hD with hD
  rw [← hD, List.length_map] at h1
  omega

theorem mapAt_same {w w' : World} {b : Nat} {rs : List Rec} (h : MapAt w b rs) (hb : w'.heap[b]? = w.heap[b]?) : MapAt w' b rs := by
  obtain ⟨es, clock, h1, F, hs, hD⟩ := h
  exact ⟨es, clock, hb.trans h1, F, hs, hD⟩

theorem ptr_nil {v : Value} {ps : List MemPlace} (h : ptrR v = some (.nil, ps)) : v = .pointer none := by
  unfold ptrR at h
  split at h
  · rfl
  · cases h
  · cases h

theorem ptr_some {v : Value} {g : Nat} {ps : List MemPlace} (h : ptrR v = some (.lit (.int .u64 g), ps)) : v = .pointer (some ⟨g, 0, none⟩) := by
  unfold ptrR at h
  split at h
  · cases h
  · rename_i g2
    simp only [Option.some.injEq, Prod.mk.injEq, DataW.lit.injEq, Lit.int.injEq] at h
    obtain ⟨⟨_, h⟩, _⟩ := h
    have : g2 = g := by omega
    rw [this]
  · cases h

theorem key_of (s : ByteArray) (hs : s.size ≤ maxLen) : keyOf Try.prog 9 (.string s) = some (.string s.data.toList) := WideMaps.keyOf_string_mk Try.underlying9 hs

theorem zero_file (w : World) : (zeroValue 73).run Try.prog w = .ok (.pointer none) w := by kernel_rfl

theorem look_any {w : World} {mv : Value} {rs : List Rec} (h : MapV w mv rs) (s : ByteArray) (hs : s.size ≤ maxLen) :
    (Instr.lookup 45 mv (.string s) false).run Try.prog w = .ok (recP (findR rs s.data.toList)) w := by
  rcases h with ⟨rfl, rfl⟩ | ⟨b, rfl, h⟩
  · have h1 := Maps.look_nil (P := Try.prog) (w := w) (t := 45) (e := 73) false Try.keyS Try.underlying45 (zero_file w) (key_of s hs)
    exact h1
  · obtain ⟨v, ps, hrun, hR⟩ := World.ownsMap.lookup (t := 45) (e := 73) h Try.keyS Try.underlying45 (zero_file w) (zd := .nil) (zp := []) rfl (key_of s hs)
    rw [hrun]
    rw [entR_at] at hR
    cases hq : findR rs s.data.toList with
    | none =>
      rw [hq] at hR
      rw [ptr_nil hR]
      rfl
    | some r =>
      rw [hq] at hR
      rw [ptr_some hR]
      rfl

theorem len_any {w : World} {mv : Value} {rs : List Rec} (h : MapV w mv rs) (ty : TypeId) : (Builtin.len_ #[45] ty #[mv]).run Try.prog w = .ok (.int .i64 rs.length) w := by
  rcases h with ⟨rfl, rfl⟩ | ⟨b, rfl, h⟩
  · exact Maps.len_nil (e := 73) (k := 9) Try.underlying45 ty
  · have := World.ownsMap.len (t := 45) (e := 73) h Try.underlying45 ty
    rw [this]
    simp [Maps.size]

end Go.Proofs.Ytfiocghgjjandaa
