/- A disk that is none; literals; awake. -/
import Derived.BigRegion
import Derived.Deep.RegionHeld3
import Derived.Test.YtfiocghgjjandaaProg
import Derived.Test.YtfiocghgjjandaaKit
import Derived.Test.YtfiocghgjjandaaRow
import Derived.Test.YtfiocghgjjandaaFrm12
import Derived.Test.YtfiocghgjjandaaDsk0
import Derived.Test.YtfiocghgjjandaaDsk6
import Derived.Test.YtfiocghgjjandaaDsk7
import Derived.Test.YtfiocghgjjandaaDsk9
import Derived.Test.YtfiocghgjjandaaDsk11
import Derived.Test.YtfiocghgjjandaaDsk12
import Derived.Test.YtfiocghgjjandaaDsk13
import Derived.Test.YtfiocghgjjandaaDsk14
import Derived.Test.YtfiocghgjjandaaDsk16
import Derived.Test.YtfiocghgjjandaaDsk17
namespace Go.Proofs.Ytfiocghgjjandaa
open Go.RowKit Go.Proofs Go.Maps

/-- One part, as it is written out in a call. -/
theorem lit_parts (w : World) (cs : Array Value) (e e2 : TypeId) (f1 f2 : Nat × Nat) (l : List UInt8) (n b b2 : Nat) (hcs : cs = (l.map byteV).toArray) (hn : n = l.length) (hb : b = w.heap.size) (hb2 : b2 = w.heap.size + 1) (Z : Nat → Prop) (hZ : Z b) (hZ2 : Z b2) :
    PartsZ ((w.alloc (.cells cs e f1)).alloc (.cells #[.slice (some ⟨b, 0, none⟩) n n] e2 f2)) Z (.slice (some ⟨b2, 0, none⟩) 1 1) [l] := by
  subst hb hb2 hn hcs
  have h1 : ((w.alloc (.cells (l.map byteV).toArray e f1)).alloc (.cells #[.slice (some ⟨w.heap.size, 0, none⟩) l.length l.length] e2 f2)).heap[w.heap.size]? = some (.cells (l.map byteV).toArray e f1) := by
    rw [(below_more (Below.refl _ (w.alloc (.cells (l.map byteV).toArray e f1))) _).block w.heap.size (by simp)]
    exact heap_alloc_new w _
  have h2 : ((w.alloc (.cells (l.map byteV).toArray e f1)).alloc (.cells #[.slice (some ⟨w.heap.size, 0, none⟩) l.length l.length] e2 f2)).heap[w.heap.size + 1]? = some (.cells #[.slice (some ⟨w.heap.size, 0, none⟩) l.length l.length] e2 f2) := by
    have := heap_alloc_new (w.alloc (.cells (l.map byteV).toArray e f1)) (.cells #[.slice (some ⟨w.heap.size, 0, none⟩) l.length l.length] e2 f2)
    simpa using this
  refine .inr ⟨_, 1, rfl, .inr ⟨_, 0, rfl, hZ2, fun j m hj => ?_⟩⟩
  cases j with
  | zero =>
    simp at hj
    subst hj
    refine ⟨_, by rw [cell_of_row _ _ _ _ e2 f2 h2]; rfl, .inr ⟨_, _, rfl, Nat.le_refl _, .inr ⟨_, 0, rfl, hZ, fun j x hj => ?_⟩⟩⟩
    rw [cell_of_row _ _ _ _ e f1 h1]
    simp [hj, byteV]
  | succ j => simp at hj

theorem below_lit2 (w : World) (a b : Obj) : Below w.heap.size w ((w.alloc a).alloc b) := below_more (below_more (Below.refl _ _) a) b

theorem zapp_lit {w0 w : World} {Z : Nat → Prop} {g : Nat} {D : CodM} (h : DIn w0 w Z g D) (s : ByteArray) (l : List UInt8) (cs : Array Value) (e e2 : TypeId) (f1 f2 : Nat × Nat) (n b b2 : Nat) (hcs : cs = (l.map byteV).toArray) (hn : n = l.length) (hb : b = w.heap.size) (hb2 : b2 = w.heap.size + 1) (hok : CodOk D) (hl : l.length < 1099511627776) (k : Int) (D' : CodM) (hap : appM D s.data.toList l = (k, D')) :
    Calls Try.prog 10 #[.pointer (some ⟨g, 0, none⟩), .string s, .slice (some ⟨b2, 0, none⟩) 1 1] ((w.alloc (.cells cs e f1)).alloc (.cells #[.slice (some ⟨b, 0, none⟩) n n] e2 f2)) fun e w' => e = .returned (.int .i64 k) ∧ DIn w0 w' Z g D' := by
  have h2 := dIn_new h (below_lit2 w (.cells cs e f1) (.cells #[.slice (some ⟨b, 0, none⟩) n n] e2 f2))
  refine (zapp_any h2 s [l] _ hok (lit_parts w cs e e2 f1 f2 l n b b2 hcs hn hb hb2 _ (.inr (.inr ⟨by omega, by simp; omega⟩)) (.inr (.inr ⟨by omega, by simp; omega⟩))) (by simpa using hl) (by simp)).mono ?_
  rintro e w' ⟨rfl, hd, _⟩
  rw [flat_one, hap] at hd
  rw [flat_one, hap]
  exact ⟨rfl, dIn_less hd (fun k hk => .inl hk)⟩

theorem zsyn_lit {w0 w : World} {Z : Nat → Prop} {g : Nat} {D : CodM} (h : DIn w0 w Z g D) (s : ByteArray) (e : TypeId) (f1 : Nat × Nat) (b : Nat) (hb : b = w.heap.size) (hok : CodOk D) (hs : s.size ≤ maxLen) (k : Int) (D' : CodM) (hap : synM D [s] = (k, D')) :
    Calls Try.prog 11 #[.pointer (some ⟨g, 0, none⟩), .slice (some ⟨b, 0, none⟩) 1 1] (w.alloc (.cells #[.string s] e f1)) fun e w' => e = .returned (.int .i64 k) ∧ DIn w0 w' Z g D' := by
  have h2 := dIn_new h (below_more (Below.refl _ w) (.cells #[.string s] e f1))
  refine (zsyn_any h2 [s] b 0 1 hok (.inr (.inr ⟨by omega, by simp; omega⟩)) (fun j t hj => ?_) (fun t ht => by simp at ht; rw [ht]; exact hs) (by simp)).mono ?_
  · cases j with
    | zero =>
      simp at hj
      subst hj hb
      rw [cell_of_row _ _ _ _ e f1 (heap_alloc_new w _)]
      rfl
    | succ j => simp at hj
  · rintro e w' ⟨rfl, hd, _⟩
    rw [hap] at hd
    rw [hap]
    exact ⟨rfl, dIn_less hd (fun k hk => .inl hk)⟩

theorem zcrash_any {w0 w : World} {Z : Nat → Prop} {g : Nat} {D : CodM} (h : DIn w0 w Z g D) (ps : List Int) (pv : Value) (hok : CodOk D) (hp : PickAt w pv ps) (hri : RangeI ps) (hnl : ∀ f ∈ D.fs, f.name.length ≤ maxLen) :
    Calls Try.prog 12 #[.pointer (some ⟨g, 0, none⟩), pv] w fun e w' => e = .returned (.pointer (some ⟨w.heap.size, 0, none⟩)) ∧ DIn w0 w' Z g D ∧ DIn w0 w' (fun k => k < w.heap.size) w.heap.size (crashM D ps) ∧ Below w.heap.size w w' := by
  have hd := h
  obtain ⟨F, hc, hF, hZ, hb⟩ := h
  refine (dcrash_any F g D ps pv w hc hok hp hri hnl).mono ?_
  rintro e w' ⟨rfl, hc2, hb2⟩
  exact ⟨rfl, dIn_less (dIn_new hd hb2) (fun _ h => .inl h), dIn_made hc2 hb hb2, hb2⟩

theorem zcopy_any {w0 w : World} {Z : Nat → Prop} {g : Nat} {D : CodM} (h : DIn w0 w Z g D) (hok : CodOk D) :
    Calls Try.prog 26 #[.pointer (some ⟨g, 0, none⟩)] w fun e w' => e = .returned (.pointer (some ⟨w.heap.size, 0, none⟩)) ∧ DIn w0 w' Z g D ∧ DIn w0 w' (fun k => k < w.heap.size) w.heap.size D ∧ Below w.heap.size w w' := by
  have hd := h
  obtain ⟨F, hc, hF, hZ, hb⟩ := h
  refine (dcopy_any F g D w hc hok).mono ?_
  rintro e w' ⟨rfl, hc2, hb2⟩
  exact ⟨rfl, dIn_less (dIn_new hd hb2) (fun _ h => .inl h), dIn_made hc2 hb hb2, hb2⟩

theorem zread_any {w0 w : World} {Z : Nat → Prop} {g : Nat} {D : CodM} (h : DIn w0 w Z g D) (s : ByteArray) (hs : s.size ≤ maxLen) (hz : sizeM D.fs < 1099511627776) :
    Calls Try.prog 13 #[.pointer (some ⟨g, 0, none⟩), .string s] w fun e w' => DReadV w w' D.fs s.data.toList e := by
  obtain ⟨F, hc, hF, hZ, hb⟩ := h
  exact dread_any F g D s w hc hs hz

theorem zops_any {w0 w : World} {Z : Nat → Prop} {g : Nat} {D : CodM} (h : DIn w0 w Z g D) : Calls Try.prog 31 #[.pointer (some ⟨g, 0, none⟩)] w fun e w' => e = .returned (.int .i64 D.ops) ∧ w' = w := by
  obtain ⟨F, hc, hF, hZ, hb⟩ := h
  exact dops_any F g D w hc

theorem znames_any {w0 w : World} {Z : Nat → Prop} {g : Nat} {D : CodM} (h : DIn w0 w Z g D) (hl : D.fs.length < 1099511627776) : Calls Try.prog 30 #[.pointer (some ⟨g, 0, none⟩)] w fun e w' => DNamesV w w' D.fs e := by
  obtain ⟨F, hc, hF, hZ, hb⟩ := h
  exact dnames_any F g D w hc hl

end Go.Proofs.Ytfiocghgjjandaa
