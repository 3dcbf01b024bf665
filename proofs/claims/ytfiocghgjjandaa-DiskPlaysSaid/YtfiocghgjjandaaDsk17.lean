/- The code's disk within a law: what is its own, what is not. -/
import Derived.BigRegion
import Derived.Deep.RegionHeld3
import Derived.Test.YtfiocghgjjandaaProg
import Derived.Test.YtfiocghgjjandaaKit
import Derived.Test.YtfiocghgjjandaaRow
import Derived.Test.YtfiocghgjjandaaCod2
import Derived.Test.YtfiocghgjjandaaCod9
import Derived.Test.YtfiocghgjjandaaJoin
import Derived.Test.YtfiocghgjjandaaFp
import Derived.Test.YtfiocghgjjandaaDsk6
import Derived.Test.YtfiocghgjjandaaDsk7
import Derived.Test.YtfiocghgjjandaaDsk8
import Derived.Test.YtfiocghgjjandaaDsk9
import Derived.Test.YtfiocghgjjandaaDsk12
namespace Go.Proofs.Ytfiocghgjjandaa
open Go.RowKit Go.Proofs Go.Maps

/-- A disk that has been made since w0; Z: blocks that are not its own. -/
def DIn (w0 w : World) (Z : Nat → Prop) (g : Nat) (D : CodM) : Prop :=
  ∃ F, CodAt w F g D ∧ (∀ k, F k → w0.heap.size ≤ k ∧ k < w.heap.size ∧ ¬ Z k) ∧ (∀ k, Z k → k < w.heap.size) ∧ Below w0.heap.size w0 w

def KeptZ (w0 w w' : World) (Z : Nat → Prop) : Prop := w.heap.size ≤ w'.heap.size ∧ ∀ k, k < w.heap.size → (k < w0.heap.size ∨ Z k) → w'.heap[k]? = w.heap[k]?

def ByteZ (w : World) (Z : Nat → Prop) (v : Value) (l : List UInt8) : Prop :=
  (v = .slice none 0 0 ∧ l = []) ∨ ∃ ad c, v = .slice (some ad) l.length c ∧ l.length ≤ c ∧ (l = [] ∨ ∃ b o, ad = ⟨b, o, none⟩ ∧ Z b ∧ ByAt w b o l)

def PartsZ (w : World) (Z : Nat → Prop) (v : Value) (ls : List (List UInt8)) : Prop :=
  (v = .slice none 0 0 ∧ ls = []) ∨ ∃ A C, v = .slice (some A) ls.length C ∧ (ls = [] ∨ ∃ b o, A = ⟨b, o, none⟩ ∧ Z b ∧ ∀ j l, ls[j]? = some l → ∃ u, w.cell? ⟨b, o + j, none⟩ = some u ∧ ByteZ w Z u l)

theorem cell_same {w w' : World} {b j : Nat} {x : Value} (h : w.cell? ⟨b, j, none⟩ = some x) (hb : w'.heap[b]? = w.heap[b]?) : w'.cell? ⟨b, j, none⟩ = some x := by
  unfold World.cell? at h ⊢
  rw [hb]
  exact h

theorem byteZ_sl {w w' : World} {Z : Nat → Prop} {v : Value} {l : List UInt8} (h : ByteZ w Z v l) (hk : ∀ k, k < w.heap.size → Z k → w'.heap[k]? = w.heap[k]?) (hs : w.heap.size ≤ w'.heap.size) : ByteSl w' w'.heap.size v l := by
  rcases h with h | ⟨ad, c, rfl, hc, hl⟩
  · exact .inl h
  · refine .inr ⟨ad, c, rfl, hc, ?_⟩
    rcases hl with rfl | ⟨b, o, rfl, hZ, hat⟩
    · exact .inl rfl
    · by_cases hne : l = []
      · exact .inl hne
      · obtain ⟨x, hx⟩ : ∃ x, l[0]? = some x := by cases l with | nil => exact absurd rfl hne | cons a t => exact ⟨a, rfl⟩
        have hlt := block_of_cell (hat 0 x hx)
        exact .inr ⟨b, o, rfl, by omega, fun j y hj => cell_same (hat j y hj) (hk b hlt hZ)⟩

theorem partsZ_b {w w' : World} {Z : Nat → Prop} {v : Value} {ls : List (List UInt8)} (h : PartsZ w Z v ls) (hk : ∀ k, k < w.heap.size → Z k → w'.heap[k]? = w.heap[k]?) (hs : w.heap.size ≤ w'.heap.size) : PartsB w' w'.heap.size v ls := by
  rcases h with h | ⟨A, C, rfl, hl⟩
  · exact .inl h
  · refine .inr ⟨A, C, rfl, ?_⟩
    rcases hl with rfl | ⟨b, o, rfl, hZ, hc⟩
    · exact .inl rfl
    · by_cases hne : ls = []
      · exact .inl hne
      · obtain ⟨x, hx⟩ : ∃ x, ls[0]? = some x := by cases ls with | nil => exact absurd rfl hne | cons a t => exact ⟨a, rfl⟩
        obtain ⟨u, hu, _⟩ := hc 0 x hx
        have hlt := block_of_cell hu
        exact .inr ⟨b, o, rfl, by omega, fun j l hj => by
          obtain ⟨u, hu, hb⟩ := hc j l hj
          exact ⟨u, cell_same hu (hk b hlt hZ), byteZ_sl hb hk hs⟩⟩

/-- A call has done its work. -/
theorem dIn_step {w0 w w' : World} {F Z : Nat → Prop} {g : Nat} {D : CodM} (hF : ∀ k, F k → w0.heap.size ≤ k ∧ k < w.heap.size ∧ ¬ Z k) (hZ : ∀ k, Z k → k < w.heap.size) (hb : Below w0.heap.size w0 w) (h : CodV w w' F g D) : DIn w0 w' Z g D ∧ KeptZ w0 w w' Z := by
  obtain ⟨hc, hk⟩ := h
  have hlt : ∀ k, Up F w.heap.size k → ¬ k < w'.heap.size → False ∨ ¬ k < w'.heap.size := fun _ _ h => .inr h
  refine ⟨⟨fun k => Up F w.heap.size k ∧ k < w'.heap.size, ?_, fun k hk2 => ?_, fun k hk2 => Nat.lt_of_lt_of_le (hZ k hk2) hk.size, ?_⟩, hk.size, fun k hlt hk2 => hk.blk k hlt (fun hf => ?_)⟩
  · obtain ⟨hFg, mv, rs, hr, hfs, hD⟩ := hc
    refine ⟨⟨hFg, Rw.size hr⟩, mv, rs, hr, ⟨hfs.1, fun b hb => ⟨hfs.2.1 b hb, (mapV_lt hfs.1 hb).2⟩, fun x hx => ?_, hfs.2.2.2⟩, hD⟩
    obtain ⟨h1, h2, h3, h4⟩ := hfs.2.2.1 x hx
    exact ⟨⟨h1, Rw.size h2⟩, h2, ⟨h3.1, fun k hk => ⟨h3.2 k hk, ownF_blk h3 hk⟩⟩, h4⟩
  · refine ⟨?_, hk2.2, fun hz => ?_⟩
    · rcases hk2.1 with h | h
      · exact (hF k h).1
      · exact Nat.le_trans hb.size h
    · rcases hk2.1 with h | h
      · exact (hF k h).2.2 hz
      · have := hZ k hz
        omega
  · refine ⟨hk.os.trans hb.os, hk.tape.trans hb.tape, hk.output.trans hb.output, Nat.le_trans hb.size hk.size, fun k hlt => ?_⟩
    rw [hk.blk k (Nat.lt_of_lt_of_le hlt hb.size) (fun hf => by have := (hF k hf).1; omega)]
    exact hb.block k hlt
  · rcases hk2 with h | h
    · have := (hF k hf).1
      omega
    · exact (hF k hf).2.2 h

/-- What others do. -/
theorem dIn_other {w0 w w' : World} {Z : Nat → Prop} {g : Nat} {D : CodM} (h : DIn w0 w Z g D) {G : Nat → Prop} (hk : Kept G w w') (hG : ∀ k, k < w.heap.size → G k → Z k) (hb : Below w0.heap.size w0 w') : DIn w0 w' (fun k => Z k ∨ (w.heap.size ≤ k ∧ k < w'.heap.size)) g D := by
  obtain ⟨F, hc, hF, hZ, hb0⟩ := h
  refine ⟨F, ?_, fun k hk2 => ⟨(hF k hk2).1, Nat.lt_of_lt_of_le (hF k hk2).2.1 hk.size, fun h => ?_⟩, fun k h => ?_, hb⟩
  · obtain ⟨hFg, mv, rs, hr, hfs, hD⟩ := hc
    have hn : ∀ k, k < w.heap.size → F k → ¬ G k := fun k hlt hf hg => (hF k hf).2.2 (hG k hlt hg)
    have hk2 : Kept (fun k => G k ∧ k < w.heap.size) w w' := ⟨hk.os, hk.tape, hk.output, hk.size, fun k hlt hg => hk.blk k hlt (fun h => hg ⟨h, hlt⟩)⟩
    exact ⟨hFg, mv, rs, rw_kept hr hk2 (fun h => hn g h.2 hFg h.1), filesAt_keep hfs hk2 (fun k h => .inl (fun hf => hn k h.2 hf h.1)), hD⟩
  · rcases h with h | h
    · exact (hF k hk2).2.2 h
    · have := (hF k hk2).2.1
      omega
  · rcases h with h | h
    · exact Nat.lt_of_lt_of_le (hZ k h) hk.size
    · exact h.2

theorem dIn_new {w0 w w' : World} {Z : Nat → Prop} {g : Nat} {D : CodM} (h : DIn w0 w Z g D) (hb : Below w.heap.size w w') : DIn w0 w' (fun k => Z k ∨ (w.heap.size ≤ k ∧ k < w'.heap.size)) g D :=
  dIn_other h (kept_below (F := fun _ => False) hb) (fun _ _ h => h.elim) (by obtain ⟨_, _, _, _, hb0⟩ := h; exact hb0.trans (hb.mono hb0.size))

theorem dIn_less {w0 w : World} {Z Z' : Nat → Prop} {g : Nat} {D : CodM} (h : DIn w0 w Z g D) (hZ : ∀ k, Z' k → Z k) : DIn w0 w Z' g D := by
  obtain ⟨F, hc, hF, hZ0, hb0⟩ := h
  exact ⟨F, hc, fun k hk => ⟨(hF k hk).1, (hF k hk).2.1, fun h => (hF k hk).2.2 (hZ k h)⟩, fun k h => hZ0 k (hZ k h), hb0⟩

theorem dIn_below {w0 w : World} {Z : Nat → Prop} {g : Nat} {D : CodM} (h : DIn w0 w Z g D) : Below w0.heap.size w0 w := by obtain ⟨_, _, _, _, hb⟩ := h; exact hb

theorem dIn_made {w0 w w' : World} {g : Nat} {D : CodM} (hc : CodAt w' (fun k => w.heap.size ≤ k) g D) (hb : Below w0.heap.size w0 w) (hb2 : Below w.heap.size w w') : DIn w0 w' (fun k => k < w.heap.size) g D := by
  have hv : CodV w w' (fun _ => False) g D := ⟨codAt_more hc (fun k hk => .inr hk), kept_below hb2⟩
  have h := (dIn_step (w0 := w0) (F := fun _ => False) (Z := fun k => k < w.heap.size) (fun _ h => h.elim) (fun _ h => h) hb hv).1
  exact h

theorem zapp_any {w0 w : World} {Z : Nat → Prop} {g : Nat} {D : CodM} (h : DIn w0 w Z g D) (s : ByteArray) (ls : List (List UInt8)) (v : Value) (hok : CodOk D) (hp : PartsZ w (fun k => k < w0.heap.size ∨ Z k) v ls) (hl : ls.flatten.length < 1099511627776) (hn : ls.length < 9223372036854775807) :
    Calls Try.prog 10 #[.pointer (some ⟨g, 0, none⟩), .string s, v] w fun e w' => e = .returned (.int .i64 (appM D s.data.toList ls.flatten).1) ∧ DIn w0 w' Z g (appM D s.data.toList ls.flatten).2 ∧ KeptZ w0 w w' Z := by
  obtain ⟨F, hc, hF, hZ, hb⟩ := h
  refine (append_any F g D s ls v w hc hok (fun w' hk => partsZ_b hp (fun k hlt hz => hk.blk k hlt (fun hf => ?_)) hk.size) hl hn).mono (fun e w' ⟨he, hv⟩ => ⟨he, dIn_step hF hZ hb hv⟩)
  rcases hz with h | h
  · have := (hF k hf).1
    omega
  · exact (hF k hf).2.2 h

theorem zsyn_any {w0 w : World} {Z : Nat → Prop} {g : Nat} {D : CodM} (h : DIn w0 w Z g D) (ns : List ByteArray) (b o c : Nat) (hok : CodOk D) (hb2 : b < w0.heap.size ∨ Z b) (hp : ∀ (j : Nat) (s : ByteArray), ns[j]? = some s → w.cell? ⟨b, o + j, none⟩ = some (.string s)) (hs : ∀ s ∈ ns, s.size ≤ maxLen) (hn : ns.length < 9223372036854775807) :
    Calls Try.prog 11 #[.pointer (some ⟨g, 0, none⟩), .slice (some ⟨b, o, none⟩) ns.length c] w fun e w' => e = .returned (.int .i64 (synM D ns).1) ∧ DIn w0 w' Z g (synM D ns).2 ∧ KeptZ w0 w w' Z := by
  obtain ⟨F, hc, hF, hZ, hb⟩ := h
  refine (dsync_any F g D ns _ w hc hok (fun w' hk => ⟨some ⟨b, o, none⟩, c, by rw [List.length_map], .inr ⟨b, o, rfl, fun j x hj => ?_⟩⟩) hs hn).mono (fun e w' ⟨he, hv⟩ => ⟨he, dIn_step hF hZ hb hv⟩)
  rw [List.getElem?_map] at hj
  obtain ⟨s, hs, rfl⟩ := Option.map_eq_some_iff.1 hj
  have h1 := hp j s hs
  refine cell_same h1 (hk.blk b (block_of_cell h1) (fun hf => ?_))
  rcases hb2 with h | h
  · have := (hF b hf).1
    omega
  · exact (hF b hf).2.2 h

theorem zrem_any {w0 w : World} {Z : Nat → Prop} {g : Nat} {D : CodM} (h : DIn w0 w Z g D) (s : ByteArray) (hok : CodOk D) (hs : s.size ≤ maxLen) :
    Calls Try.prog 21 #[.pointer (some ⟨g, 0, none⟩), .string s] w fun e w' => e = .returned (.int .i64 (remM D s.data.toList).1) ∧ DIn w0 w' Z g (remM D s.data.toList).2 ∧ KeptZ w0 w w' Z := by
  obtain ⟨F, hc, hF, hZ, hb⟩ := h
  exact (dremove_any F g D s w hc hok hs).mono (fun e w' ⟨he, hv⟩ => ⟨he, dIn_step hF hZ hb hv⟩)

theorem zren_any {w0 w : World} {Z : Nat → Prop} {g : Nat} {D : CodM} (h : DIn w0 w Z g D) (s t : ByteArray) (hok : CodOk D) (hs : s.size ≤ maxLen) :
    Calls Try.prog 17 #[.pointer (some ⟨g, 0, none⟩), .string s, .string t] w fun e w' => e = .returned (.int .i64 (renM D s.data.toList t.data.toList).1) ∧ DIn w0 w' Z g (renM D s.data.toList t.data.toList).2 ∧ KeptZ w0 w w' Z := by
  obtain ⟨F, hc, hF, hZ, hb⟩ := h
  exact (drename_any F g D s t w hc hok hs).mono (fun e w' ⟨he, hv⟩ => ⟨he, dIn_step hF hZ hb hv⟩)

theorem ztru_any {w0 w : World} {Z : Nat → Prop} {g : Nat} {D : CodM} (h : DIn w0 w Z g D) (s : ByteArray) (n : Int) (hok : CodOk D) (hs : s.size ≤ maxLen) :
    Calls Try.prog 19 #[.pointer (some ⟨g, 0, none⟩), .string s, .int .i64 n] w fun e w' => e = .returned (.int .i64 (truM D s.data.toList n).1) ∧ DIn w0 w' Z g (truM D s.data.toList n).2 ∧ KeptZ w0 w w' Z := by
  obtain ⟨F, hc, hF, hZ, hb⟩ := h
  exact (dtruncate_any F g D s n w hc hok hs).mono (fun e w' ⟨he, hv⟩ => ⟨he, dIn_step hF hZ hb hv⟩)

theorem zcut_any {w0 w : World} {Z : Nat → Prop} {g : Nat} {D : CodM} (h : DIn w0 w Z g D) (n : Int) :
    Calls Try.prog 23 #[.pointer (some ⟨g, 0, none⟩), .int .i64 n] w fun e w' => e = .returned (.tuple #[]) ∧ DIn w0 w' Z g (cutM D n) ∧ KeptZ w0 w w' Z := by
  obtain ⟨F, hc, hF, hZ, hb⟩ := h
  exact (dcut_any F g D n w hc).mono (fun e w' ⟨he, hv⟩ => ⟨he, dIn_step hF hZ hb hv⟩)

end Go.Proofs.Ytfiocghgjjandaa
