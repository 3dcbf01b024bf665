/- The code's net within a law. -/
import Derived.BigRegion
import Derived.Deep.RegionHeld3
import Derived.Test.YtneomfhlkdpnjaaProg
import Derived.Test.YtneomfhlkdpnjaaKit
import Derived.Test.YtneomfhlkdpnjaaRow
import Derived.Test.YtneomfhlkdpnjaaFp
import Derived.Test.YtneomfhlkdpnjaaDsk17
import Derived.Test.YtneomfhlkdpnjaaNet0
import Derived.Test.YtneomfhlkdpnjaaNet1
import Derived.Test.YtneomfhlkdpnjaaNet5
import Derived.Test.YtneomfhlkdpnjaaNet6
import Derived.Test.YtneomfhlkdpnjaaNet7
import Derived.Test.YtneomfhlkdpnjaaNet10
import Derived.Test.YtneomfhlkdpnjaaNet11
namespace Go.Proofs.Ytneomfhlkdpnjaa
open Go.RowKit Go.Proofs

/-- A net that has been made since w0; Z: blocks that are not its own. -/
def NIn (w0 w : World) (Z : Nat → Prop) (g : Nat) (ps : List PkM) : Prop :=
  ∃ v rs, NetAt 93 w g v rs ∧ rs.map (·.p) = ps ∧ w0.heap.size ≤ g ∧ (∀ k, v.ownBlock = some k → w0.heap.size ≤ k) ∧ Below w0.heap.size w0 w ∧ ∀ k, Z k → k < w.heap.size ∧ ¬ Foot g v k ∧ ∀ r ∈ rs, r.u.ownBlock ≠ some k

def Stay (w w' : World) (Z : Nat → Prop) : Prop := (∀ k, Z k → w'.heap[k]? = w.heap[k]?) ∧ ∀ (n : Nat) (u : Value) (xs : List Value), w.ownsRow 0 5 1 u n xs → w'.ownsRow 0 5 1 u n xs

theorem nin_step {w0 w w' : World} {Z : Nat → Prop} {g : Nat} {v : Value} {rs rs' : List RecP} {ps : List PkM} (h : NetAt 93 w g v rs) (hg : w0.heap.size ≤ g) (hv : ∀ k, v.ownBlock = some k → w0.heap.size ≤ k) (hb : Below w0.heap.size w0 w) (hZ : ∀ k, Z k → k < w.heap.size ∧ ¬ Foot g v k ∧ ∀ r ∈ rs, r.u.ownBlock ≠ some k)
    (hf : ∀ r ∈ rs', r ∈ rs ∨ ∀ k, r.u.ownBlock = some k → w.heap.size ≤ k) (hV : NetV 93 w w' g v rs') (hp : rs'.map (·.p) = ps) : NIn w0 w' Z g ps ∧ Stay w w' Z := by
  obtain ⟨v', h1, h2, h3⟩ := hV
  refine ⟨⟨v', rs', h1, hp, hg, fun k hk => ?_, ?_, fun k hk => ⟨Nat.lt_of_lt_of_le (hZ k hk).1 h3.size, fun hf => ?_, fun r hr hu => ?_⟩⟩, fun k hk => h3.blk k (hZ k hk).1 (hZ k hk).2.1, fun n u xs ho => own_keep ho h3 (fun _ hb => bytP_off h (by decide) ho hb)⟩
  · rcases h2 k hk with h4 | h4
    · exact hv k h4
    · exact Nat.le_trans hb.size h4
  · refine below_kept (kept_then (F := fun _ => False) (kept_below hb) h3 (fun k hk => .inr ?_))
    rcases hk with rfl | hk
    · exact hg
    · exact hv k hk
  · have h5 := hZ k hk
    rcases foot_next h2 k hf with h6 | h6
    · exact h5.2.1 h6
    · omega
  · have h5 := hZ k hk
    rcases hf r hr with h6 | h6
    · exact h5.2.2 r h6 hu
    · have := h6 k hu
      omega

theorem nin_below {w0 w w' : World} {Z : Nat → Prop} {g : Nat} {ps : List PkM} (h : NIn w0 w Z g ps) (hb : Below w.heap.size w w') : NIn w0 w' (fun k => Z k ∨ (w.heap.size ≤ k ∧ k < w'.heap.size)) g ps := by
  obtain ⟨v, rs, h1, h2, h3, h4, h5, h6⟩ := h
  refine ⟨v, rs, netAt_below h1 hb, h2, h3, h4, h5.trans (hb.mono h5.size), fun k hk => ?_⟩
  rcases hk with hk | hk
  · exact ⟨Nat.lt_of_lt_of_le (h6 k hk).1 hb.size, (h6 k hk).2⟩
  · exact ⟨hk.2, fun hf => by have := netAt_lt h1 hf; omega, fun r hr hu => by have := own_lt (h1.2.2 r hr).1 hu; omega⟩

theorem nin_less {w0 w : World} {Z Z' : Nat → Prop} {g : Nat} {ps : List PkM} (h : NIn w0 w Z g ps) (hZ : ∀ k, Z' k → Z k) : NIn w0 w Z' g ps := by
  obtain ⟨v, rs, h1, h2, h3, h4, h5, h6⟩ := h
  exact ⟨v, rs, h1, h2, h3, h4, h5, fun k hk => h6 k (hZ k hk)⟩

theorem nin_all {w0 w : World} {Z : Nat → Prop} {g : Nat} {ps : List PkM} (h : NIn w0 w Z g ps) : Below w0.heap.size w0 w := by obtain ⟨_, _, _, _, _, _, h, _⟩ := h; exact h

theorem nin_new (w : World) : NIn w (w.alloc (.cells #[.slice none 0 0] 93)) (fun _ => False) w.heap.size [] :=
  ⟨.slice none 0 0, [], netAt_new, rfl, Nat.le_refl _, fun k hk => by simp [Value.ownBlock] at hk, below_more (Below.refl _ _) _, fun _ h => h.elim⟩

def PksZ (w : World) (Z : Nat → Prop) (v : Value) (ls : List PkM) : Prop :=
  ∃ A C, v = .slice A ls.length C ∧ (ls = [] ∨ ∃ b o, A = some ⟨b, o, none⟩ ∧ Z b ∧ ∀ (j : Nat) (p : PkM), ls[j]? = some p → ∃ u, w.rangeAt b (o + j * 3) [.int .i64 p.f, .int .i64 p.t, u] ∧ ByteZ w Z u p.b ∧ p.b.length ≤ 140737488351232)

theorem pksZ_in {w w' : World} {Z : Nat → Prop} {v : Value} {ls : List PkM} (h : PksZ w Z v ls) (hk : ∀ k, k < w.heap.size → Z k → w'.heap[k]? = w.heap[k]?) (hs : w.heap.size ≤ w'.heap.size) : PksIn w' v ls := by
  obtain ⟨A, C, rfl, h⟩ := h
  refine ⟨A, C, rfl, ?_⟩
  rcases h with h | ⟨b, o, ha, hZ, h⟩
  · exact .inl h
  · refine .inr ⟨b, o, ha, fun j p hj => ?_⟩
    obtain ⟨u, h1, h2, h3⟩ := h j p hj
    refine ⟨u, fun i x hi => ?_, byteZ_sl h2 hk hs, h3⟩
    have h4 := h1 i x hi
    exact cell_same h4 (hk b (block_of_cell h4) hZ)

theorem nin_send {w0 w w1 : World} {Z : Nat → Prop} {g : Nat} {ps ls : List PkM} {vin : Value} (h : NIn w0 w Z g ps) (hb : Below w.heap.size w w1) (hz : PksZ w1 (fun k => k < w0.heap.size ∨ w.heap.size ≤ k) vin ls) (hn : ls.length < 1000000000000) (hl : ps.length ≤ 64) :
    Calls Try.prog 13 #[.pointer (some ⟨g, 0, none⟩), vin] w1 fun e w' => e = .returned (.int .i64 (sendM ps ls).1) ∧ NIn w0 w' Z g (sendM ps ls).2 ∧ Stay w1 w' Z := by
  obtain ⟨v, rs, h1, rfl, h3, h4, h5, h6⟩ := h
  have hA := netAt_below h1 hb
  refine (nsend_any hA ls vin (fun w' hk => pksZ_in hz (fun k hlt hZ => hk.blk k hlt (fun hf => ?_)) hk.size) hn (by simpa using hl)).mono ?_
  · have h8 := netAt_lt h1 hf
    rcases hZ with h7 | h7
    · rcases hf with rfl | hf
      · omega
      · have := h4 k hf
        omega
    · omega
  · rintro e w' ⟨rfl, rs', hV, hm, hf⟩
    have hs := nin_step hA h3 h4 (h5.trans (hb.mono h5.size)) (fun k hk => ⟨Nat.lt_of_lt_of_le (h6 k hk).1 hb.size, (h6 k hk).2⟩) hf hV hm
    exact ⟨rfl, hs.1, hs.2⟩

theorem nin_sendz {w0 w : World} {Z : Nat → Prop} {g : Nat} {ps ls : List PkM} {vin : Value} (h : NIn w0 w Z g ps) (hz : PksZ w (fun k => k < w0.heap.size ∨ Z k) vin ls) (hn : ls.length < 1000000000000) (hl : ps.length ≤ 64) :
    Calls Try.prog 13 #[.pointer (some ⟨g, 0, none⟩), vin] w fun e w' => e = .returned (.int .i64 (sendM ps ls).1) ∧ NIn w0 w' Z g (sendM ps ls).2 ∧ Stay w w' Z := by
  obtain ⟨v, rs, h1, rfl, h3, h4, h5, h6⟩ := h
  refine (nsend_any h1 ls vin (fun w' hk => pksZ_in hz (fun k hlt hZ => hk.blk k hlt (fun hf => ?_)) hk.size) hn (by simpa using hl)).mono ?_
  · rcases hZ with h7 | h7
    · rcases hf with rfl | hf
      · omega
      · have := h4 k hf
        omega
    · exact (h6 k h7).2.1 hf
  · rintro e w' ⟨rfl, rs', hV, hm, hf⟩
    have hs := nin_step h1 h3 h4 h5 h6 hf hV hm
    exact ⟨rfl, hs.1, hs.2⟩

theorem erase_map (rs : List RecP) (k : Nat) : (rs.eraseIdx k).map (·.p) = (rs.map (·.p)).eraseIdx k := by
  rw [List.eraseIdx_eq_take_drop_succ, List.eraseIdx_eq_take_drop_succ, List.map_append, List.map_take, List.map_drop]

theorem nin_deliver {w0 w : World} {Z : Nat → Prop} {g : Nat} {ps : List PkM} (h : NIn w0 w Z g ps) {k : Nat} {p : PkM} (hk : ps[k]? = some p) (hl : ps.length ≤ 64) :
    Calls Try.prog 15 #[.pointer (some ⟨g, 0, none⟩), .int .i64 k] w fun e w' => ∃ a c, e = .returned (.tuple #[.agg #[.int .i64 p.f, .int .i64 p.t, .slice a p.b.length c], .bool true]) ∧ w'.ownsRow 0 5 1 (.slice a p.b.length c) p.b.length (p.b.map byteV) ∧ NIn w0 w' Z g (ps.eraseIdx k) ∧ Stay w w' Z := by
  obtain ⟨v, rs, h1, rfl, h3, h4, h5, h6⟩ := h
  rw [List.getElem?_map] at hk
  obtain ⟨r, hr, rfl⟩ := Option.map_eq_some_iff.1 hk
  refine (deliver_yes h1 hr (by rw [List.length_map] at hl; omega)).mono ?_
  rintro e w' ⟨a, c, hu, rfl, hV, hby⟩
  have hs := nin_step h1 h3 h4 h5 h6 (fun r hr => .inl (List.mem_of_mem_eraseIdx hr)) hV (erase_map rs k)
  refine ⟨a, c, rfl, ?_, hs.1, hs.2⟩
  rw [← hu]
  exact hby.1

theorem nin_len {w0 w : World} {Z : Nat → Prop} {g : Nat} {ps : List PkM} (h : NIn w0 w Z g ps) : Calls Try.prog 25 #[.pointer (some ⟨g, 0, none⟩)] w fun e w' => e = .returned (.int .i64 ps.length) ∧ w' = w := by
  obtain ⟨v, rs, h1, rfl, h3, h4, h5, h6⟩ := h
  rw [List.length_map]
  exact nlen_any h1

theorem nin_twice {w0 w : World} {Z : Nat → Prop} {g : Nat} {ps : List PkM} (h : NIn w0 w Z g ps) {k : Nat} {p : PkM} (hk : ps[k]? = some p) (hl : ps.length < 64) :
    Calls Try.prog 19 #[.pointer (some ⟨g, 0, none⟩), .int .i64 k] w fun e w' => e = .returned (.bool true) ∧ NIn w0 w' Z g (ps ++ [p]) ∧ Stay w w' Z := by
  obtain ⟨v, rs, h1, rfl, h3, h4, h5, h6⟩ := h
  rw [List.getElem?_map] at hk
  obtain ⟨r, hr, rfl⟩ := Option.map_eq_some_iff.1 hk
  refine (ntwice_yes h1 hr (by rw [List.length_map] at hl; omega)).mono ?_
  rintro e w' ⟨rfl, u', hu, hV⟩
  exact ⟨rfl, nin_step h1 h3 h4 h5 h6 (fun r2 hr2 => by
    rcases List.mem_append.1 hr2 with h | h
    · exact .inl h
    · simp only [List.mem_cons, List.not_mem_nil, or_false] at h
      subst h
      exact .inr hu) hV (by rw [List.map_append]; rfl)⟩

/-- A literal of one packet of one byte. -/
theorem lit_pk {w : World} {Z : Nat → Prop} (f t : Int) (x : UInt8) (e e2 : TypeId) (f1 f2 : Nat × Nat) (b b2 : Nat) (hb : b = w.heap.size) (hb2 : b2 = w.heap.size + 1) (hZ : Z b) (hZ2 : Z b2) :
    PksZ ((w.alloc (.cells #[byteV x] e f1)).alloc (.cells #[.int .i64 f, .int .i64 t, .slice (some ⟨b, 0, none⟩) 1 1] e2 f2)) Z (.slice (some ⟨b2, 0, none⟩) 1 1) [⟨f, t, [x]⟩] := by
  subst hb hb2
  have h1 : ((w.alloc (.cells #[byteV x] e f1)).alloc (.cells #[.int .i64 f, .int .i64 t, .slice (some ⟨w.heap.size, 0, none⟩) 1 1] e2 f2)).heap[w.heap.size]? = some (.cells #[byteV x] e f1) := by
    rw [(below_more (Below.refl _ (w.alloc (.cells #[byteV x] e f1))) _).block w.heap.size (by simp)]
    exact heap_alloc_new w _
  have h2 : ((w.alloc (.cells #[byteV x] e f1)).alloc (.cells #[.int .i64 f, .int .i64 t, .slice (some ⟨w.heap.size, 0, none⟩) 1 1] e2 f2)).heap[w.heap.size + 1]? = some (.cells #[.int .i64 f, .int .i64 t, .slice (some ⟨w.heap.size, 0, none⟩) 1 1] e2 f2) := by
    have := heap_alloc_new (w.alloc (.cells #[byteV x] e f1)) (.cells #[.int .i64 f, .int .i64 t, .slice (some ⟨w.heap.size, 0, none⟩) 1 1] e2 f2)
    simpa using this
  refine ⟨_, 1, rfl, .inr ⟨_, 0, rfl, hZ2, fun j p hj => ?_⟩⟩
  cases j with
  | zero =>
    simp at hj
    subst hj
    refine ⟨.slice (some ⟨w.heap.size, 0, none⟩) 1 1, fun i y hi => ?_, .inr ⟨_, 1, rfl, Nat.le_refl _, .inr ⟨w.heap.size, 0, rfl, hZ, fun i y hi => ?_⟩⟩, by simp⟩
    · rw [cell_of_row _ _ _ _ e2 f2 h2]
      simpa using hi
    · rw [cell_of_row _ _ _ _ e f1 h1]
      cases i with
      | zero => simp at hi; subst hi; rfl
      | succ i => simp at hi
  | succ j => simp at hj

theorem nin_lit {w0 w : World} {Z : Nat → Prop} {g : Nat} {ps : List PkM} (h : NIn w0 w Z g ps) (f t : Int) (x : UInt8) (e e2 : TypeId) (f1 f2 : Nat × Nat) (b b2 : Nat) (xv : Value) (hx : xv = byteV x) (hb : b = w.heap.size) (hb2 : b2 = w.heap.size + 1) (hl : ps.length ≤ 64) :
    Calls Try.prog 13 #[.pointer (some ⟨g, 0, none⟩), .slice (some ⟨b2, 0, none⟩) 1 1] ((w.alloc (.cells #[xv] e f1)).alloc (.cells #[.int .i64 f, .int .i64 t, .slice (some ⟨b, 0, none⟩) 1 1] e2 f2)) fun e w' => e = .returned (.int .i64 (sendM ps [⟨f, t, [x]⟩]).1) ∧ NIn w0 w' Z g (sendM ps [⟨f, t, [x]⟩]).2 := by
  subst hx
  refine (nin_send h (below_more (below_more (Below.refl _ _) _) _) (lit_pk f t x e e2 f1 f2 b b2 hb hb2 (.inr (by omega)) (.inr (by omega))) (by simp) hl).mono ?_
  rintro e w' ⟨rfl, h1, _⟩
  exact ⟨rfl, h1⟩

theorem nin_peek {w0 w : World} {Z : Nat → Prop} {g : Nat} {ps : List PkM} (h : NIn w0 w Z g ps) {k : Nat} {p : PkM} (hk : ps[k]? = some p) :
    Calls Try.prog 23 #[.pointer (some ⟨g, 0, none⟩), .int .i64 k] w fun e w' => ∃ a c, e = .returned (.tuple #[.agg #[.int .i64 p.f, .int .i64 p.t, .slice a p.b.length c], .bool true]) ∧ w'.ownsRow w.heap.size 5 1 (.slice a p.b.length c) p.b.length (p.b.map byteV) ∧ Below w.heap.size w w' := by
  obtain ⟨v, rs, h1, rfl, h3, h4, h5, h6⟩ := h
  rw [List.getElem?_map] at hk
  obtain ⟨r, hr, rfl⟩ := Option.map_eq_some_iff.1 hk
  exact peek_yes h1 hr

/-- A store into a block that is not the net's. -/
theorem nin_store {w0 w : World} {Z : Nat → Prop} {g : Nat} {ps : List PkM} {gm : Nat} (h : NIn w0 w Z g ps) (hZ : Z gm) (hg : w0.heap.size ≤ gm) (j : Nat) (u : Value) : NIn w0 (w.setCell ⟨gm, j, none⟩ u) Z g ps := by
  obtain ⟨v, rs, h1, h2, h3, h4, h5, h6⟩ := h
  refine ⟨v, rs, netAt_same h1 (fun k hk => set_far ?_) (fun r hr k hk => set_far ?_), h2, h3, h4, h5.setCell hg u, fun k hk => ⟨?_, (h6 k hk).2⟩⟩
  · rintro rfl
    exact (h6 _ hZ).2.1 hk
  · rintro rfl
    exact (h6 _ hZ).2.2 r hr hk
  · have := (h6 k hk).1
    simpa [World.setCell] using this

theorem sendM_one {ps : List PkM} {p : PkM} (h : ps.length < 64) (ht : travB p = true) : sendM ps [p] = (1, ps ++ [p]) := by
  unfold sendM
  rw [decide_eq_true h, ht]
  rfl

theorem range_pk (n : Nat) (f : Nat → PkM) : ((List.range n).map f).length = n := by simp

theorem range_next (n : Nat) (f : Nat → PkM) : (List.range n).map f ++ [f n] = (List.range (n + 1)).map f := by rw [List.range_succ, List.map_append]; rfl

theorem drop_head {α : Type} {l : List α} {i : Nat} {x : α} (h : l[i]? = some x) : (l.drop i)[0]? = some x ∧ (l.drop i).eraseIdx 0 = l.drop (i + 1) := by
  refine ⟨by rw [List.getElem?_drop, Nat.add_zero]; exact h, ?_⟩
  have hl := (List.getElem?_eq_some_iff.1 h).1
  rw [List.drop_eq_getElem_cons hl]
  rfl

theorem own_byte {w : World} {a : Option Addr} {c : Nat} {x : UInt8} (h : w.ownsRow 0 5 1 (.slice a 1 c) 1 [byteV x]) : ∃ gb, a = some ⟨gb, 0, none⟩ ∧ w.cell? ⟨gb, 0, none⟩ = some (.int .u8 x.toNat) := by
  obtain ⟨gb, c', hv, _⟩ := own_some h (by decide)
  injection hv with h1 h2 h3
  subst h1
  exact ⟨gb, rfl, World.ownsRow.cellAt h 0 (by decide)⟩

end Go.Proofs.Ytneomfhlkdpnjaa
