/- Contracts: the reference: Encode: where an appended byte lies; calls beside an entry's box, or a byte's block. -/
import Derived.BigRegion
import Derived.Test.YthpljpbiamjmaaaProg
import Derived.Test.YthpljpbiamjmaaaKit
import Derived.Test.YthpljpbiamjmaaaRow
import Derived.Test.YthpljpbiamjmaaaRow2
import Derived.Test.YthpljpbiamjmaaaFrm0
import Derived.Test.YthpljpbiamjmaaaFp
import Derived.Test.YthpljpbiamjmaaaNet0
import Derived.Test.YthpljpbiamjmaaaKp0
import Derived.Test.YthpljpbiamjmaaaMg0
import Derived.Test.YthpljpbiamjmaaaMr4
import Derived.Test.YthpljpbiamjmaaaMr6e
namespace Go.Proofs.Ythpljpbiamjmaaa
open Go.RowKit Go.Proofs

theorem en_hat {W : World} {v : Value} {g H n c : Nat} (h : v.ownBlock = some g ∨ g = H) (hH : W.heap.size ≤ H) : ∀ k, (Value.slice (some ⟨g, 0, none⟩) n c).ownBlock = some k → v.ownBlock = some k ∨ W.heap.size ≤ k := by
  intro k hk
  simp only [Value.ownBlock, Option.some.injEq] at hk
  subst hk
  exact h.imp id (fun h => by omega)

/-- Beside the message's box an entry's. -/
def EnS2 (w W : World) (gM : Nat) (cs : List Value) (gE : Nat) (ce : List Value) (v : Value) (l : List UInt8) : Prop := EnSt w W gM cs v l ∧ Rw W 0 gE 46 ce

theorem enS2_next {w W W2 : World} {gM gE : Nat} {cs ce : List Value} {v v2 : Value} {l l2 : List UInt8} (h : EnS2 w W gM cs gE ce v l) (h2 : RowF W W2 v v2 l2) : EnS2 w W2 gM cs gE ce v2 l2 := ⟨enSt_next h.1 h2, rw_kept h.2 h2.2.2 (fun e => own_rw h.1.2.2 h.2 (by decide) e)⟩

theorem enS2_drew {w W : World} {gM gE : Nat} {cs ce : List Value} {v : Value} {l : List UInt8} (h : EnS2 w W gM cs gE ce v l) : EnS2 w W.drew gM cs gE ce v l := ⟨enSt_drew h.1, Rw.below h.2 (below_draws (Below.refl _ _) ⟨1, rfl⟩)⟩

def EnR2 (w w' : World) (gM : Nat) (cs : List Value) (gE : Nat) (ce : List Value) (e : Ending) (l : List UInt8) : Prop := ∃ a n c, e = .returned (.slice a n c) ∧ n = l.length ∧ EnS2 w w' gM cs gE ce (.slice a n c) l

theorem enR2_of {w W w' : World} {gM gE : Nat} {cs ce : List Value} {v : Value} {l l2 : List UInt8} {e : Ending} (h : EnS2 w W gM cs gE ce v l) (hr : RetF W w' v e l2) : EnR2 w w' gM cs gE ce e l2 := by
  obtain ⟨v2, rfl, h2⟩ := hr
  have h3 := enS2_next h h2
  obtain ⟨a, c, rfl⟩ := own_len h3.1.2.2
  exact ⟨a, _, c, rfl, rfl, h3⟩

theorem rlay_at2 {w W : World} {gM gE : Nat} {cs ce : List Value} {v : Value} {l : List UInt8} (h : EnS2 w W gM cs gE ce v l) (V : Nat) (hV : V < 9223372036854775808) (hl : l.length ≤ 500000000) :
    Calls Try.prog 21 #[v, .int .i64 8, .int .u64 (V : Int)] W fun e w' => EnR2 w w' gM cs gE ce e (l ++ layS 8 V) :=
  (rlay_any (own_zero h.1.2.2) 8 V (by decide) hV (by omega)).mono (fun _ _ hr => enR2_of h hr)

theorem rints_at2 {w W : World} {gM gE : Nat} {cs ce : List Value} {v : Value} {l : List UInt8} (h : EnS2 w W gM cs gE ce v l) {lv : Value} {x : List Int} (hp : IntsAt w lv x) (h0 : natsB x = true) (hs : smallI x) (hx : x.length ≤ 255) (hl : l.length ≤ 500000000) :
    Calls Try.prog 22 #[v, lv] W fun e w' => EnR2 w w' gM cs gE ce e (l ++ lstW x) :=
  (rints_any (own_zero h.1.2.2) (fun w' hk => intsAt_below hp (enSt_far h.1 hk)) h0 hs hx (by omega)).mono (fun _ _ hr => enR2_of h hr)

theorem rtext_at2 {w W : World} {gM gE : Nat} {cs ce : List Value} {v : Value} {l : List UInt8} (h : EnS2 w W gM cs gE ce v l) (d : ByteArray) (hd : d.size ≤ 100000000) (hl : l.length ≤ 500000000) :
    Calls Try.prog 23 #[v, .string d] W fun e w' => EnR2 w w' gM cs gE ce e (l ++ txtW d) :=
  (rtext_any (own_zero h.1.2.2) d (by omega)).mono (fun _ _ hr => enR2_of h hr)

/-- Beside the message's box a block that holds one value. -/
def EnC (w W : World) (gM : Nat) (cs : List Value) (q : Nat) (x v : Value) (l : List UInt8) : Prop := EnSt w W gM cs v l ∧ W.cell? ⟨q, 0, none⟩ = some x

def EnRC (w w' : World) (gM : Nat) (cs : List Value) (q : Nat) (x : Value) (e : Ending) (l : List UInt8) : Prop := ∃ a n c, e = .returned (.slice a n c) ∧ n = l.length ∧ EnC w w' gM cs q x (.slice a n c) l

theorem rlay_atC {w W : World} {gM q : Nat} {cs : List Value} {x v : Value} {l : List UInt8} (h : EnSt w W gM cs v l) (hx : W.cell? ⟨q, 0, none⟩ = some x) (hq : v.ownBlock ≠ some q) (hz : q < W.heap.size) (V : Nat) (hV : V < 9223372036854775808) (hl : l.length ≤ 500000000) :
    Calls Try.prog 21 #[v, .int .i64 8, .int .u64 (V : Int)] W fun e w' => EnRC w w' gM cs q x e (l ++ layS 8 V) := by
  refine (rlay_any (own_zero h.2.2) 8 V (by decide) hV (by omega)).mono ?_
  rintro e w' hr
  obtain ⟨v2, rfl, h2⟩ := hr
  have h3 := enSt_next h h2
  obtain ⟨a, c, rfl⟩ := own_len h3.2.2
  exact ⟨a, _, c, rfl, rfl, h3, cell_kept hx (h2.2.2.blk q hz hq)⟩

theorem enSt_more {w W : World} {gM : Nat} {cs : List Value} {v : Value} {l : List UInt8} (h : EnSt w W gM cs v l) (o : Obj) : EnSt w (W.alloc o) gM cs v l := enSt_below h (below_more (Below.refl _ _) o)

theorem entB_parts {x : EntM} (h : entB x = true) : (0 ≤ x.ix ∧ 0 ≤ x.tm ∧ 0 ≤ x.kd) ∧ x.d.size ≤ 4000 ∧ x.ms.length ≤ 9 ∧ natsB x.ms = true := by
  unfold entB memsB natsB at h
  simp only [Bool.and_eq_true, decide_eq_true_eq, List.all_cons, List.all_nil, Bool.and_true] at h
  exact ⟨h.1.1, h.1.2, h.2.1, by unfold natsB; exact h.2.2⟩

theorem all_ent_not {l : List EntM} {i : Nat} {x : EntM} (hx : l[i]? = some x) (h0 : entB x = false) : l.all entB = false := by
  rw [Bool.eq_false_iff]
  intro h
  have := List.all_eq_true.1 h x (List.mem_of_getElem? hx)
  rw [h0] at this
  cases this

end Go.Proofs.Ythpljpbiamjmaaa
