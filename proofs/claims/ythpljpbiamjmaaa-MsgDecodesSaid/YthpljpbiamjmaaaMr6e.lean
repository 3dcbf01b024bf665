/- Contracts: the reference: Encode: what it leaves, and its calls of Lay, ints and text over the bytes so far. -/
import Derived.BigRegion
import Derived.Deep.RegionHeld3
import Derived.Test.YthpljpbiamjmaaaProg
import Derived.Test.YthpljpbiamjmaaaKit
import Derived.Test.YthpljpbiamjmaaaRow
import Derived.Test.YthpljpbiamjmaaaRow2
import Derived.Test.YthpljpbiamjmaaaFrm0
import Derived.Test.YthpljpbiamjmaaaFp
import Derived.Test.YthpljpbiamjmaaaNet0
import Derived.Test.YthpljpbiamjmaaaKp0
import Derived.Test.YthpljpbiamjmaaaMg0
import Derived.Test.YthpljpbiamjmaaaMg10
import Derived.Test.YthpljpbiamjmaaaMr1
import Derived.Test.YthpljpbiamjmaaaMr3
import Derived.Test.YthpljpbiamjmaaaMr4
import Derived.Test.YthpljpbiamjmaaaMr5
namespace Go.Proofs.Ythpljpbiamjmaaa
open Go.RowKit Go.Proofs

/-- Since w: the message's box gM, and the bytes so far, of the call's own. -/
def EnSt (w W : World) (gM : Nat) (cs : List Value) (v : Value) (l : List UInt8) : Prop := Below w.heap.size w W ∧ Rw W 0 gM 27 cs ∧ W.ownsRow w.heap.size 5 1 v l.length (l.map byteV)

theorem own_zero {w : World} {e : TypeId} {s n b : Nat} {v : Value} {xs : List Value} (h : w.ownsRow b e s v n xs) : w.ownsRow 0 e s v n xs := by
  refine ⟨h.1, ?_⟩
  rcases h.2 with h | ⟨g, cap, cur, hv, _, r⟩
  · exact .inl h
  · exact .inr ⟨g, cap, cur, hv, Nat.zero_le _, r⟩

theorem enSt_base {w W : World} {gM : Nat} {cs : List Value} {v : Value} {l : List UInt8} (h : EnSt w W gM cs v l) : ∀ k, v.ownBlock = some k → w.heap.size ≤ k := fun k hk => (World.ownsRow.lt h.2.2 k hk).1

theorem enSt_far {w W W2 : World} {gM : Nat} {cs : List Value} {v : Value} {l : List UInt8} (h : EnSt w W gM cs v l) (hk : Kept (fun k => v.ownBlock = some k) W W2) : Below w.heap.size w W2 :=
  below_kept (kept_then (kept_below h.1) hk (fun x hx => .inr (enSt_base h x hx)))

theorem enSt_next {w W W2 : World} {gM : Nat} {cs : List Value} {v v2 : Value} {l l2 : List UInt8} (h : EnSt w W gM cs v l) (h2 : RowF W W2 v v2 l2) : EnSt w W2 gM cs v2 l2 := by
  refine ⟨enSt_far h h2.2.2, rw_kept h.2.1 h2.2.2 (fun e => own_rw h.2.2 h.2.1 (by decide) e), own_from h2.1 (fun k hk => ?_)⟩
  rcases h2.2.1 k hk with h1 | h1
  · exact enSt_base h k h1
  · exact Nat.le_trans h.1.size h1

theorem enSt_below {w W W2 : World} {gM : Nat} {cs : List Value} {v : Value} {l : List UInt8} (h : EnSt w W gM cs v l) (hb : Below W.heap.size W W2) : EnSt w W2 gM cs v l := ⟨below_then h.1 hb, Rw.below h.2.1 hb, own_below h.2.2 hb⟩

theorem enSt_drew {w W : World} {gM : Nat} {cs : List Value} {v : Value} {l : List UInt8} (h : EnSt w W gM cs v l) : EnSt w W.drew gM cs v l := enSt_below h (below_draws (Below.refl _ _) ⟨1, rfl⟩)

theorem enSt_new {w W : World} {gM : Nat} {cs : List Value} (hb : Below w.heap.size w W) (hr : Rw W 0 gM 27 cs) (x : UInt8) : EnSt w (W.alloc (.cells #[byteV x] 5)) gM cs (.slice (some ⟨W.heap.size, 0, none⟩) 1 1) [x] :=
  ⟨below_more hb _, Rw.more hr _, own_from (World.ownsRow_lit W #[byteV x] 1 (Nat.le_refl W.heap.size) (by decide) rfl |> own_zero) (fun k hk => by simp only [Value.ownBlock, Option.some.injEq] at hk; subst hk; exact hb.size)⟩

/-- A byte behind the bytes so far. -/
theorem enSt_add {w W W1 W4 : World} {gM : Nat} {cs : List Value} {v v4 : Value} {l : List UInt8} {x : UInt8} {n : Nat} (h : EnSt w W gM cs v l) (hb : Below W.heap.size W W1) (hg : W1.grownBy W4 v.ownBlock) (h4 : W4.ownsRow 0 5 1 v4 (n + 1) (l.map byteV ++ [byteV x])) (hn : n = l.length) (hat : ∀ k, v4.ownBlock = some k → v.ownBlock = some k ∨ W.heap.size ≤ k) : EnSt w W4 gM cs v4 (l ++ [x]) :=
  enSt_next h (rowF_grow (rowF_refl (own_zero h.2.2)) hb hg (by rw [List.length_append, List.map_append, ← hn]; exact h4) hat)

def EnRet (w w' : World) (gM : Nat) (cs : List Value) (e : Ending) (l : List UInt8) : Prop := ∃ a n c, e = .returned (.slice a n c) ∧ n = l.length ∧ EnSt w w' gM cs (.slice a n c) l

theorem enRet_of {w W w' : World} {gM : Nat} {cs : List Value} {v : Value} {l l2 : List UInt8} {e : Ending} (h : EnSt w W gM cs v l) (hr : RetF W w' v e l2) : EnRet w w' gM cs e l2 := by
  obtain ⟨v2, rfl, h2⟩ := hr
  have h3 := enSt_next h h2
  obtain ⟨a, c, rfl⟩ := own_len h3.2.2
  exact ⟨a, _, c, rfl, rfl, h3⟩

theorem rlay_at {w W : World} {gM : Nat} {cs : List Value} {v : Value} {l : List UInt8} (h : EnSt w W gM cs v l) (V : Nat) (hV : V < 9223372036854775808) (hl : l.length ≤ 500000000) :
    Calls Try.prog 21 #[v, .int .i64 8, .int .u64 (V : Int)] W fun e w' => EnRet w w' gM cs e (l ++ layS 8 V) :=
  (rlay_any (own_zero h.2.2) 8 V (by decide) hV (by omega)).mono (fun _ _ hr => enRet_of h hr)

theorem rints_at {w W : World} {gM : Nat} {cs : List Value} {v : Value} {l : List UInt8} (h : EnSt w W gM cs v l) {lv : Value} {x : List Int} (hp : IntsAt w lv x) (h0 : natsB x = true) (hs : smallI x) (hx : x.length ≤ 255) (hl : l.length ≤ 500000000) :
    Calls Try.prog 22 #[v, lv] W fun e w' => EnRet w w' gM cs e (l ++ lstW x) :=
  (rints_any (own_zero h.2.2) (fun w' hk => intsAt_below hp (enSt_far h hk)) h0 hs hx (by omega)).mono (fun _ _ hr => enRet_of h hr)

theorem rtext_at {w W : World} {gM : Nat} {cs : List Value} {v : Value} {l : List UInt8} (h : EnSt w W gM cs v l) (d : ByteArray) (hd : d.size ≤ 100000000) (hl : l.length ≤ 500000000) :
    Calls Try.prog 23 #[v, .string d] W fun e w' => EnRet w w' gM cs e (l ++ txtW d) :=
  (rtext_any (own_zero h.2.2) d (by omega)).mono (fun _ _ hr => enRet_of h hr)

/-- What Encode leaves. -/
def EncV (w w' : World) (e : Ending) (m : MsgM) : Prop := ∃ v', e = .returned (.tuple #[v', .int .i64 (codW m)]) ∧ w'.ownsRow w.heap.size 5 1 v' (encW m).length ((encW m).map byteV) ∧ Below w.heap.size w w'

theorem encV_no {w w' : World} {m : MsgM} (h : okMB m = false) (hb : Below w.heap.size w w') : EncV w w' (.returned (.tuple #[.slice none 0 0, .int .i64 1])) m := by
  refine ⟨.slice none 0 0, ?_, ?_, hb⟩
  · unfold codW; rw [if_neg (by rw [h]; decide)]
  · unfold encW; rw [if_neg (by rw [h]; decide)]; exact World.ownsRow_nil _ _ _ _

theorem encV_yes {w w' : World} {gM : Nat} {cs : List Value} {m : MsgM} {v : Value} {l : List UInt8} (h : okMB m = true) (hl : l = msgW m) (hr : EnSt w w' gM cs v l) : EncV w w' (.returned (.tuple #[v, .int .i64 0])) m := by
  refine ⟨v, ?_, ?_, hr.1⟩
  · unfold codW; rw [if_pos h]
  · unfold encW; rw [if_pos h, ← hl]; exact hr.2.2

theorem badR_parts {kd fr tq tm ix lt cm n M D si st : Int} (h : badR kd fr tq tm ix lt cm n M D si st = false) : decide (kd < 1) = false ∧ decide (5 < kd) = false ∧ decide (fr < 1) = false ∧ decide (9 < fr) = false ∧ decide (tq < 1) = false ∧ decide (9 < tq) = false ∧ decide (tm < 0) = false ∧ decide (ix < 0) = false ∧ decide (lt < 0) = false ∧ decide (cm < 0) = false ∧ decide (8 < n) = false ∧ decide (9 < M) = false ∧ decide (65536 < D) = false ∧ decide (si < 0) = false ∧ decide (st < 0) = false := by
  unfold badR at h
  simp only [Bool.or_eq_false_iff] at h
  obtain ⟨⟨⟨⟨⟨⟨⟨⟨⟨⟨⟨⟨⟨⟨q0, q1⟩, q2⟩, q3⟩, q4⟩, q5⟩, q6⟩, q7⟩, q8⟩, q9⟩, q10⟩, q11⟩, q12⟩, q13⟩, q14⟩ := h
  exact ⟨q0, q1, q2, q3, q4, q5, q6, q7, q8, q9, q10, q11, q12, q13, q14⟩

theorem unl_es {m : MsgM} (h : emptyB (unlM m) = true) (hk : m.kd ≠ 3) : m.es.length = 0 := by
  obtain ⟨kd, fr, tq, tm, ix, lt, cm, yes, es, sn⟩ := m
  dsimp only at hk ⊢
  obtain ⟨g1, g2, g3, g4, g5, g6⟩ := emptyB_parts h
  unfold unlM at g5
  simp only [if_neg hk] at g5
  have : es = [] := by
    revert g5
    split
    · exact id
    split
    · exact id
    split
    · exact id
    split
    · exact id
    · exact id
  rw [this]
  rfl

theorem unl_ms {m : MsgM} (h : emptyB (unlM m) = true) (hk : m.kd ≠ 5) : m.sn.ms.length = 0 := by
  obtain ⟨kd, fr, tq, tm, ix, lt, cm, yes, es, sn⟩ := m
  dsimp only at hk ⊢
  obtain ⟨g1, g2, g3, g4, g5, g6⟩ := emptyB_parts h
  unfold unlM at g6
  simp only [if_neg hk] at g6
  have : sn = zeroSn := by
    revert g6
    split
    · exact id
    split
    · exact id
    split
    · exact id
    split
    · exact id
    · exact id
  rw [this]
  rfl

theorem onlyM_four (m : MsgM) : (onlyM m).kd = m.kd ∧ (onlyM m).fr = m.fr ∧ (onlyM m).to = m.to ∧ (onlyM m).tm = m.tm := by
  unfold onlyM
  split
  · exact ⟨rfl, rfl, rfl, rfl⟩
  split
  · exact ⟨rfl, rfl, rfl, rfl⟩
  split
  · exact ⟨rfl, rfl, rfl, rfl⟩
  split
  · exact ⟨rfl, rfl, rfl, rfl⟩
  split
  · exact ⟨rfl, rfl, rfl, rfl⟩
  · exact ⟨rfl, rfl, rfl, rfl⟩

theorem onlyM_same {m : MsgM} {r : Bool} (hk : 1 ≤ m.kd ∧ m.kd ≤ 5) (hr : SameR r (onlyM m) m) : r = emptyB (unlM m) := by
  have h1 := only_empty m hk
  cases r with
  | false => cases hb : emptyB (unlM m) with
    | false => rfl
    | true => exact absurd (hr.2 (h1.2 hb)) (by decide)
  | true => exact (h1.1 (hr.1 rfl)).symm

end Go.Proofs.Ythpljpbiamjmaaa
