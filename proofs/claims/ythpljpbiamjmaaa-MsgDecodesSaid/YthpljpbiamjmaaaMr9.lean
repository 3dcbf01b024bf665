/- Contracts: the reference: Encode: all of it. -/
import Derived.BigRegion
import Derived.IntWalk
import Derived.Test.YthpljpbiamjmaaaProg
import Derived.Test.YthpljpbiamjmaaaKit
import Derived.Test.YthpljpbiamjmaaaRow
import Derived.Test.YthpljpbiamjmaaaKp0
import Derived.Test.YthpljpbiamjmaaaMg0
import Derived.Test.YthpljpbiamjmaaaMg5
import Derived.Test.YthpljpbiamjmaaaMr5
import Derived.Test.YthpljpbiamjmaaaMr6a
import Derived.Test.YthpljpbiamjmaaaMr6e
import Derived.Test.YthpljpbiamjmaaaMr7
import Derived.Test.YthpljpbiamjmaaaMr8k2
import Derived.Test.YthpljpbiamjmaaaMr8k1
import Derived.Test.YthpljpbiamjmaaaMr8k4
import Derived.Test.YthpljpbiamjmaaaMr8k5
import Derived.Test.YthpljpbiamjmaaaMr8k3
namespace Go.Proofs.Ythpljpbiamjmaaa
open Go.RowKit Go.Proofs

theorem renc_bad {w : World} {kd fr tq tm ix lt cm si st : Int} {yes : Bool} {a a2 : Option Addr} {n c M c2 : Nat} {sd : ByteArray} (hq : badR kd fr tq tm ix lt cm n M sd.size si st = true) :
    Calls Try.prog 11 #[.agg #[.int .i64 kd, .int .i64 fr, .int .i64 tq, .int .i64 tm, .int .i64 ix, .int .i64 lt, .int .i64 cm, .bool yes, .slice a n c, .int .i64 si, .int .i64 st, .slice a2 M c2, .string sd]] w fun e w' => e = .returned (.tuple #[.slice none 0 0, .int .i64 1]) ∧ Below w.heap.size w w' := by
  cases q0 : decide (kd < 1) with
  | true => exact renc_bad0 q0
  | false =>
  cases q1 : decide (5 < kd) with
  | true => exact renc_bad1 q0 q1
  | false =>
  cases q2 : decide (fr < 1) with
  | true => exact renc_bad2 q0 q1 q2
  | false =>
  cases q3 : decide (9 < fr) with
  | true => exact renc_bad3 q0 q1 q2 q3
  | false =>
  cases q4 : decide (tq < 1) with
  | true => exact renc_bad4 q0 q1 q2 q3 q4
  | false =>
  cases q5 : decide (9 < tq) with
  | true => exact renc_bad5 q0 q1 q2 q3 q4 q5
  | false =>
  cases q6 : decide (tm < 0) with
  | true => exact renc_bad6 q0 q1 q2 q3 q4 q5 q6
  | false =>
  cases q7 : decide (ix < 0) with
  | true => exact renc_bad7 q0 q1 q2 q3 q4 q5 q6 q7
  | false =>
  cases q8 : decide (lt < 0) with
  | true => exact renc_bad8 q0 q1 q2 q3 q4 q5 q6 q7 q8
  | false =>
  cases q9 : decide (cm < 0) with
  | true => exact renc_bad9 q0 q1 q2 q3 q4 q5 q6 q7 q8 q9
  | false =>
  cases q10 : decide (8 < (n : Int)) with
  | true => exact renc_bad10 q0 q1 q2 q3 q4 q5 q6 q7 q8 q9 q10
  | false =>
  cases q11 : decide (9 < (M : Int)) with
  | true => exact renc_bad11 q0 q1 q2 q3 q4 q5 q6 q7 q8 q9 q10 q11
  | false =>
  cases q12 : decide (65536 < (sd.size : Int)) with
  | true => exact renc_bad12 q0 q1 q2 q3 q4 q5 q6 q7 q8 q9 q10 q11 q12
  | false =>
  cases q13 : decide (si < 0) with
  | true => exact renc_bad13 q0 q1 q2 q3 q4 q5 q6 q7 q8 q9 q10 q11 q12 q13
  | false =>
  cases q14 : decide (st < 0) with
  | true => exact renc_bad14 q0 q1 q2 q3 q4 q5 q6 q7 q8 q9 q10 q11 q12 q13 q14
  | false =>
  unfold badR at hq
  rw [q0, q1, q2, q3, q4, q5, q6, q7, q8, q9, q10, q11, q12, q13, q14] at hq
  exact absurd hq (by decide)

theorem rencode_any {w : World} {m : MsgM} {ev mv : Value} (h : MsgAt w ev mv m) (hs : smallM m) :
    Calls Try.prog 11 #[msgV m ev mv] w fun e w' => EncV w w' e m := by
  cases hq : badR m.kd m.fr m.to m.tm m.ix m.lt m.cm m.es.length m.sn.ms.length m.sn.d.size m.sn.ix m.sn.tm with
  | true =>
    have hok : okMB m = false := by
      have hsp := okMB_split m.kd m.fr m.to m.tm m.ix m.lt m.cm m.yes m.es m.sn.ix m.sn.tm m.sn.ms m.sn.d
      rw [show okMB m = _ from hsp, hq]; rfl
    obtain ⟨he, hel, hm⟩ := id h
    obtain ⟨a, c, rfl, _⟩ := id he
    obtain ⟨a2, c2, rfl⟩ := intsAt_len hm
    unfold msgV
    refine (renc_bad hq).mono ?_
    rintro e w' ⟨rfl, hb⟩
    exact encV_no hok hb
  | false =>
    obtain ⟨q0, q1, _⟩ := badR_parts hq
    have hk1 := of_decide_eq_false q0
    have hk2 := of_decide_eq_false q1
    cases hrb : emptyB (unlM m) with
    | false => exact renc_odd h hs ⟨by omega, by omega⟩ hq hrb
    | true =>
      have hk5 : m.kd = 1 ∨ m.kd = 2 ∨ m.kd = 3 ∨ m.kd = 4 ∨ m.kd = 5 := by omega
      rcases hk5 with hk | hk | hk | hk | hk
      · exact renc_k1 h hs hk hq hrb
      · exact renc_k2 h hs hk hq hrb
      · exact renc_k3 h hs hk hq hrb
      · exact renc_k4 h hs hk hq hrb
      · exact renc_k5 h hs hk hq hrb

def xo (n : Int) : Int := bits .xor .i64 n 1

theorem xo_zero : xo 0 = 1 := by decide +kernel

theorem xo_lt (n : Int) : xo n < 9223372036854775808 := by
  unfold xo bits
  rw [IntWalk.i64_left]
  unfold wrap64
  omega

def modM (j : Nat) (m : MsgM) : MsgM :=
  match j with
  | 0 => { m with ix := xo m.ix }
  | 1 => { m with lt := xo m.lt }
  | 2 => { m with cm := xo m.cm }
  | 3 => { m with yes := !m.yes }
  | _ => { m with sn := { m.sn with ix := xo m.sn.ix } }

def oddN (m : MsgM) : Nat → Nat
  | 0 => 0
  | k + 1 => oddN m k + (if okMB (modM k m) = true then 0 else 1)

theorem oddN_le (m : MsgM) : ∀ k, oddN m k ≤ k
  | 0 => Nat.le_refl _
  | k + 1 => by
    have := oddN_le m k
    unfold oddN
    split <;> omega

theorem oddN_no {m : MsgM} {k : Nat} (h : okMB (modM k m) = false) : oddN m (k + 1) = oddN m k + 1 := by
  show oddN m k + _ = _
  rw [if_neg (by rw [h]; decide)]

theorem oddN_yes {m : MsgM} {k : Nat} (h : okMB (modM k m) = true) : oddN m (k + 1) = oddN m k := by
  show oddN m k + _ = _
  rw [if_pos h]; rfl

theorem ok_not {m : MsgM} (h : emptyB (unlM m) = false) : okMB m = false := by
  cases hk : okMB m with
  | false => rfl
  | true => have := (okMB_parts hk).2.2.2.2.2.2; rw [h] at this; cases this

theorem em_ix {m : MsgM} (h : m.ix ≠ 0) : emptyB m = false := by
  cases hk : emptyB m with
  | false => rfl
  | true => exact absurd (emptyB_parts hk).1 h

theorem em_lt {m : MsgM} (h : m.lt ≠ 0) : emptyB m = false := by
  cases hk : emptyB m with
  | false => rfl
  | true => exact absurd (emptyB_parts hk).2.1 h

theorem em_cm {m : MsgM} (h : m.cm ≠ 0) : emptyB m = false := by
  cases hk : emptyB m with
  | false => rfl
  | true => exact absurd (emptyB_parts hk).2.2.1 h

theorem em_yes {m : MsgM} (h : m.yes = true) : emptyB m = false := by
  cases hk : emptyB m with
  | false => rfl
  | true => have := (emptyB_parts hk).2.2.2.1; rw [h] at this; cases this

theorem em_sn {m : MsgM} (h : m.sn.ix ≠ 0) : emptyB m = false := by
  cases hk : emptyB m with
  | false => rfl
  | true => exact absurd (by rw [(emptyB_parts hk).2.2.2.2.2]; rfl) h

theorem xo_ne {n : Int} (h : n = 0) : xo n ≠ 0 := by rw [h, xo_zero]; decide

theorem odd_mono {m : MsgM} (k : Nat) : oddN m k ≤ oddN m (k + 1) := by show _ ≤ oddN m k + _; omega

theorem fields_two {m : MsgM} (h : okMB m = true) : 2 ≤ oddN m 5 := by
  obtain ⟨h1, _, _, _, _, _, hE⟩ := okMB_parts h
  have hk5 : m.kd = 1 ∨ m.kd = 2 ∨ m.kd = 3 ∨ m.kd = 4 ∨ m.kd = 5 := by omega
  obtain ⟨e1, e2, e3, e4, e5, e6⟩ := emptyB_parts hE
  obtain ⟨kd, fr, tq, tm, ix, lt, cm, yes, es, sn⟩ := m
  dsimp only at hk5
  have m0 : oddN ⟨kd, fr, tq, tm, ix, lt, cm, yes, es, sn⟩ 0 ≤ oddN ⟨kd, fr, tq, tm, ix, lt, cm, yes, es, sn⟩ 1 := odd_mono 0
  have m1 : oddN ⟨kd, fr, tq, tm, ix, lt, cm, yes, es, sn⟩ 1 ≤ oddN ⟨kd, fr, tq, tm, ix, lt, cm, yes, es, sn⟩ 2 := odd_mono 1
  have m2 : oddN ⟨kd, fr, tq, tm, ix, lt, cm, yes, es, sn⟩ 2 ≤ oddN ⟨kd, fr, tq, tm, ix, lt, cm, yes, es, sn⟩ 3 := odd_mono 2
  have m3 : oddN ⟨kd, fr, tq, tm, ix, lt, cm, yes, es, sn⟩ 3 ≤ oddN ⟨kd, fr, tq, tm, ix, lt, cm, yes, es, sn⟩ 4 := odd_mono 3
  have m4 : oddN ⟨kd, fr, tq, tm, ix, lt, cm, yes, es, sn⟩ 4 ≤ oddN ⟨kd, fr, tq, tm, ix, lt, cm, yes, es, sn⟩ 5 := odd_mono 4
  rcases hk5 with rfl | rfl | rfl | rfl | rfl
  · simp [unlM] at e3 e4
    have a1 : oddN ⟨1, fr, tq, tm, ix, lt, cm, yes, es, sn⟩ 3 = oddN ⟨1, fr, tq, tm, ix, lt, cm, yes, es, sn⟩ 2 + 1 := oddN_no (k := 2) (ok_not (em_cm (by simp [unlM, modM]; exact xo_ne e3)))
    have a2 : oddN ⟨1, fr, tq, tm, ix, lt, cm, yes, es, sn⟩ 4 = oddN ⟨1, fr, tq, tm, ix, lt, cm, yes, es, sn⟩ 3 + 1 := oddN_no (k := 3) (ok_not (em_yes (by simp [unlM, modM]; exact e4)))
    omega
  · simp [unlM] at e1 e2
    have a1 : oddN ⟨2, fr, tq, tm, ix, lt, cm, yes, es, sn⟩ 1 = oddN ⟨2, fr, tq, tm, ix, lt, cm, yes, es, sn⟩ 0 + 1 := oddN_no (k := 0) (ok_not (em_ix (by simp [unlM, modM]; exact xo_ne e1)))
    have a2 : oddN ⟨2, fr, tq, tm, ix, lt, cm, yes, es, sn⟩ 2 = oddN ⟨2, fr, tq, tm, ix, lt, cm, yes, es, sn⟩ 1 + 1 := oddN_no (k := 1) (ok_not (em_lt (by simp [unlM, modM]; exact xo_ne e2)))
    omega
  · simp [unlM] at e4 e6
    have a1 : oddN ⟨3, fr, tq, tm, ix, lt, cm, yes, es, sn⟩ 4 = oddN ⟨3, fr, tq, tm, ix, lt, cm, yes, es, sn⟩ 3 + 1 := oddN_no (k := 3) (ok_not (em_yes (by simp [unlM, modM]; exact e4)))
    have a2 : oddN ⟨3, fr, tq, tm, ix, lt, cm, yes, es, sn⟩ 5 = oddN ⟨3, fr, tq, tm, ix, lt, cm, yes, es, sn⟩ 4 + 1 := oddN_no (k := 4) (ok_not (em_sn (by simp [unlM, modM]; exact xo_ne (by rw [e6]; rfl))))
    omega
  · simp [unlM] at e2 e3
    have a1 : oddN ⟨4, fr, tq, tm, ix, lt, cm, yes, es, sn⟩ 2 = oddN ⟨4, fr, tq, tm, ix, lt, cm, yes, es, sn⟩ 1 + 1 := oddN_no (k := 1) (ok_not (em_lt (by simp [unlM, modM]; exact xo_ne e2)))
    have a2 : oddN ⟨4, fr, tq, tm, ix, lt, cm, yes, es, sn⟩ 3 = oddN ⟨4, fr, tq, tm, ix, lt, cm, yes, es, sn⟩ 2 + 1 := oddN_no (k := 2) (ok_not (em_cm (by simp [unlM, modM]; exact xo_ne e3)))
    omega
  · simp [unlM] at e1 e2
    have a1 : oddN ⟨5, fr, tq, tm, ix, lt, cm, yes, es, sn⟩ 1 = oddN ⟨5, fr, tq, tm, ix, lt, cm, yes, es, sn⟩ 0 + 1 := oddN_no (k := 0) (ok_not (em_ix (by simp [unlM, modM]; exact xo_ne e1)))
    have a2 : oddN ⟨5, fr, tq, tm, ix, lt, cm, yes, es, sn⟩ 2 = oddN ⟨5, fr, tq, tm, ix, lt, cm, yes, es, sn⟩ 1 + 1 := oddN_no (k := 1) (ok_not (em_lt (by simp [unlM, modM]; exact xo_ne e2)))
    omega

theorem msgAt_mod {w : World} {ev mv : Value} {m : MsgM} (h : MsgAt w ev mv m) (j : Nat) : MsgAt w ev mv (modM j m) := by
  unfold modM
  split <;> exact h

theorem small_mod {m : MsgM} (h : smallM m) (j : Nat) : smallM (modM j m) := by
  obtain ⟨h1, h2, h3, h4⟩ := h
  have hz := fun n hn => h1 n hn
  simp only [List.mem_cons, List.not_mem_nil, or_false, forall_eq_or_imp, forall_eq, smallI] at h1 h3
  obtain ⟨a1, a2, a3, a4, a5, a6, a7⟩ := h1
  unfold modM
  split
  all_goals
    refine ⟨fun n hn => ?_, h2, fun n hn => ?_, h4⟩
    · simp only [List.mem_cons, List.not_mem_nil, or_false] at hn
      rcases hn with rfl | rfl | rfl | rfl | rfl | rfl | rfl <;> first | assumption | exact xo_lt _
    · simp only [List.mem_cons, List.not_mem_nil, or_false] at hn
      rcases hn with rfl | rfl <;> first | exact h3.1 | exact h3.2 | exact xo_lt _

end Go.Proofs.Ythpljpbiamjmaaa
