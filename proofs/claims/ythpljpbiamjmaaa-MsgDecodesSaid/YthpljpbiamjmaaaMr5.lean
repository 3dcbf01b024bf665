/- Contracts: the reference: Encode: which messages, what is refused. -/
import Derived.BigRegion
import Derived.Deep.RegionHeld3
import Derived.Deep.RegionLaw
import Derived.Deep.CutBlock
import Derived.Deep.RegionWith
import Derived.Test.YthpljpbiamjmaaaKit
import Derived.Test.YthpljpbiamjmaaaRow
import Derived.Test.YthpljpbiamjmaaaKp0
import Derived.Test.YthpljpbiamjmaaaMg0
import Derived.Test.YthpljpbiamjmaaaMr3
namespace Go.Proofs.Ythpljpbiamjmaaa
open Go.RowKit Go.Proofs

def badR (kd fr tq tm ix lt cm n M D si st : Int) : Bool := decide (kd < 1) || decide (5 < kd) || decide (fr < 1) || decide (9 < fr) || decide (tq < 1) || decide (9 < tq) || decide (tm < 0) || decide (ix < 0) || decide (lt < 0) || decide (cm < 0) || decide (8 < n) || decide (9 < M) || decide (65536 < D) || decide (si < 0) || decide (st < 0)

theorem okMB_split (kd fr tq tm ix lt cm : Int) (yes : Bool) (es : List EntM) (si st : Int) (ms : List Int) (sd : ByteArray) : okMB ⟨kd, fr, tq, tm, ix, lt, cm, yes, es, ⟨si, st, ms, sd⟩⟩ = (!badR kd fr tq tm ix lt cm es.length ms.length sd.size si st && emptyB (unlM ⟨kd, fr, tq, tm, ix, lt, cm, yes, es, ⟨si, st, ms, sd⟩⟩) && es.all entB && natsB ms) := by
  obtain ⟨r, hr⟩ : ∃ r, r = emptyB (unlM ⟨kd, fr, tq, tm, ix, lt, cm, yes, es, ⟨si, st, ms, sd⟩⟩) := ⟨_, rfl⟩
  obtain ⟨q, hq⟩ : ∃ q, q = es.all entB := ⟨_, rfl⟩
  obtain ⟨p, hp⟩ : ∃ p, p = natsB ms := ⟨_, rfl⟩
  have h1 : okMB ⟨kd, fr, tq, tm, ix, lt, cm, yes, es, ⟨si, st, ms, sd⟩⟩ = (decide (1 ≤ kd) && decide (kd ≤ 5) && (decide (1 ≤ fr) && decide (fr ≤ 9)) && (decide (1 ≤ tq) && decide (tq ≤ 9)) && natsB [tm, ix, lt, cm] && (decide (es.length ≤ 8) && q) && (natsB [si, st] && decide (sd.size ≤ 65536) && (decide (ms.length ≤ 9) && p)) && r) := by rw [hr, hq, hp]; rfl
  rw [h1, ← hr, ← hq, ← hp, Bool.eq_iff_iff]
  unfold badR natsB
  simp only [List.all_cons, List.all_nil, Bool.and_true, Bool.and_eq_true, decide_eq_true_eq, Bool.not_eq_true', Bool.or_eq_false_iff, decide_eq_false_iff_not]
  constructor
  · rintro ⟨⟨⟨⟨⟨⟨⟨h1, h2⟩, h3, h4⟩, h5, h6⟩, h7, h8, h9, h10⟩, h11, h12⟩, ⟨⟨h13, h14⟩, h15⟩, h16, h17⟩, h18⟩
    refine ⟨⟨⟨⟨⟨⟨⟨⟨⟨⟨⟨⟨⟨⟨⟨⟨⟨?_, ?_⟩, ?_⟩, ?_⟩, ?_⟩, ?_⟩, ?_⟩, ?_⟩, ?_⟩, ?_⟩, ?_⟩, ?_⟩, ?_⟩, ?_⟩, ?_⟩, h18⟩, h12⟩, h17⟩ <;> omega
  · rintro ⟨⟨⟨⟨⟨⟨⟨⟨⟨⟨⟨⟨⟨⟨⟨⟨⟨h1, h2⟩, h3⟩, h4⟩, h5⟩, h6⟩, h7⟩, h8⟩, h9⟩, h10⟩, h11⟩, h12⟩, h13⟩, h14⟩, h15⟩, h18⟩, h16⟩, h17⟩
    exact ⟨⟨⟨⟨⟨⟨⟨by omega, by omega⟩, by omega, by omega⟩, by omega, by omega⟩, by omega, by omega, by omega, by omega⟩, by omega, h16⟩, ⟨⟨by omega, by omega⟩, by omega⟩, by omega, h17⟩, h18⟩

theorem empty_zero : decide (zeroSn.ms.length = 0) = true ∧ decide (zeroSn.d.size = 0) = true ∧ (zeroSn.ix == 0) = true ∧ (zeroSn.tm == 0) = true := ⟨rfl, rfl, rfl, rfl⟩

theorem only_empty (m : MsgM) (hk : 1 ≤ m.kd ∧ m.kd ≤ 5) : onlyM m = m ↔ emptyB (unlM m) = true := by
  obtain ⟨kd, fr, tq, tm, ix, lt, cm, yes, es, sn⟩ := m
  dsimp only at hk
  have hz : ∀ b : Int, b = 0 → (b == 0) = true := fun b h => by rw [h]; rfl
  have hk5 : kd = 1 ∨ kd = 2 ∨ kd = 3 ∨ kd = 4 ∨ kd = 5 := by omega
  constructor
  · intro h
    rcases hk5 with rfl | rfl | rfl | rfl | rfl
    all_goals
      simp [onlyM] at h
    · obtain ⟨h1, h2, h3, h4⟩ := h
      subst h1 h2 h3 h4
      simp [unlM, emptyB, zeroSn]
      rfl
    · obtain ⟨h1, h2, h3, h4, h5⟩ := h
      subst h1 h2 h3 h4 h5
      simp [unlM, emptyB, zeroSn]
      rfl
    · obtain ⟨h1, h2⟩ := h
      subst h1 h2
      simp [unlM, emptyB, zeroSn]
      rfl
    · obtain ⟨h1, h2, h3, h4⟩ := h
      subst h1 h2 h3 h4
      simp [unlM, emptyB, zeroSn]
      rfl
    · obtain ⟨h1, h2, h3, h4, h5⟩ := h
      subst h1 h2 h3 h4 h5
      simp [unlM, emptyB, zeroSn]
      rfl
  · intro h
    obtain ⟨g1, g2, g3, g4, g5, g6⟩ := emptyB_parts h
    rcases hk5 with rfl | rfl | rfl | rfl | rfl
    all_goals
      simp [unlM] at g1 g2 g3 g4 g5 g6
      simp [onlyM]
    · exact ⟨g3.symm, g4, g5, g6.symm⟩
    · exact ⟨g1.symm, g2.symm, g3.symm, g5, g6.symm⟩
    · exact ⟨g4, g6.symm⟩
    · exact ⟨g2.symm, g3.symm, g5, g6.symm⟩
    · exact ⟨g1.symm, g2.symm, g3.symm, g4, g5⟩

end Go.Proofs.Ythpljpbiamjmaaa
