/- Which bytes a set encodes: In and encoded, the reference's In: each to the plain one. -/
import Derived.Test.YtmfchplplpiogaaDoorShelf
import Derived.Lib.Strings
import Derived.Test.YtmfchplplpiogaaDoorKit
import Derived.Test.YtmfchplplpiogaaDoorAsc1
namespace Go.Proofs.YtmfchplplpiogaaDoor
open Go.RowKit Go.Proofs

theorem index_has (l : List UInt8) (c : UInt8) : decide ((0 : Int) ≤ Lib.indexByte l c) = hasB l c := by
  induction l with
  | nil => rfl
  | cons b r ih =>
    have hg := Lib.indexByte_ge r c
    unfold Lib.indexByte
    by_cases hb : b = c
    · subst hb
      simp [hasB]
    · have hb2 : (b == c) = false := beq_eq_false_iff_ne.2 hb
      have hb3 : (c == b) = false := beq_eq_false_iff_ne.2 (Ne.symm hb)
      have hs : hasB (b :: r) c = hasB r c := by unfold hasB; rw [List.contains_cons, hb3, Bool.false_or]
      rw [hs, hb2, ← ih]
      by_cases h1 : Lib.indexByte r c = -1
      · rw [h1]
        simp
      · have : (Lib.indexByte r c == -1) = false := beq_eq_false_iff_ne.2 h1
        rw [this]
        simp only [if_false, Bool.false_eq_true]
        rw [decide_eq_true (by omega), decide_eq_true (by omega)]

end Go.Proofs.YtmfchplplpiogaaDoor
