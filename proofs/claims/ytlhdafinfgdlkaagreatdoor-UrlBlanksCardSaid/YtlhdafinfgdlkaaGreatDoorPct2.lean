/- Which bytes a set encodes: In and encoded, the reference's In: each to the plain one. -/
import Derived.Test.YtlhdafinfgdlkaaGreatDoorShelf
import Derived.Lib.Strings
import Derived.Test.YtlhdafinfgdlkaaGreatDoorProg
import Derived.Test.YtlhdafinfgdlkaaGreatDoorKit
import Derived.Test.YtlhdafinfgdlkaaGreatDoorAsc1
import Derived.Test.YtlhdafinfgdlkaaGreatDoorPct0
namespace Go.Proofs.YtlhdafinfgdlkaaGreatDoor
open Go.RowKit Go.Proofs
set_option maxRecDepth 100000

theorem index_has (l : List UInt8) (c : UInt8) : decide ((0 : Int) ≤ Lib.indexByte l c) = hasB l c := by
  induction l with
  | nil => rfl
  | cons b r ih =>
    have hg := Lib.indexByte_ge r c
    unfold Lib.indexByte
    by_cases hb : b = c
    · subst hb
      simp [hasB]
    · have hb2 : (b == c) = false := beq_eq_false_iff_ne.2 hb
      have hb3 : (c == b) = false := beq_eq_false_iff_ne.2 (Ne.symm hb)
      have hs : hasB (b :: r) c = hasB r c := by unfold hasB; rw [List.contains_cons, hb3, Bool.false_or]
      rw [hs, hb2, ← ih]
      by_cases h1 : Lib.indexByte r c = -1
      · rw [h1]
        simp
      · have : (Lib.indexByte r c == -1) = false := beq_eq_false_iff_ne.2 h1
        rw [this]
        simp only [if_false, Bool.false_eq_true]
        rw [decide_eq_true (by omega), decide_eq_true (by omega)]

theorem encoded_any (c : UInt8) (s : ByteArray) (w : World) :
    Calls Tryz.prog 130 #[.int .u8 c.toNat, .string s] w fun e w' => e = .returned (.bool (outB s.data.toList c)) ∧ w' = w := by
  by_cases h1 : (c.toNat : Int) < 33
  · rw [outB_low h1]
    go_enter Tryz.func130, Tryz.ntmps130
    go_wp2
    go_ret
    exact ⟨rfl, rfl⟩
  · by_cases h2 : 126 < (c.toNat : Int)
    · rw [outB_high h1 h2]
      go_enter Tryz.func130, Tryz.ntmps130
      go_wp2
      go_ret
      exact ⟨rfl, rfl⟩
    · rw [outB_mid h1 h2]
      have hix := Tryz.strings_IndexByte s (c.toNat : Int) w
      rw [show ((c.toNat : Int)).toNat.toUInt8 = c from by simp] at hix
      have HX := Lib.hid (index_has s.data.toList c)
      go_enter Tryz.func130, Tryz.ntmps130
      go_wp2_with fail
      refine hix.mono ?_
      rintro e w1 ⟨rfl, rfl⟩
      go_wp2
      go_ret
      exact ⟨ret_bool HX.out, rfl⟩

theorem pin_any (c : UInt8) (k : Int) (w : World) :
    Calls Tryz.prog 99 #[.int .u8 c.toNat, .int .i64 k] w fun e w' => e = .returned (.bool (inB k c)) ∧ w' = w := by
  by_cases h1 : k = 1
  · subst h1
    have hc := encoded_any c ⟨fragL.toArray⟩ w
    go_enter Tryz.func99, Tryz.ntmps99
    go_wp2_with fail
    refine hc.mono ?_
    rintro e w1 ⟨rfl, rfl⟩
    go_wp2
    go_ret
    exact ⟨rfl, rfl⟩
  · have H1 : (k == 1) = false := beq_eq_false_iff_ne.2 h1
    by_cases h2 : k = 2
    · subst h2
      have hc := encoded_any c ⟨queryL.toArray⟩ w
      go_enter Tryz.func99, Tryz.ntmps99
      go_wp2_with fail
      refine hc.mono ?_
      rintro e w1 ⟨rfl, rfl⟩
      go_wp2
      go_ret
      exact ⟨rfl, rfl⟩
    · have H2 : (k == 2) = false := beq_eq_false_iff_ne.2 h2
      by_cases h3 : k = 3
      · subst h3
        have hc := encoded_any c ⟨pathL.toArray⟩ w
        go_enter Tryz.func99, Tryz.ntmps99
        go_wp2_with fail
        refine hc.mono ?_
        rintro e w1 ⟨rfl, rfl⟩
        go_wp2
        go_ret
        exact ⟨rfl, rfl⟩
      · have H3 : (k == 3) = false := beq_eq_false_iff_ne.2 h3
        by_cases h4 : k = 4
        · subst h4
          have hc := encoded_any c ⟨userL.toArray⟩ w
          go_enter Tryz.func99, Tryz.ntmps99
          go_wp2_with fail
          refine hc.mono ?_
          rintro e w1 ⟨rfl, rfl⟩
          go_wp2
          go_ret
          exact ⟨rfl, rfl⟩
        · have H4 : (k == 4) = false := beq_eq_false_iff_ne.2 h4
          go_enter Tryz.func99, Tryz.ntmps99
          go_wp2
          go_ret
          exact ⟨ret_bool (by unfold inB; rw [if_neg h1, if_neg h2, if_neg h3, if_neg h4]), rfl⟩

/-- The reference's In behind its switch: with that text. -/
theorem ref_in_any (c : UInt8) (k : Int) (w : World) :
    Calls Tryz.prog 68 #[.int .u8 c.toNat, .int .i64 k] w fun e w' => e = .returned (.bool (inB k c)) ∧ w' = w := by
  by_cases hk : k = 1 ∨ k = 2 ∨ k = 3 ∨ k = 4
  · by_cases l1 : (c.toNat : Int) < 33
    · have hr : inB k c = true := by unfold inB; rcases hk with rfl | rfl | rfl | rfl <;> simp [outB_low l1]
      rw [hr]
      rcases hk with rfl | rfl | rfl | rfl
      all_goals
        go_enter Tryz.func68, Tryz.ntmps68
        go_wp2
        go_ret
        exact ⟨rfl, rfl⟩
    · by_cases l2 : 126 < (c.toNat : Int)
      · have hr : inB k c = true := by unfold inB; rcases hk with rfl | rfl | rfl | rfl <;> simp [outB_high l1 l2]
        rw [hr]
        rcases hk with rfl | rfl | rfl | rfl
        all_goals
          go_enter Tryz.func68, Tryz.ntmps68
          go_wp2
          go_ret
          exact ⟨rfl, rfl⟩
      · rcases hk with rfl | rfl | rfl | rfl
        · have hr : inB 1 c = hasB fragL c := outB_mid l1 l2
          have hc := ref_has_any ⟨fragL.toArray⟩ c (by decide) w
          rw [hr]
          go_enter Tryz.func68, Tryz.ntmps68
          go_wp2_with fail
          refine hc.mono ?_
          rintro e w1 ⟨rfl, rfl⟩
          go_wp2
          go_ret
          exact ⟨rfl, rfl⟩
        · have hr : inB 2 c = hasB queryL c := outB_mid l1 l2
          have hc := ref_has_any ⟨queryL.toArray⟩ c (by decide) w
          rw [hr]
          go_enter Tryz.func68, Tryz.ntmps68
          go_wp2_with fail
          refine hc.mono ?_
          rintro e w1 ⟨rfl, rfl⟩
          go_wp2
          go_ret
          exact ⟨rfl, rfl⟩
        · have hr : inB 3 c = hasB pathL c := outB_mid l1 l2
          have hc := ref_has_any ⟨pathL.toArray⟩ c (by decide) w
          rw [hr]
          go_enter Tryz.func68, Tryz.ntmps68
          go_wp2_with fail
          refine hc.mono ?_
          rintro e w1 ⟨rfl, rfl⟩
          go_wp2
          go_ret
          exact ⟨rfl, rfl⟩
        · have hr : inB 4 c = hasB userL c := outB_mid l1 l2
          have hc := ref_has_any ⟨userL.toArray⟩ c (by decide) w
          rw [hr]
          go_enter Tryz.func68, Tryz.ntmps68
          go_wp2_with fail
          refine hc.mono ?_
          rintro e w1 ⟨rfl, rfl⟩
          go_wp2
          go_ret
          exact ⟨rfl, rfl⟩
  · obtain ⟨h1, h2, h3, h4⟩ : k ≠ 1 ∧ k ≠ 2 ∧ k ≠ 3 ∧ k ≠ 4 := ⟨fun h => hk (.inl h), fun h => hk (.inr (.inl h)), fun h => hk (.inr (.inr (.inl h))), fun h => hk (.inr (.inr (.inr h)))⟩
    have H1 : (k == 1) = false := beq_eq_false_iff_ne.2 h1
    have H2 : (k == 2) = false := beq_eq_false_iff_ne.2 h2
    have H3 : (k == 3) = false := beq_eq_false_iff_ne.2 h3
    have H4 : (k == 4) = false := beq_eq_false_iff_ne.2 h4
    go_enter Tryz.func68, Tryz.ntmps68
    go_wp2
    go_ret
    exact ⟨ret_bool (by unfold inB; rw [if_neg h1, if_neg h2, if_neg h3, if_neg h4]), rfl⟩

end Go.Proofs.YtlhdafinfgdlkaaGreatDoor
