/-
  AsciiBack: what is split is the text again with the byte between; a number that is written is read; the card's statement, its listed tables tied to the program's text. No condition.
-/
import Derived.Lib.LaidTab
import Derived.Lib.ItoaMem
import Derived.Lib.ItoaLen
import Derived.Stop.LaidErr
import Derived.Deep.DeepHandedRow
import Derived.Test.YtnecjofgjbfheaaGreatDoorCards
import Derived.Test.YtnecjofgjbfheaaGreatDoorTie
import Derived.Test.YtnecjofgjbfheaaGreatDoorKit
import Derived.Test.YtnecjofgjbfheaaGreatDoorAsc1
import Derived.Test.YtnecjofgjbfheaaGreatDoorAsc4
namespace Go.Proofs.YtnecjofgjbfheaaGreatDoor
open Go.ChangeShapes Go.WideShapes Go.ChangeAt Go.RowKit Go.Proofs
open Go.ChangeMaps (open_string shut_string)
set_option maxRecDepth 100000

theorem digits_facts (u : Nat) : (Lib.decDigits u).all (fun c => isDig c.toNat) = true ∧ numVal (Lib.decDigits u) = u ∧ (0 < u → (Lib.decDigits u).head? ≠ some 48 ∧ 10 ^ ((Lib.decDigits u).length - 1) ≤ u) ∧ Lib.decDigits u ≠ [] := by
  induction u using Nat.strongRecOn with
  | ind u ih =>
    have hd : ∀ d, d < 10 → isDig (UInt8.ofNat (48 + d)).toNat = true ∧ ((UInt8.ofNat (48 + d)).toNat : Int) - 48 = d := by
      intro d hd
      rw [UInt8.toNat_ofNat', Nat.mod_eq_of_lt (by omega)]
      exact ⟨isDig_yes (by omega), by omega⟩
    rw [Lib.decDigits]
    by_cases h10 : u < 10
    · rw [dif_pos h10]
      have h1 := hd u h10
      refine ⟨by rw [List.all_cons, h1.1]; rfl, ?_, fun hu => ⟨?_, by simp; omega⟩, by simp⟩
      · unfold numVal
        simp only [List.foldl_cons, List.foldl_nil]
        omega
      · simp only [List.head?_cons, ne_eq, Option.some.injEq]
        intro e
        have := congrArg UInt8.toNat e
        rw [UInt8.toNat_ofNat', Nat.mod_eq_of_lt (by omega)] at this
        simp at this
        omega
    · rw [dif_neg h10]
      obtain ⟨a1, a2, a3, a4⟩ := ih (u / 10) (by omega)
      have h1 := hd (u % 10) (by omega)
      obtain ⟨a5, a6⟩ := a3 (by omega)
      refine ⟨by rw [List.all_append, a1, List.all_cons, h1.1]; rfl, ?_, fun _ => ⟨?_, ?_⟩, by simp⟩
      · rw [numVal_snoc, a2, h1.2]
        omega
      · cases h : Lib.decDigits (u / 10) with
        | nil => exact absurd h a4
        | cons c r => rw [h] at a5; simpa using a5
      · rw [List.length_append, List.length_singleton, Nat.add_sub_cancel]
        have h2 : 1 ≤ (Lib.decDigits (u / 10)).length := by
          cases h : Lib.decDigits (u / 10) with
          | nil => exact absurd h a4
          | cons c r => simp
        have h3 : 10 ^ (Lib.decDigits (u / 10)).length = 10 * 10 ^ ((Lib.decDigits (u / 10)).length - 1) := by
          conv => lhs; rw [show (Lib.decDigits (u / 10)).length = (Lib.decDigits (u / 10)).length - 1 + 1 from by omega, Nat.pow_succ]
          omega
        rw [h3]
        omega

theorem back_ok (n : Int) : numOk (Lib.itoa n) 18 = decide (0 ≤ n ∧ n < 1000000000000000000) := by
  unfold Lib.itoa
  by_cases hn : n < 0
  · rw [if_pos hn, decide_eq_false (by omega)]
    unfold numOk
    rw [List.all_cons, show isDig ((45 : UInt8).toNat) = false from rfl, Bool.false_and, Bool.and_false]
  · rw [if_neg hn]
    obtain ⟨a1, a2, a3, a4⟩ := digits_facts n.toNat
    have hb := numVal_bd _ a1
    rw [a2] at hb
    unfold numOk
    rw [a1, Bool.and_true]
    rw [Bool.eq_iff_iff]
    simp only [decide_eq_true_eq]
    have hlen : (Lib.decDigits n.toNat).length ≤ 18 ↔ n < 1000000000000000000 := by
      constructor
      · intro h
        have : (10 : Int) ^ (Lib.decDigits n.toNat).length ≤ 10 ^ 18 := by
          have := Nat.pow_le_pow_right (n := 10) (by decide) h
          exact_mod_cast this
        have h3 : (10 : Int) ^ 18 = 1000000000000000000 := by decide
        omega
      · intro h
        rcases Nat.lt_or_ge 18 (Lib.decDigits n.toNat).length with hlt | hge
        · exfalso
          by_cases h0 : 0 < n.toNat
          · have h1 := (a3 h0).2
            have h2 : 10 ^ 18 ≤ 10 ^ ((Lib.decDigits n.toNat).length - 1) := Nat.pow_le_pow_right (by decide) (by omega)
            have h3 : (10 : Nat) ^ 18 = 1000000000000000000 := by decide
            omega
          · rw [show n.toNat = 0 from by omega] at hlt
            unfold Lib.decDigits at hlt
            simp at hlt
        · exact hge
    constructor
    · rintro ⟨_, h1, h2, _⟩
      exact ⟨by omega, hlen.1 h2⟩
    · rintro ⟨h0, h1⟩
      have hl := hlen.2 h1
      refine ⟨a4, by omega, hl, fun hh => ?_⟩
      by_cases h0 : 0 < n.toNat
      · exact absurd hh (a3 h0).1
      · rw [show n.toNat = 0 from by omega]
        unfold Lib.decDigits
        rfl

theorem back_val (n : Int) (h : 0 ≤ n ∧ n < 1000000000000000000) : numN (Lib.itoa n) 18 = n := by
  have ho : numOk (Lib.itoa n) 18 = true := by rw [back_ok]; exact decide_eq_true h
  rw [numN_yes ho]
  unfold Lib.itoa
  rw [if_neg (by omega), (digits_facts n.toNat).2.1]
  omega

end Go.Proofs.YtnecjofgjbfheaaGreatDoor
