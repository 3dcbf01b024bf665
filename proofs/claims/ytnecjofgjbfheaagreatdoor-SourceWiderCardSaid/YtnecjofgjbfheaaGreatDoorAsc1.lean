/- Contracts: bytes of ASCII, membership in lists. -/
import Derived.Test.YtnecjofgjbfheaaGreatDoorProg
import Derived.Test.YtnecjofgjbfheaaGreatDoorKit
import Derived.Test.YtnecjofgjbfheaaGreatDoorPlain
namespace Go.Proofs.YtnecjofgjbfheaaGreatDoor
open Go.RowKit Go.Proofs
set_option maxRecDepth 100000

def isDig (n : Int) : Bool := decide (48 ≤ n ∧ n ≤ 57)

def isLet (n : Int) : Bool := decide ((97 ≤ n ∧ n ≤ 122) ∨ (65 ≤ n ∧ n ≤ 90))

theorem isDig_yes {n : Int} (h : 48 ≤ n ∧ n ≤ 57) : isDig n = true := decide_eq_true h

theorem isDig_no {n : Int} (h : ¬ (48 ≤ n ∧ n ≤ 57)) : isDig n = false := decide_eq_false h

theorem isLet_yes {n : Int} (h : (97 ≤ n ∧ n ≤ 122) ∨ (65 ≤ n ∧ n ≤ 90)) : isLet n = true := decide_eq_true h

theorem isLet_no {n : Int} (h : ¬ ((97 ≤ n ∧ n ≤ 122) ∨ (65 ≤ n ∧ n ≤ 90))) : isLet n = false := decide_eq_false h

theorem digit_byte (c : UInt8) (w : World) : Calls Tryz.prog 124 #[.int .u8 c.toNat] w fun e w' => e = .returned (.bool (isDig c.toNat)) ∧ w' = w := by
  have hb := byte_bd c
  by_cases h1 : 48 ≤ (c.toNat : Int)
  · by_cases h2 : (c.toNat : Int) ≤ 57
    · go_enter Tryz.func124, Tryz.ntmps124
      go_wp2
      go_ret
      exact ⟨ret_bool (isDig_yes ⟨h1, h2⟩).symm, rfl⟩
    · go_enter Tryz.func124, Tryz.ntmps124
      go_wp2
      go_ret
      exact ⟨ret_bool (isDig_no (by omega)).symm, rfl⟩
  · go_enter Tryz.func124, Tryz.ntmps124
    go_wp2
    go_ret
    exact ⟨ret_bool (isDig_no (by omega)).symm, rfl⟩

theorem ref_digit_byte (c : UInt8) (w : World) : Calls Tryz.prog 44 #[.int .u8 c.toNat] w fun e w' => e = .returned (.bool (isDig c.toNat)) ∧ w' = w := by
  have hb := byte_bd c
  by_cases h1 : 48 ≤ (c.toNat : Int)
  · by_cases h2 : (c.toNat : Int) ≤ 57
    · go_enter Tryz.func44, Tryz.ntmps44
      go_wp2
      go_ret
      exact ⟨ret_bool (isDig_yes ⟨h1, h2⟩).symm, rfl⟩
    · go_enter Tryz.func44, Tryz.ntmps44
      go_wp2
      go_ret
      exact ⟨ret_bool (isDig_no (by omega)).symm, rfl⟩
  · go_enter Tryz.func44, Tryz.ntmps44
    go_wp2
    go_ret
    exact ⟨ret_bool (isDig_no (by omega)).symm, rfl⟩

theorem ref_letter_byte (c : UInt8) (w : World) : Calls Tryz.prog 77 #[.int .u8 c.toNat] w fun e w' => e = .returned (.bool (isLet c.toNat)) ∧ w' = w := by
  have hb := byte_bd c
  rcases (by omega : (65 ≤ (c.toNat : Int) ∧ (c.toNat : Int) ≤ 90) ∨ (97 ≤ (c.toNat : Int) ∧ (c.toNat : Int) ≤ 122) ∨ (c.toNat : Int) < 65 ∨ (91 ≤ (c.toNat : Int) ∧ (c.toNat : Int) ≤ 96) ∨ 123 ≤ (c.toNat : Int)) with ⟨h, h'⟩ | ⟨h, h'⟩ | h | hno
  · go_enter Tryz.func77, Tryz.ntmps77
    go_wp2
    go_ret
    exact ⟨ret_bool (isLet_yes (by omega)).symm, rfl⟩
  · go_enter Tryz.func77, Tryz.ntmps77
    go_wp2
    go_ret
    exact ⟨ret_bool (isLet_yes (by omega)).symm, rfl⟩
  · go_enter Tryz.func77, Tryz.ntmps77
    go_wp2
    go_ret
    exact ⟨ret_bool (isLet_no (n := (c.toNat : Int)) (by omega)).symm, rfl⟩
  · rcases hno with ⟨h, h'⟩ | h
    all_goals
      go_enter Tryz.func77, Tryz.ntmps77
      go_wp2
      go_ret
      exact ⟨ret_bool (by rw [isLet_no (n := (c.toNat : Int)) (by omega), Bool.eq_iff_iff]; simp <;> omega), rfl⟩

/-- Is the byte among those? -/
def hasB (l : List UInt8) (c : UInt8) : Bool := l.contains c

theorem contains_take_snoc (s : ByteArray) (k : Nat) (h : k < s.size) (c : UInt8) (hno : (s.data.toList.take k).contains c = false) (hne : s[k].toNat ≠ c.toNat) : (s.data.toList.take (k + 1)).contains c = false := by
  rw [take_snoc s k h]
  simp at hno ⊢
  refine ⟨hno, fun e => hne ?_⟩
  rw [e]

theorem contains_at (s : ByteArray) (k : Nat) (h : k < s.size) (c : UInt8) (he : s[k].toNat = c.toNat) : s.data.toList.contains c = true := by
  have : s[k] = c := UInt8.toNat_inj.1 he
  simp
  rw [← this]
  exact Array.getElem_mem _

/-- Has: whether a byte is among those of a text. -/
theorem ref_has_any (s : ByteArray) (c : UInt8) (hs : s.size ≤ 1073741824) (w : World) :
    Calls Tryz.prog 45 #[.string s, .int .u8 c.toNat] w fun e w' => e = .returned (.bool (hasB s.data.toList c)) ∧ w' = w := by
  go_enter Tryz.func45, Tryz.ntmps45
  go_wp2
  go_loop [5] (fun i => ∃ k : Nat, k ≤ s.size ∧ i = .int .i64 k ∧ (s.data.toList.take k).contains c = false) (fun i => s.size - (intOf i).toNat)
  case atStart => exact ⟨0, Nat.zero_le _, rfl, rfl⟩
  case round =>
    obtain ⟨k, hk, rfl, hno⟩ := hrel
    have HN := Lib.hid hno
    clear hno
    by_cases hlt : k < s.size
    · by_cases hq : s[k].toNat = c.toNat
      · have hq0 : ((s[k].toNat : Int) == (c.toNat : Int)) = true := beq_iff_eq.2 (by omega)
        have HF := Lib.hid (contains_at s k hlt c hq)
        clear hq
        go_wp2
        go_ret
        exact ⟨ret_bool HF.out.symm, rfl⟩
      · have hq0 : ((s[k].toNat : Int) == (c.toNat : Int)) = false := beq_eq_false_iff_ne.2 (by omega)
        have HF := Lib.hid (contains_take_snoc s k hlt c HN.out hq)
        clear hq
        go_wp2
        go_round
        case rel => exact ⟨k + 1, by omega, by go_num, HF.out⟩
        case measure => simp [intOf]; omega
    · have hfin := HN.out
      rw [List.take_of_length_le (by simp; omega)] at hfin
      have HF := Lib.hid hfin
      clear hfin
      go_wp2
      go_ret
      exact ⟨ret_bool HF.out.symm, rfl⟩

end Go.Proofs.YtnecjofgjbfheaaGreatDoor
