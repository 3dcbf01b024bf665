/- Percent-encoding in plain words: which bytes a set encodes, what is written, what is read; what is written is read as what it was made of. -/
import Derived.Test.YtmfchplplpiogaaDoorKit
namespace Go.Proofs.YtmfchplplpiogaaDoor
open Go.RowKit

def pdigL : List UInt8 := [48, 49, 50, 51, 52, 53, 54, 55, 56, 57, 65, 66, 67, 68, 69, 70]

def hexB (n : Nat) : UInt8 := pdigL.getD n 0

/-! what a hexadecimal digit stands for -/
def hexI (n : Int) : Int := if 48 ≤ n ∧ n ≤ 57 then n - 48 else if 65 ≤ n ∧ n ≤ 70 then n - 55 else if 97 ≤ n ∧ n ≤ 102 then n - 87 else -1

theorem hexI_bd (n : Int) : -1 ≤ hexI n ∧ hexI n ≤ 15 := by unfold hexI; split <;> (try split) <;> (try split) <;> omega

/-- Do the bytes begin with one that is written as three? -/
def escB (l : List UInt8) : Bool := decide (((l.getD 0 0).toNat : Int) = 37) && decide (0 ≤ hexI (l.getD 1 0).toNat) && decide (0 ≤ hexI (l.getD 2 0).toNat)

def valB (l : List UInt8) : UInt8 := UInt8.ofNat (16 * hexI (l.getD 1 0).toNat + hexI (l.getD 2 0).toNat).toNat

theorem escB_iff (l : List UInt8) : escB l = true ↔ ((l.getD 0 0).toNat : Int) = 37 ∧ 0 ≤ hexI (l.getD 1 0).toNat ∧ 0 ≤ hexI (l.getD 2 0).toNat := by
  unfold escB
  simp only [Bool.and_eq_true, decide_eq_true_eq]
  exact ⟨fun ⟨⟨a, b⟩, c⟩ => ⟨a, b, c⟩, fun ⟨a, b, c⟩ => ⟨⟨a, b⟩, c⟩⟩

theorem escB_len {l : List UInt8} (h : escB l = true) : 3 ≤ l.length := by
  obtain ⟨_, _, h2⟩ := (escB_iff l).1 h
  rcases Nat.lt_or_ge l.length 3 with hl | hl
  · rw [List.getD_eq_getElem?_getD, List.getElem?_eq_none (by omega)] at h2
    exact absurd h2 (by decide)
  · exact hl

theorem valB_toNat (l : List UInt8) (h : escB l = true) : ((valB l).toNat : Int) = 16 * hexI (l.getD 1 0).toNat + hexI (l.getD 2 0).toNat := by
  obtain ⟨_, h1, h2⟩ := (escB_iff l).1 h
  have b1 := hexI_bd (l.getD 1 0).toNat
  have b2 := hexI_bd (l.getD 2 0).toNat
  unfold valB
  rw [UInt8.toNat_ofNat', Nat.mod_eq_of_lt (by omega)]
  omega

def decF : Nat → List UInt8 → List UInt8
  | 0, _ => []
  | n + 1, l => if l = [] then [] else if escB l then valB l :: decF n (l.drop 3) else l.getD 0 0 :: decF n (l.drop 1)

def decL (l : List UInt8) : List UInt8 := decF l.length l

theorem decF_fuel : ∀ (n m : Nat) (l : List UInt8), l.length ≤ n → l.length ≤ m → decF n l = decF m l
  | 0, m, l, hn, _ => by
    have : l = [] := List.eq_nil_of_length_eq_zero (by omega)
    subst this
    cases m <;> simp [decF]
  | n + 1, 0, l, _, hm => by
    have : l = [] := List.eq_nil_of_length_eq_zero (by omega)
    subst this
    simp [decF]
  | n + 1, m + 1, l, hn, hm => by
    unfold decF
    by_cases h0 : l = []
    · rw [if_pos h0, if_pos h0]
    · rw [if_neg h0, if_neg h0, decF_fuel n m (l.drop 3) (by rw [List.length_drop]; omega) (by rw [List.length_drop]; omega), decF_fuel n m (l.drop 1) (by rw [List.length_drop]; omega) (by rw [List.length_drop]; omega)]

theorem decL_nil : decL [] = [] := rfl

theorem decL_esc {l : List UInt8} (h : escB l = true) : decL l = valB l :: decL (l.drop 3) := by
  have hl := escB_len h
  obtain ⟨n, hn⟩ : ∃ n, l.length = n + 1 := ⟨l.length - 1, by omega⟩
  unfold decL
  rw [hn]
  show (if l = [] then [] else if escB l then _ else _) = _
  rw [if_neg (by intro e; rw [e] at hn; simp at hn), if_pos h, decF_fuel n (l.drop 3).length _ (by rw [List.length_drop]; omega) (Nat.le_refl _)]

theorem decL_raw {l : List UInt8} (h0 : l ≠ []) (h : escB l = false) : decL l = l.getD 0 0 :: decL (l.drop 1) := by
  have hl : 0 < l.length := List.length_pos_iff.2 h0
  obtain ⟨n, hn⟩ : ∃ n, l.length = n + 1 := ⟨l.length - 1, by omega⟩
  unfold decL
  rw [hn]
  show (if l = [] then [] else if escB l then _ else _) = _
  rw [if_neg h0, if_neg (by rw [h]; decide), decF_fuel n (l.drop 1).length _ (by rw [List.length_drop]; omega) (Nat.le_refl _)]

theorem decL_len : ∀ (n : Nat) (l : List UInt8), l.length ≤ n → (decL l).length ≤ l.length
  | 0, l, h => by
    have : l = [] := List.eq_nil_of_length_eq_zero (by omega)
    subst this
    exact Nat.le_refl _
  | n + 1, l, h => by
    by_cases h0 : l = []
    · subst h0
      exact Nat.le_refl _
    · have hp : 0 < l.length := List.length_pos_iff.2 h0
      cases he : escB l
      · rw [decL_raw h0 he, List.length_cons]
        have := decL_len n (l.drop 1) (by rw [List.length_drop]; omega)
        rw [List.length_drop] at this
        omega
      · rw [decL_esc he, List.length_cons]
        have h3 := escB_len he
        have := decL_len n (l.drop 3) (by rw [List.length_drop]; omega)
        rw [List.length_drop] at this
        omega

theorem hexB_val : ∀ n < 16, hexI (hexB n).toNat = n := by decide

theorem escB_first {l : List UInt8} (h : escB l = true) : ∃ a b r, l = 37 :: a :: b :: r ∧ 0 ≤ hexI a.toNat ∧ 0 ≤ hexI b.toNat := by
  have hl := escB_len h
  obtain ⟨h0, h1, h2⟩ := (escB_iff l).1 h
  match l, hl with
  | c :: a :: b :: r, _ =>
    simp at h0 h1 h2
    have : c = 37 := UInt8.toNat_inj.1 (by show c.toNat = 37; omega)
    subst this
    exact ⟨a, b, r, rfl, h1, h2⟩

end Go.Proofs.YtmfchplplpiogaaDoor
