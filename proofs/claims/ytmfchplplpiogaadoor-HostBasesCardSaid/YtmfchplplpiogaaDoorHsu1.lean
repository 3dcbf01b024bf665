/- Numbers as digits of any base, in plain words: each is the number that it was made of. -/
import Derived.Test.YtmfchplplpiogaaDoorKit
import Derived.Test.YtmfchplplpiogaaDoorPct0
import Derived.Test.YtmfchplplpiogaaDoorHst0
import Derived.Test.YtmfchplplpiogaaDoorHst1
import Derived.Test.YtmfchplplpiogaaDoorHst4
namespace Go.Proofs.YtmfchplplpiogaaDoor
open Go.RowKit

def hlB (d : Nat) : UInt8 := [48, 49, 50, 51, 52, 53, 54, 55, 56, 57, 97, 98, 99, 100, 101, 102].getD d 0

theorem hlB_val : ∀ d : Fin 16, hexI (hlB d.val).toNat = d.val ∧ isD 16 (hlB d.val) = true ∧ (0 < d.val → hlB d.val ≠ 48) := by decide +kernel

def digsF (b : Nat) : Nat → Nat → List UInt8
  | 0, n => [hlB (n % b)]
  | f + 1, n => if n < b then [hlB n] else digsF b f (n / b) ++ [hlB (n % b)]

def digs (b n : Nat) : List UInt8 := digsF b n n

theorem digsF_fuel (b : Nat) (hb : 2 ≤ b) : ∀ (f g n : Nat), n ≤ f → n ≤ g → digsF b f n = digsF b g n
  | 0, 0, n, _, _ => rfl
  | 0, g + 1, n, h, _ => by
    have : n = 0 := by omega
    subst this
    simp only [digsF]
    rw [if_pos (by omega), Nat.zero_mod]
  | f + 1, 0, n, _, h => by
    have : n = 0 := by omega
    subst this
    simp only [digsF]
    rw [if_pos (by omega), Nat.zero_mod]
  | f + 1, g + 1, n, hf, hg => by
    simp only [digsF]
    by_cases hn : n < b
    · rw [if_pos hn, if_pos hn]
    · have h1 : n / b < n := Nat.div_lt_self (by omega) (by omega)
      rw [if_neg hn, if_neg hn, digsF_fuel b hb f g (n / b) (by omega) (by omega)]

theorem digs_lt {b n : Nat} (_hb : 2 ≤ b) (h : n < b) : digs b n = [hlB n] := by
  unfold digs
  cases n with
  | zero => simp only [digsF]; rw [Nat.zero_mod]
  | succ n => simp only [digsF]; rw [if_pos h]

theorem digs_ge {b n : Nat} (hb : 2 ≤ b) (h : b ≤ n) : digs b n = digs b (n / b) ++ [hlB (n % b)] := by
  unfold digs
  obtain ⟨m, rfl⟩ : ∃ m, n = m + 1 := ⟨n - 1, by omega⟩
  have h1 : (m + 1) / b < m + 1 := Nat.div_lt_self (by omega) (by omega)
  simp only [digsF]
  rw [if_neg (by omega), digsF_fuel b hb m ((m + 1) / b) ((m + 1) / b) (by omega) (Nat.le_refl _)]

theorem digs_step {b n : Nat} (hb : 2 ≤ b) : digs b n = (if n / b = 0 then [] else digs b (n / b)) ++ [hlB (n % b)] := by
  by_cases h : n < b
  · rw [digs_lt hb h, Nat.div_eq_of_lt h, if_pos rfl, Nat.mod_eq_of_lt h]
    rfl
  · have : 0 < n / b := Nat.div_pos (by omega) (by omega)
    rw [digs_ge hb (by omega), if_neg (by omega)]

/-- The value; that all are digits; that none but nought begins with one; how many there are. -/
theorem digs_facts (b : Nat) (hb : b = 8 ∨ b = 10 ∨ b = 16) (n : Nat) :
    valD b (digs b n) = n ∧ allD b (digs b n) = true ∧ (0 < n → (digs b n).getD 0 0 ≠ 48) ∧ digs b n ≠ [] ∧ (b ≤ n → 2 ≤ (digs b n).length) := by
  have hb2 : 2 ≤ b ∧ b ≤ 16 := by omega
  induction n using Nat.strongRecOn with
  | ind n ih =>
    have hd : ∀ d, d < b → hexI (hlB d).toNat = d ∧ isD b (hlB d) = true ∧ (0 < d → hlB d ≠ 48) := by
      intro d hlt
      obtain ⟨h1, h2, h3⟩ := hlB_val ⟨d, by omega⟩
      simp only at h1 h2 h3
      refine ⟨h1, ?_, h3⟩
      unfold isD
      rw [h1, decide_eq_true (by omega), decide_eq_true (by omega)]
      rfl
    by_cases hn : n < b
    · obtain ⟨h1, h2, h3⟩ := hd n hn
      rw [digs_lt hb2.1 hn]
      refine ⟨?_, ?_, ?_, by simp, fun h => by omega⟩
      · show 0 * b + (hexI (hlB n).toNat).toNat = n
        rw [h1]
        omega
      · show (isD b (hlB n) && true) = true
        rw [h2]
        rfl
      · intro h
        simp only [List.getD_cons_zero]
        exact h3 h
    · obtain ⟨h1, h2, _⟩ := hd (n % b) (Nat.mod_lt _ (by omega))
      have hq : n / b < n := Nat.div_lt_self (by omega) (by omega)
      have hq0 : 0 < n / b := Nat.div_pos (by omega) (by omega)
      obtain ⟨i1, i2, i3, i4, _⟩ := ih (n / b) hq
      rw [digs_ge hb2.1 (by omega)]
      have hl : 0 < (digs b (n / b)).length := List.length_pos_iff.2 i4
      refine ⟨?_, ?_, ?_, by simp, fun _ => by rw [List.length_append]; simp; omega⟩
      · rw [valD_snoc, i1, h1]
        have := Nat.div_add_mod n b
        rw [Nat.mul_comm] at this
        omega
      · rw [allD_snoc, i2, h2]
        rfl
      · intro _
        rw [List.getD_eq_getElem?_getD, List.getElem?_append_left hl, ← List.getD_eq_getElem?_getD]
        exact i3 hq0

theorem digs_len (b : Nat) (hb : 8 ≤ b) : ∀ (k n : Nat), n < 8 ^ (k + 1) → (digs b n).length ≤ k + 1
  | 0, n, h => by rw [digs_lt (by omega) (by omega)]; simp
  | k + 1, n, h => by
    by_cases hn : n < b
    · rw [digs_lt (by omega) hn]; simp
    · have h1 : n / b < 8 ^ (k + 1) := by
        rw [Nat.div_lt_iff_lt_mul (by omega)]
        have h2 : 8 ^ (k + 1) * 8 ≤ 8 ^ (k + 1) * b := Nat.mul_le_mul_left _ hb
        rw [Nat.pow_succ] at h
        omega
      rw [digs_ge (by omega) (by omega), List.length_append]
      have := digs_len b hb k (n / b) h1
      simp
      omega

theorem isD16_plain {b : Nat} (hb : b ≤ 16) {c : UInt8} (h : isD b c = true) : forbB c = false ∧ c ≠ 46 ∧ c ≠ 37 ∧ ¬ (c.toNat : Int) = 120 ∧ ¬ (c.toNat : Int) = 88 := by
  have h2 : isD 16 c = true := by
    unfold isD at h ⊢
    simp only [Bool.and_eq_true, decide_eq_true_eq] at h ⊢
    omega
  exact byte_all (p := fun c => isD 16 c = true → forbB c = false ∧ c ≠ 46 ∧ c ≠ 37 ∧ ¬ (c.toNat : Int) = 120 ∧ ¬ (c.toNat : Int) = 88) (by decide +kernel) c h2

theorem allD_mem {b : Int} {l : List UInt8} (h : allD b l = true) {c : UInt8} (hc : c ∈ l) : isD b c = true := List.all_eq_true.1 h c hc

theorem getD_mem {l : List UInt8} {i : Nat} (h : i < l.length) : l.getD i 0 ∈ l := by
  rw [List.getD_eq_getElem?_getD, List.getElem?_eq_getElem h]
  exact List.getElem_mem h

theorem xpre_digs {b : Nat} (hb : b ≤ 16) {l : List UInt8} (h : allD b l = true) : xpre l = false := by
  unfold xpre
  by_cases hl : 2 ≤ l.length
  · obtain ⟨_, _, _, h4, h5⟩ := isD16_plain hb (allD_mem h (getD_mem (l := l) (i := 1) (by omega)))
    rw [decide_eq_false h4, decide_eq_false h5]
    simp
  · rw [decide_eq_false hl]
    rfl

theorem num_dec (n : Nat) : numP (digs 10 n) = some n := by
  obtain ⟨h1, h2, h3, h4, h5⟩ := digs_facts 10 (by omega) n
  have hx := xpre_digs (b := 10) (by decide) h2
  have ho : opre (digs 10 n) = false := by
    unfold opre
    by_cases hl : 2 ≤ (digs 10 n).length
    · have h0 : 0 < n := by
        rcases Nat.eq_zero_or_pos n with h | h
        · subst h
          rw [digs_lt (by decide) (by decide)] at hl
          simp at hl
        · exact h
      have hf : decide ((((digs 10 n).getD 0 0).toNat : Int) = 48) = false := decide_eq_false (fun h => h3 h0 (UInt8.toNat_inj.1 (by show ((digs 10 n).getD 0 0).toNat = 48; omega)))
      rw [hf, Bool.and_false]
    · rw [decide_eq_false hl]
      rfl
  rw [numP_d hx ho h4, valP_yes h2, h1]

theorem num_oct (n : Nat) : numP (48 :: digs 8 n) = some n := by
  obtain ⟨h1, h2, _, h4, _⟩ := digs_facts 8 (by omega) n
  have h2b : allD 8 (48 :: digs 8 n) = true := by
    have h3 : allD 8 (digs 8 n) = true := h2
    unfold allD at h3 ⊢
    rw [List.all_cons, h3]
    decide
  have hx := xpre_digs (b := 8) (by decide) h2b
  have hl : 0 < (digs 8 n).length := List.length_pos_iff.2 h4
  have ho : opre (48 :: digs 8 n) = true := by
    unfold opre
    rw [List.length_cons, decide_eq_true (by omega)]
    rfl
  rw [(numP_oct hx ho).1]
  show valP 8 (digs 8 n) = some n
  rw [valP_yes h2, h1]

theorem num_hex (n : Nat) : numP (48 :: 88 :: digs 16 n) = some n := by
  obtain ⟨h1, h2, _, h4, _⟩ := digs_facts 16 (by omega) n
  have hx : xpre (48 :: 88 :: digs 16 n) = true := by
    unfold xpre
    rw [List.length_cons, List.length_cons, decide_eq_true (by omega)]
    rfl
  rw [numP_x hx]
  show valP 16 (digs 16 n) = some n
  rw [valP_yes h2, h1]

end Go.Proofs.YtmfchplplpiogaaDoor
