/- The reference's UTF8: how many bytes a rune has, in plain words, is what the library's check says; the text is UTF-8 where the library's decoder says so. -/
import Derived.Shelf.Unicode.ValidAny
import Derived.Laws.BitsLemmas
import Derived.Test.YtnecjofgjbfheaaGreatDoorKit
namespace Go.Proofs.YtnecjofgjbfheaaGreatDoor
open Go.RowKit Go.Proofs
set_option maxRecDepth 100000

/-- How many bytes the rune has that the bytes begin with; none: 0. -/
def runeL (l : List UInt8) : Nat :=
  if (l.getD 0 0).toNat < 128 then 1
  else (Lib.checkN l.length (l.getD 1 0).toNat (l.getD 2 0).toNat (l.getD 3 0).toNat (Lib.firstT (l.getD 0 0).toNat % 8) (Lib.accLo (Lib.firstT (l.getD 0 0).toNat / 16)) (Lib.accHi (Lib.firstT (l.getD 0 0).toNat / 16))).getD 0

abbrev contN (x : Nat) : Prop := 128 ≤ x ∧ x < 192

def uL (m : Nat) (l : List UInt8) : Nat → Nat
  | 0 => m
  | k + 1 => uL m l k * 64 + (l.getD (k + 1) 0).toNat % 64

theorem uL_succ (m : Nat) (l : List UInt8) (k : Nat) : uL m l (k + 1) = uL m l k * 64 + (l.getD (k + 1) 0).toNat % 64 := rfl

/-- Is the number none that is written in that many bytes? -/
abbrev badU (least u : Nat) : Prop := u < least ∨ 1114111 < u ∨ (55296 ≤ u ∧ u ≤ 57343)

theorem rune_one {l : List UInt8} (h : (l.getD 0 0).toNat < 128) : runeL l = 1 := by unfold runeL; rw [if_pos h]

theorem rune_none {l : List UInt8} (h : 128 ≤ (l.getD 0 0).toNat) (h2 : (l.getD 0 0).toNat < 194 ∨ 245 ≤ (l.getD 0 0).toNat) : runeL l = 0 := by
  unfold runeL
  rw [if_neg (by omega)]
  have hf : Lib.firstT (l.getD 0 0).toNat = 241 := by
    unfold Lib.firstT
    repeat' split
    all_goals first | rfl | omega
  rw [hf]
  rfl

theorem num_two (n a b d f : Nat) (h : 194 ≤ a) (h2 : a < 224) :
    (Lib.checkN n b d f (Lib.firstT a % 8) (Lib.accLo (Lib.firstT a / 16)) (Lib.accHi (Lib.firstT a / 16))).getD 0 = if n < 2 ∨ ¬ contN b then 0 else if badU 128 (a % 32 * 64 + b % 64) then 0 else 2 := by
  have hf : Lib.firstT a = 2 := by
    unfold Lib.firstT
    repeat' split
    all_goals first | rfl | omega
  rw [hf]
  have h1 : Lib.accLo (2 / 16) = 128 := rfl
  have h3 : Lib.accHi (2 / 16) = 191 := rfl
  rw [h1, h3]
  unfold Lib.checkN
  rw [if_pos (by rfl)]
  by_cases c : n < 2 ∨ b < 128 ∨ 191 < b
  · rw [if_pos c, if_pos (by omega)]
    rfl
  · rw [if_neg c, if_neg (by omega), if_neg (by omega)]
    rfl

theorem rune_two {l : List UInt8} (h : 194 ≤ (l.getD 0 0).toNat) (h2 : (l.getD 0 0).toNat < 224) :
    runeL l = if l.length < 2 ∨ ¬ contN (l.getD 1 0).toNat then 0 else if badU 128 (uL ((l.getD 0 0).toNat % 32) l 1) then 0 else 2 := by
  unfold runeL
  rw [if_neg (by omega)]
  exact num_two _ _ _ _ _ h h2

theorem num_three (n a b d f : Nat) (h : 224 ≤ a) (h2 : a < 240) :
    (Lib.checkN n b d f (Lib.firstT a % 8) (Lib.accLo (Lib.firstT a / 16)) (Lib.accHi (Lib.firstT a / 16))).getD 0 = if n < 3 ∨ ¬ contN b ∨ ¬ contN d then 0 else if badU 2048 ((a % 16 * 64 + b % 64) * 64 + d % 64) then 0 else 3 := by
  obtain ⟨U, hU⟩ : ∃ U, U = (a % 16 * 64 + b % 64) * 64 + d % 64 := ⟨_, rfl⟩
  rw [← hU]
  have key : ∀ lo hi : Nat, Lib.firstT a % 8 = 3 → Lib.accLo (Lib.firstT a / 16) = lo → Lib.accHi (Lib.firstT a / 16) = hi →
      (¬ (n < 3 ∨ ¬ contN b ∨ ¬ contN d) → ((b < lo ∨ hi < b) ↔ badU 2048 U)) → 128 ≤ lo → hi ≤ 191 →
      (Lib.checkN n b d f (Lib.firstT a % 8) (Lib.accLo (Lib.firstT a / 16)) (Lib.accHi (Lib.firstT a / 16))).getD 0 = if n < 3 ∨ ¬ contN b ∨ ¬ contN d then 0 else if badU 2048 U then 0 else 3 := by
    intro lo hi e1 e2 e3 hiff hlo hhi
    rw [e1, e2, e3]
    unfold Lib.checkN
    rw [if_neg (by omega), if_pos (by rfl)]
    by_cases c : n < 3 ∨ ¬ contN b ∨ ¬ contN d
    · rw [if_pos c, if_pos (by omega)]
      rfl
    · have hi2 := hiff c
      rw [if_neg c]
      by_cases c2 : b < lo ∨ hi < b
      · rw [if_pos (hi2.1 c2), if_pos (by omega)]
        rfl
      · rw [if_neg (fun h => c2 (hi2.2 h)), if_neg (by omega)]
        rfl
  by_cases c2 : a = 224
  · subst c2
    exact key 160 191 (by decide) (by decide) (by decide) (fun c => by omega) (by omega) (by omega)
  by_cases c4 : a = 237
  · subst c4
    exact key 128 159 (by decide) (by decide) (by decide) (fun c => by omega) (by omega) (by omega)
  have hf : Lib.firstT a = 3 := by
    unfold Lib.firstT
    repeat' split
    all_goals first | rfl | omega
  refine key 128 191 (by rw [hf]) (by rw [hf]; rfl) (by rw [hf]; rfl) (fun c => ?_) (by omega) (by omega)
  omega

theorem rune_three {l : List UInt8} (h : 224 ≤ (l.getD 0 0).toNat) (h2 : (l.getD 0 0).toNat < 240) :
    runeL l = if l.length < 3 ∨ ¬ contN (l.getD 1 0).toNat ∨ ¬ contN (l.getD 2 0).toNat then 0 else if badU 2048 (uL ((l.getD 0 0).toNat % 16) l 2) then 0 else 3 := by
  unfold runeL
  rw [if_neg (by omega)]
  exact num_three _ _ _ _ _ h h2

theorem num_four (n a b d f : Nat) (h : 240 ≤ a) (h2 : a < 245) :
    (Lib.checkN n b d f (Lib.firstT a % 8) (Lib.accLo (Lib.firstT a / 16)) (Lib.accHi (Lib.firstT a / 16))).getD 0 = if n < 4 ∨ ¬ contN b ∨ ¬ contN d ∨ ¬ contN f then 0 else if badU 65536 (((a % 8 * 64 + b % 64) * 64 + d % 64) * 64 + f % 64) then 0 else 4 := by
  obtain ⟨U, hU⟩ : ∃ U, U = ((a % 8 * 64 + b % 64) * 64 + d % 64) * 64 + f % 64 := ⟨_, rfl⟩
  rw [← hU]
  have key : ∀ lo hi : Nat, Lib.firstT a % 8 = 4 → Lib.accLo (Lib.firstT a / 16) = lo → Lib.accHi (Lib.firstT a / 16) = hi →
      (¬ (n < 4 ∨ ¬ contN b ∨ ¬ contN d ∨ ¬ contN f) → ((b < lo ∨ hi < b) ↔ badU 65536 U)) → 128 ≤ lo → hi ≤ 191 →
      (Lib.checkN n b d f (Lib.firstT a % 8) (Lib.accLo (Lib.firstT a / 16)) (Lib.accHi (Lib.firstT a / 16))).getD 0 = if n < 4 ∨ ¬ contN b ∨ ¬ contN d ∨ ¬ contN f then 0 else if badU 65536 U then 0 else 4 := by
    intro lo hi e1 e2 e3 hiff hlo hhi
    rw [e1, e2, e3]
    unfold Lib.checkN
    rw [if_neg (by omega), if_neg (by omega), if_pos (by rfl)]
    by_cases c : n < 4 ∨ ¬ contN b ∨ ¬ contN d ∨ ¬ contN f
    · rw [if_pos c, if_pos (by omega)]
      rfl
    · have hi2 := hiff c
      rw [if_neg c]
      by_cases c2 : b < lo ∨ hi < b
      · rw [if_pos (hi2.1 c2), if_pos (by omega)]
        rfl
      · rw [if_neg (fun h => c2 (hi2.2 h)), if_neg (by omega)]
        rfl
  by_cases c2 : a = 240
  · subst c2
    exact key 144 191 (by decide) (by decide) (by decide) (fun c => by omega) (by omega) (by omega)
  by_cases c4 : a = 244
  · subst c4
    exact key 128 143 (by decide) (by decide) (by decide) (fun c => by omega) (by omega) (by omega)
  have hf : Lib.firstT a = 4 := by
    unfold Lib.firstT
    repeat' split
    all_goals first | rfl | omega
  refine key 128 191 (by rw [hf]) (by rw [hf]; rfl) (by rw [hf]; rfl) (fun c => ?_) (by omega) (by omega)
  omega

theorem rune_four {l : List UInt8} (h : 240 ≤ (l.getD 0 0).toNat) (h2 : (l.getD 0 0).toNat < 245) :
    runeL l = if l.length < 4 ∨ ¬ contN (l.getD 1 0).toNat ∨ ¬ contN (l.getD 2 0).toNat ∨ ¬ contN (l.getD 3 0).toNat then 0 else if badU 65536 (uL ((l.getD 0 0).toNat % 8) l 3) then 0 else 4 := by
  unfold runeL
  rw [if_neg (by omega)]
  exact num_four _ _ _ _ _ h h2

/-- The bytes are UTF-8: rune by rune. -/
theorem valid_step {l : List UInt8} (h : l ≠ []) : Lib.validD l = if runeL l = 0 then false else Lib.validD (l.drop (runeL l)) := by
  by_cases h1 : (l.getD 0 0).toNat < 128
  · rw [rune_one h1]
    match l, h with
    | c :: r, _ =>
      simp only [List.getD_cons_zero] at h1
      rw [Lib.validD_cons c r h1]
      rfl
  · rw [Lib.validD_lead l h (by omega)]
    unfold runeL
    rw [if_neg h1]
    generalize hc : Lib.checkN l.length (l.getD 1 0).toNat (l.getD 2 0).toNat (l.getD 3 0).toNat (Lib.firstT (l.getD 0 0).toNat % 8) (Lib.accLo (Lib.firstT (l.getD 0 0).toNat / 16)) (Lib.accHi (Lib.firstT (l.getD 0 0).toNat / 16)) = o
    match o with
    | none => rfl
    | some k =>
      have hk : k ≠ 0 := by
        unfold Lib.checkN at hc
        intro e
        subst e
        repeat' split at hc
        all_goals simp at hc
      simp [hk]

theorem rune_le (l : List UInt8) (h : l ≠ []) : runeL l ≤ l.length := by
  have hl : 0 < l.length := List.length_pos_iff.2 h
  unfold runeL
  split
  · omega
  · unfold Lib.checkN
    repeat' split
    all_goals simp
    all_goals omega

end Go.Proofs.YtnecjofgjbfheaaGreatDoor
