/- What a digest holds, by lists: no dump. -/
import Derived.Test.YtcpioladmcidcaaKit
import Derived.Test.YtcpioladmcidcaaRow
import Derived.Test.YtcpioladmcidcaaSha
namespace Go.Proofs.Ytcpioladmcidcaa
open Go.RowKit Go.Proofs

theorem blocksS_append (K : List UInt32) (l m : List UInt8) (s : H8) : ∀ k, 64 * k ≤ l.length → blocksS K (l ++ m) s k = blocksS K l s k
  | 0, _ => rfl
  | k + 1, h => by
    rw [blocksS, blocksS, blocksS_append K l m s k (by omega)]
    congr 1
    rw [List.drop_append_of_le_length (by omega), List.take_append_of_le_length (by rw [List.length_drop]; omega)]

/-- The block of a digest that was written l: its bytes that wait stand first. -/
def Waits (l b : List UInt8) : Prop := b.length = 64 ∧ b.take (l.length % 64) = l.drop (64 * (l.length / 64))

/-- The words of a digest that was written l. -/
def WordsOf (K : List UInt32) (h : H8) (l : List UInt8) (s : H8) : Prop := l ≠ [] → s = blocksS K l h (l.length / 64)

theorem waits_less {l b y : List UInt8} (hb : Waits l b) (hn : l.length % 64 + y.length < 64) :
    Waits (l ++ y) (b.take (l.length % 64) ++ (y ++ b.drop (l.length % 64 + y.length))) := by
  obtain ⟨h1, h2⟩ := hb
  have hm : (l ++ y).length % 64 = l.length % 64 + y.length := by rw [List.length_append]; omega
  have hq : (l ++ y).length / 64 = l.length / 64 := by rw [List.length_append]; omega
  refine ⟨by simp [h1]; omega, ?_⟩
  rw [hm, hq, ← List.append_assoc, List.take_left' (by simp [h1]; omega), h2, List.drop_append_of_le_length (by omega)]

theorem waits_full {l b y : List UInt8} (hb : Waits l b) (hn : l.length % 64 + y.length = 64) :
    (b.take (l.length % 64) ++ (y ++ b.drop (l.length % 64 + y.length))) = ((l ++ y).drop (64 * (l.length / 64))).take 64 ∧ (l ++ y).length = 64 * (l.length / 64 + 1) := by
  obtain ⟨h1, h2⟩ := hb
  refine ⟨?_, by rw [List.length_append]; omega⟩
  rw [hn, List.drop_of_length_le (by omega), List.append_nil, h2, ← List.drop_append_of_le_length (by omega), List.take_of_length_le]
  rw [List.length_drop, List.length_append]
  omega

theorem words_less {K : List UInt32} {h s : H8} {l y : List UInt8} (hs : s = blocksS K l h (l.length / 64)) (hn : l.length % 64 + y.length < 64) : WordsOf K h (l ++ y) s := fun _ => by
  have hq : (l ++ y).length / 64 = l.length / 64 := by rw [List.length_append]; omega
  rw [hq, blocksS_append K l y h _ (by omega)]
  exact hs

theorem words_full {K : List UInt32} {h s : H8} {l b y : List UInt8} (hs : s = blocksS K l h (l.length / 64)) (hb : Waits l b) (hn : l.length % 64 + y.length = 64) :
    WordsOf K h (l ++ y) (blockS K s (b.take (l.length % 64) ++ (y ++ b.drop (l.length % 64 + y.length)))) := fun _ => by
  obtain ⟨h1, h2⟩ := waits_full hb hn
  have hq : (l ++ y).length / 64 = l.length / 64 + 1 := by omega
  rw [hq, blocksS, blocksS_append K l y h _ (by omega), ← hs, h1]

theorem waits_full2 {l b y : List UInt8} (hb : Waits l b) (hn : l.length % 64 + y.length = 64) : Waits (l ++ y) (b.take (l.length % 64) ++ (y ++ b.drop (l.length % 64 + y.length))) := by
  have h2 := (waits_full hb hn).2
  obtain ⟨h1, _⟩ := hb
  have hm : (l ++ y).length % 64 = 0 := by omega
  refine ⟨by simp [h1]; omega, ?_⟩
  rw [hm, List.take_zero, List.drop_of_length_le (by omega)]

theorem words_none {K : List UInt32} {h : H8} : h = blocksS K [] h (([] : List UInt8).length / 64) := rfl

/-- What stands behind the bytes themselves: a one, noughts, the length. -/
def tailS (n : Nat) : List UInt8 := 128 :: (List.replicate (padZ n) 0 ++ (List.range 8).map (fun i => (n * 8 / 2 ^ (8 * (7 - i))).toUInt8))

theorem tailS_len (n : Nat) : (tailS n).length = 9 + padZ n := by simp [tailS]; omega

theorem pad_tail (l : List UInt8) : pad l = l ++ tailS l.length := rfl

theorem pad_mod (l : List UInt8) : (pad l).length % 64 = 0 := by
  rw [pad_tail, List.length_append, tailS_len]
  unfold padZ
  omega

theorem words_pad {K : List UInt32} {h s : H8} {l : List UInt8} (hw : WordsOf K h (l ++ tailS l.length) s) : s = shaS K h l :=
  hw (by simp [tailS])

/-- The tail's bytes as they are written: i of the length's eight are there, and noughts behind. -/
def tailUp (n k : Nat) : List UInt8 := 128 :: (List.replicate (padZ n) 0 ++ ((List.range k).map (fun i => (n * 8 / 2 ^ (8 * (7 - i))).toUInt8) ++ List.replicate (71 - padZ n - k) 0))

theorem padZ_lt (n : Nat) : padZ n < 64 := by unfold padZ; omega

theorem tailUp_len (n k : Nat) (hk : k ≤ 8) : (tailUp n k).length = 72 := by
  have := padZ_lt n
  simp [tailUp]; omega

theorem tailUp_zero (n : Nat) : tailUp n 0 = 128 :: List.replicate 71 0 := by
  have := padZ_lt n
  unfold tailUp
  rw [List.range_zero, List.map_nil, List.nil_append, List.replicate_append_replicate]
  congr 2
  omega

theorem tailUp_at (n k : Nat) (hk : k < 8) : (tailUp n k)[1 + padZ n + k]? = some 0 := by
  have := padZ_lt n
  unfold tailUp
  rw [show 1 + padZ n + k = (padZ n + k) + 1 from by omega, List.getElem?_cons_succ, List.getElem?_append_right (by simp), List.getElem?_append_right (by simp), List.getElem?_replicate, if_pos (by simp; omega)]

theorem tailUp_set (n k : Nat) (hk : k < 8) : (tailUp n k).set (1 + padZ n + k) (n * 8 / 2 ^ (8 * (7 - k))).toUInt8 = tailUp n (k + 1) := by
  have := padZ_lt n
  unfold tailUp
  rw [show 1 + padZ n + k = (padZ n + k) + 1 from by omega, List.set_cons_succ, List.set_append_right _ _ (by simp), List.set_append_right _ _ (by simp), show 71 - padZ n - k = (71 - padZ n - (k + 1)) + 1 from by omega, List.replicate_succ, List.range_succ]
  simp

theorem tailUp_all (n : Nat) : (tailUp n 8).take (9 + padZ n) = tailS n := by
  have h : tailUp n 8 = tailS n ++ List.replicate (71 - padZ n - 8) 0 := by
    unfold tailUp tailS
    simp
  rw [h, List.take_left' (tailS_len n)]

end Go.Proofs.Ytcpioladmcidcaa
