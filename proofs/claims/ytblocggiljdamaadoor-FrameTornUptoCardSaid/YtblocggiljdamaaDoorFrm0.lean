/- Frames, in plain words: the checksum, a frame, what stands at the beginning, all that stand there; a row that is cut off; a byte that is changed: no dump. -/
import Derived.Laws.BitsLemmas
import Derived.Test.YtblocggiljdamaaDoorKit
namespace Go.Proofs.YtblocggiljdamaaDoor
open Go.RowKit Go.Proofs

/-- One bit, one byte, all: the checksum. -/
def crcBit (c : UInt32) : UInt32 := if c &&& 1 = 1 then (c >>> 1) ^^^ 0xedb88320 else c >>> 1

def crcBits : Nat → UInt32 → UInt32
  | 0, c => c
  | k + 1, c => crcBit (crcBits k c)

def crcByte (c : UInt32) (b : UInt8) : UInt32 := crcBits 8 (c ^^^ b.toUInt32)

def crcFrom (c : UInt32) (l : List UInt8) : UInt32 := l.foldl crcByte c

def crcS (l : List UInt8) : UInt32 := ~~~ crcFrom 0xffffffff l

theorem crcFrom_append (c : UInt32) (l r : List UInt8) : crcFrom c (l ++ r) = crcFrom (crcFrom c l) r := List.foldl_append

/-- Numbers, the greatest byte first. -/
def layS : Nat → Nat → List UInt8
  | 0, _ => []
  | k + 1, v => UInt8.ofNat (v / 256 ^ k) :: layS k v

def numS (l : List UInt8) : Nat := l.foldl (fun v x => v * 256 + x.toNat) 0

theorem layS_len : ∀ k v, (layS k v).length = k
  | 0, _ => rfl
  | k + 1, v => by simp [layS, layS_len k v]

def be4 (v : Nat) : List UInt8 := layS 4 v

theorem be4_len (v : Nat) : (be4 v).length = 4 := layS_len 4 v

theorem be4_eq (v : Nat) : be4 v = [UInt8.ofNat (v / 16777216), UInt8.ofNat (v / 65536), UInt8.ofNat (v / 256), UInt8.ofNat v] := by
  simp [be4, layS]

theorem num4 (a b c d : UInt8) : numS [a, b, c, d] = a.toNat * 16777216 + b.toNat * 65536 + c.toNat * 256 + d.toNat := by
  simp only [numS, List.foldl]
  omega

theorem num_be4 {v : Nat} (h : v < 4294967296) : numS (be4 v) = v := by
  rw [be4_eq, num4]
  simp only [UInt8.toNat_ofNat']
  omega

theorem be4_num {l : List UInt8} (h : l.length = 4) : be4 (numS l) = l := by
  match l, h with
  | [a, b, c, d], _ =>
    rw [num4, be4_eq]
    have ha := a.toNat_lt; have hb := b.toNat_lt; have hc := c.toNat_lt; have hd := d.toNat_lt
    have e : ∀ (n : Nat) (x : UInt8), n % 256 = x.toNat → UInt8.ofNat n = x := fun n x hx => by
      apply UInt8.toNat_inj.1
      rw [UInt8.toNat_ofNat', hx]
    rw [e _ a (by omega), e _ b (by omega), e _ c (by omega), e _ d (by omega)]

theorem num4_lt {l : List UInt8} (h : l.length = 4) : numS l < 4294967296 := by
  match l, h with
  | [a, b, c, d], _ =>
    rw [num4]
    have ha := a.toNat_lt; have hb := b.toNat_lt; have hc := c.toNat_lt; have hd := d.toNat_lt
    omega

/-- A frame. -/
def frameS (p : List UInt8) : List UInt8 := be4 p.length ++ be4 (crcS (be4 p.length ++ p)).toNat ++ p

theorem frameS_len (p : List UInt8) : (frameS p).length = p.length + 8 := by simp [frameS, be4_len]; omega

/-- What stands at the beginning: payload, length, kind. -/
def nextS (b : List UInt8) : List UInt8 × Nat × Nat :=
  if b.length < 4 then ([], 0, 2)
  else if 131072 < numS (b.take 4) then ([], 0, 3)
  else if b.length < 8 ∨ b.length - 8 < numS (b.take 4) then ([], 0, 2)
  else if (crcS (b.take 4 ++ (b.drop 8).take (numS (b.take 4)))).toNat ≠ numS ((b.drop 4).take 4) then ([], 0, 3)
  else ((b.drop 8).take (numS (b.take 4)), 8 + numS (b.take 4), 1)

theorem crc_lt (l : List UInt8) : (crcS l).toNat < 4294967296 := (crcS l).toNat_lt

theorem frame_take4 (p r : List UInt8) : (frameS p ++ r).take 4 = be4 p.length := by
  rw [frameS, List.append_assoc, List.append_assoc, List.take_append_of_le_length (by rw [be4_len]; omega), List.take_of_length_le (by rw [be4_len]; omega)]

theorem frame_drop4 (p r : List UInt8) : (frameS p ++ r).drop 4 = be4 (crcS (be4 p.length ++ p)).toNat ++ (p ++ r) := by
  rw [frameS, List.append_assoc, List.append_assoc, List.drop_append_of_le_length (by rw [be4_len]; omega), List.drop_of_length_le (by rw [be4_len]; omega), List.nil_append]

theorem frame_drop8 (p r : List UInt8) : (frameS p ++ r).drop 8 = p ++ r := by
  have h : (frameS p ++ r).drop 8 = ((frameS p ++ r).drop 4).drop 4 := by rw [List.drop_drop]
  rw [h, frame_drop4, List.drop_append_of_le_length (by rw [be4_len]; omega), List.drop_of_length_le (by rw [be4_len]; omega), List.nil_append]

/-- What was made is read. -/
theorem next_frame {p : List UInt8} (hp : p.length ≤ 131072) (r : List UInt8) : nextS (frameS p ++ r) = (p, p.length + 8, 1) := by
  have hl : (frameS p ++ r).length = p.length + 8 + r.length := by rw [List.length_append, frameS_len]
  have hn : numS (be4 p.length) = p.length := num_be4 (by omega)
  unfold nextS
  rw [frame_take4, frame_drop4, frame_drop8, hn]
  rw [if_neg (by omega), if_neg (by omega), if_neg (by omega)]
  rw [List.take_append_of_le_length (Nat.le_refl _), List.take_of_length_le (Nat.le_refl _)]
  rw [List.take_append_of_le_length (by rw [be4_len]; omega), List.take_of_length_le (by rw [be4_len]; omega), num_be4 (crc_lt _)]
  rw [if_neg (by simp), Nat.add_comm 8]

/-- What is read was made so. -/
theorem next_whole {b p : List UInt8} {n : Nat} (h : nextS b = (p, n, 1)) : b.take n = frameS p ∧ n = p.length + 8 ∧ n ≤ b.length ∧ p.length ≤ 131072 := by
  unfold nextS at h
  by_cases h1 : b.length < 4
  · rw [if_pos h1] at h; simp at h
  rw [if_neg h1] at h
  by_cases h2 : 131072 < numS (b.take 4)
  · rw [if_pos h2] at h; simp at h
  rw [if_neg h2] at h
  by_cases h3 : b.length < 8 ∨ b.length - 8 < numS (b.take 4)
  · rw [if_pos h3] at h; simp at h
  rw [if_neg h3] at h
  by_cases h4 : (crcS (b.take 4 ++ (b.drop 8).take (numS (b.take 4)))).toNat ≠ numS ((b.drop 4).take 4)
  · rw [if_pos h4] at h; simp at h
  rw [if_neg h4] at h
  have h4' := Classical.not_not.1 h4
  simp only [Prod.mk.injEq, and_true] at h
  obtain ⟨hp, hn⟩ := h
  obtain ⟨m, hm⟩ : ∃ m, m = numS (b.take 4) := ⟨_, rfl⟩
  rw [← hm] at hp hn h2 h3 h4'
  have hpl : p.length = m := by rw [← hp, List.length_take, List.length_drop]; omega
  have ht4 : (b.take 4).length = 4 := by rw [List.length_take]; omega
  have hd4 : ((b.drop 4).take 4).length = 4 := by rw [List.length_take, List.length_drop]; omega
  refine ⟨?_, by omega, by omega, by omega⟩
  have e1 : be4 p.length = b.take 4 := by rw [hpl, hm, be4_num ht4]
  have e2 : be4 (crcS (be4 p.length ++ p)).toNat = (b.drop 4).take 4 := by rw [e1, ← hp, h4', be4_num hd4]
  unfold frameS
  rw [e2, e1, ← hn, ← hp, Nat.add_comm 8 m, List.append_assoc]
  have a1 : b.take (m + 8) = b.take 4 ++ (b.drop 4).take (m + 4) := by
    rw [show m + 8 = 4 + (m + 4) by omega, List.take_add]
  have a2 : (b.drop 4).take (m + 4) = (b.drop 4).take 4 ++ ((b.drop 4).drop 4).take m := by
    rw [show m + 4 = 4 + m by omega, List.take_add]
  rw [a1, a2, List.drop_drop]

/-- Of a frame that is cut off: torn. -/
theorem next_torn {p : List UInt8} (hp : p.length ≤ 131072) {c : Nat} (hc : c < p.length + 8) : nextS ((frameS p).take c) = ([], 0, 2) := by
  have hl : ((frameS p).take c).length = c := by rw [List.length_take, frameS_len]; omega
  unfold nextS
  rw [hl]
  by_cases h1 : c < 4
  · rw [if_pos h1]
  rw [if_neg h1]
  have ht : ((frameS p).take c).take 4 = be4 p.length := by
    have := frame_take4 p []
    rw [List.append_nil] at this
    rw [List.take_take, Nat.min_eq_left (by omega), this]
  rw [ht, num_be4 (by omega), if_neg (by omega), if_pos (by omega)]

/-- All frames that stand there, one behind another. -/
def scanS : Nat → List UInt8 → List (List UInt8) × Nat × Nat
  | 0, _ => ([], 0, 1)
  | f + 1, b =>
    if b = [] then ([], 0, 1)
    else if (nextS b).2.2 ≠ 1 then ([], 0, (nextS b).2.2)
    else ((nextS b).1 :: (scanS f (b.drop (nextS b).2.1)).1, (nextS b).2.1 + (scanS f (b.drop (nextS b).2.1)).2.1, (scanS f (b.drop (nextS b).2.1)).2.2)

theorem scanS_succ (f : Nat) (b : List UInt8) : scanS (f + 1) b = if b = [] then ([], 0, 1)
    else if (nextS b).2.2 ≠ 1 then ([], 0, (nextS b).2.2)
    else ((nextS b).1 :: (scanS f (b.drop (nextS b).2.1)).1, (nextS b).2.1 + (scanS f (b.drop (nextS b).2.1)).2.1, (scanS f (b.drop (nextS b).2.1)).2.2) := rfl

def scanAll (b : List UInt8) := scanS (b.length + 1) b

/-- More fuel than bytes says the same. -/
theorem scan_fuel : ∀ (f g : Nat) (b : List UInt8), b.length < f → b.length < g → scanS f b = scanS g b
  | 0, _, _, h, _ => absurd h (Nat.not_lt_zero _)
  | _, 0, _, _, h => absurd h (Nat.not_lt_zero _)
  | f + 1, g + 1, b, hf, hg => by
    simp only [scanS]
    by_cases hb : b = []
    · rw [if_pos hb, if_pos hb]
    rw [if_neg hb, if_neg hb]
    by_cases hk : (nextS b).2.2 ≠ 1
    · rw [if_pos hk, if_pos hk]
    rw [if_neg hk, if_neg hk]
    have hk' := Classical.not_not.1 hk
    have hw := next_whole (b := b) (p := (nextS b).1) (n := (nextS b).2.1) (by rw [← hk'])
    have hd : (b.drop (nextS b).2.1).length < b.length := by rw [List.length_drop]; omega
    rw [scan_fuel f g _ (by omega) (by omega)]

theorem scan_nil : scanAll [] = ([], 0, 1) := rfl

theorem scan_stop {b : List UInt8} (hb : b ≠ []) (hk : (nextS b).2.2 ≠ 1) : scanAll b = ([], 0, (nextS b).2.2) := by
  unfold scanAll
  simp only [scanS]
  rw [if_neg hb, if_pos hk]

theorem scan_step {b p : List UInt8} {n : Nat} (h : nextS b = (p, n, 1)) : scanAll b = (p :: (scanAll (b.drop n)).1, n + (scanAll (b.drop n)).2.1, (scanAll (b.drop n)).2.2) := by
  have hw := next_whole h
  have hb : b ≠ [] := by rintro rfl; simp at hw; omega
  have hd : (b.drop n).length < b.length := by rw [List.length_drop]; omega
  unfold scanAll
  rw [scanS_succ, if_neg hb, h]
  simp only [ne_eq, not_true_eq_false, if_false]
  rw [scan_fuel b.length ((b.drop n).length + 1) _ hd (by omega)]

/-- The frames of a list, one behind another; where each ends. -/
def framesS (ls : List (List UInt8)) : List UInt8 := (ls.map frameS).flatten

def endS (ls : List (List UInt8)) (n : Nat) : Nat := (framesS (ls.take n)).length

/-- THE CUT: the whole ones are told, and the rest is torn. -/
theorem scan_cut : ∀ (ls : List (List UInt8)) (cut n : Nat), (∀ p ∈ ls, p.length ≤ 131072) → n ≤ ls.length → endS ls n ≤ cut → (n < ls.length → cut < endS ls (n + 1)) → cut ≤ (framesS ls).length →
    scanAll ((framesS ls).take cut) = (ls.take n, endS ls n, if endS ls n = cut then 1 else 2)
  | [], cut, n, _, hn, _, _, hc => by
    have h0 : n = 0 := by simpa using hn
    have h1 : cut = 0 := by simpa [framesS] using hc
    subst h0 h1
    rfl
  | p :: ls, cut, 0, hp, _, _, hlt, hc => by
    have h1 := hlt (by simp)
    have e1 : endS (p :: ls) 1 = p.length + 8 := by simp [endS, framesS, frameS_len]
    have e0 : endS (p :: ls) 0 = 0 := rfl
    rw [e1] at h1
    rw [e0]
    by_cases hz : cut = 0
    · subst hz; rw [if_pos rfl]; rfl
    have hf : framesS (p :: ls) = frameS p ++ framesS ls := by simp [framesS]
    have ht : (framesS (p :: ls)).take cut = (frameS p).take cut := by
      rw [hf, List.take_append_of_le_length (by rw [frameS_len]; omega)]
    have hx := next_torn (hp p (by simp)) h1
    rw [ht, scan_stop (by intro h; have := congrArg List.length h; rw [List.length_take, frameS_len] at this; simp at this; omega) (by rw [hx]; decide), hx, if_neg (by omega)]
    rfl
  | p :: ls, cut, n + 1, hp, hn, hle, hlt, hc => by
    have hf : framesS (p :: ls) = frameS p ++ framesS ls := by simp [framesS]
    have hes : ∀ k, endS (p :: ls) (k + 1) = p.length + 8 + endS ls k := fun k => by simp [endS, framesS, frameS_len]
    rw [hes] at hle
    have ht : (framesS (p :: ls)).take cut = frameS p ++ (framesS ls).take (cut - (p.length + 8)) := by
      rw [hf, List.take_append, frameS_len, List.take_of_length_le (by rw [frameS_len]; omega)]
    have ih := scan_cut ls (cut - (p.length + 8)) n (fun q hq => hp q (by simp [hq])) (by simpa using hn) (by omega)
      (fun h => by have := hlt (by simp; exact h); rw [hes] at this; omega) (by rw [hf, List.length_append, frameS_len] at hc; omega)
    have hd : (frameS p ++ (framesS ls).take (cut - (p.length + 8))).drop (p.length + 8) = (framesS ls).take (cut - (p.length + 8)) := by
      rw [← frameS_len, List.drop_append_of_le_length (Nat.le_refl _), List.drop_of_length_le (Nat.le_refl _), List.nil_append]
    rw [ht, scan_step (next_frame (hp p (by simp)) _), hd, ih, hes]
    have e : (endS ls n = cut - (p.length + 8)) ↔ (p.length + 8 + endS ls n = cut) := by omega
    simp only [e, List.take_succ_cons]

/-- A CHANGED BYTE: bytes as many, but not these, are not read as that payload. -/
theorem next_flip {p b : List UInt8} (hl : b.length = p.length + 8) (hb : b ≠ frameS p) : nextS b ≠ (p, p.length + 8, 1) := fun h => by
  have := (next_whole h).1
  rw [List.take_of_length_le (by omega)] at this
  exact hb this

end Go.Proofs.YtblocggiljdamaaDoor
