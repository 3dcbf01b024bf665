/- The sum by words: no dump. -/
import Derived.Test.YtcpioladmcidcaaKit
import Derived.Test.YtcpioladmcidcaaRow
import Derived.Test.YtcpioladmcidcaaU32
namespace Go.Proofs.Ytcpioladmcidcaa
open Go.RowKit Go.Proofs

/-- Eight words. -/
structure H8 where
  a : UInt32
  b : UInt32
  c : UInt32
  d : UInt32
  e : UInt32
  f : UInt32
  g : UInt32
  h : UInt32

def H8.l (s : H8) : List UInt32 := [s.a, s.b, s.c, s.d, s.e, s.f, s.g, s.h]

def H8.add (s t : H8) : H8 := ⟨s.a + t.a, s.b + t.b, s.c + t.c, s.d + t.d, s.e + t.e, s.f + t.f, s.g + t.g, s.h + t.h⟩

/-- Four bytes, the first the greatest. -/
def word4 (l : List UInt8) (i : Nat) : UInt32 := (l.getD (4 * i) 0).toUInt32 <<< 24 ||| (l.getD (4 * i + 1) 0).toUInt32 <<< 16 ||| (l.getD (4 * i + 2) 0).toUInt32 <<< 8 ||| (l.getD (4 * i + 3) 0).toUInt32

def words (l : List UInt8) (n : Nat) : List UInt32 := (List.range n).map (word4 l)

def sig0 (x : UInt32) : UInt32 := rr x 7 ^^^ rr x 18 ^^^ x >>> 3

def sig1 (y : UInt32) : UInt32 := rr y 17 ^^^ rr y 19 ^^^ y >>> 10

/-- Sixteen words, and k more. -/
def sched (l : List UInt32) : Nat → List UInt32
  | 0 => l
  | k + 1 =>
    let r := sched l k
    r ++ [r.getD k 0 + sig0 (r.getD (k + 1) 0) + r.getD (k + 9) 0 + sig1 (r.getD (k + 14) 0)]

def roundP (v : H8) (k w : UInt32) : UInt32 := v.h + (rr v.e 6 ^^^ rr v.e 11 ^^^ rr v.e 25) + (v.e &&& v.f ^^^ ~~~v.e &&& v.g) + k + w

def roundQ (v : H8) : UInt32 := (rr v.a 2 ^^^ rr v.a 13 ^^^ rr v.a 22) + (v.a &&& v.b ^^^ v.a &&& v.c ^^^ v.b &&& v.c)

def roundS (v : H8) (k w : UInt32) : H8 := ⟨roundP v k w + roundQ v, v.a, v.b, v.c, v.d + roundP v k w, v.e, v.f, v.g⟩

def rounds (K W : List UInt32) (s : H8) : Nat → H8
  | 0 => s
  | k + 1 => roundS (rounds K W s k) (K.getD k 0) (W.getD k 0)

def blockS (K : List UInt32) (s : H8) (l : List UInt8) : H8 := s.add (rounds K (sched (words l 16) 48) s 64)

/-- All blocks of 64 bytes. -/
def blocksS (K : List UInt32) (l : List UInt8) (s : H8) : Nat → H8
  | 0 => s
  | k + 1 => blockS K (blocksS K l s k) ((l.drop (64 * k)).take 64)

def padZ (n : Nat) : Nat := (119 - n % 64) % 64

def pad (l : List UInt8) : List UInt8 := l ++ 128 :: (List.replicate (padZ l.length) 0 ++ (List.range 8).map (fun i => (l.length * 8 / 2 ^ (8 * (7 - i))).toUInt8))

def shaS (K : List UInt32) (s : H8) (l : List UInt8) : H8 := blocksS K (pad l) s ((pad l).length / 64)

def bytes4 (x : UInt32) : List UInt8 := [(x >>> 24).toUInt8, (x >>> 16).toUInt8, (x >>> 8).toUInt8, x.toUInt8]

def H8.bytes (s : H8) : List UInt8 := s.l.flatMap bytes4

theorem words_succ (l : List UInt8) (k : Nat) : words l (k + 1) = words l k ++ [word4 l k] := by
  unfold words
  rw [List.range_succ, List.map_append]
  rfl

theorem words_len (l : List UInt8) (k : Nat) : (words l k).length = k := by unfold words; simp

theorem words_set (l : List UInt8) (k : Nat) (z : UInt32) (b : List UInt32) : (words l k ++ z :: b).set k (word4 l k) = words l (k + 1) ++ b := by
  rw [List.set_append_right _ _ (by rw [words_len]; exact Nat.le_refl _), words_len, Nat.sub_self, words_succ]
  simp

theorem sched_len (l : List UInt32) (k : Nat) : (sched l k).length = l.length + k := by
  induction k with
  | zero => rfl
  | succ k ih => unfold sched; simp only [List.length_append, ih, List.length_singleton]; omega

theorem sched_set (l : List UInt32) (k n : Nat) (z : UInt32) (h : n = l.length + k) {b : List UInt32} :
    (sched l k ++ z :: b).set n ((sched l k).getD k 0 + sig0 ((sched l k).getD (k + 1) 0) + (sched l k).getD (k + 9) 0 + sig1 ((sched l k).getD (k + 14) 0)) = sched l (k + 1) ++ b := by
  rw [List.set_append_right _ _ (by rw [sched_len]; omega), sched_len, h, Nat.sub_self]
  simp [sched]

end Go.Proofs.Ytcpioladmcidcaa
