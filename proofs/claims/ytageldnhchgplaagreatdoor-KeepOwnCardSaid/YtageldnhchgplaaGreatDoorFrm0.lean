/- Frames, in plain words: the checksum, a frame, what stands at the beginning, all that stand there; a row that is cut off; a byte that is changed: no dump. -/
import Derived.Laws.BitsLemmas
import Derived.Test.YtageldnhchgplaaGreatDoorKit
namespace Go.Proofs.YtageldnhchgplaaGreatDoor
open Go.RowKit Go.Proofs

/-- One bit, one byte, all: the checksum. -/
def crcBit (c : UInt32) : UInt32 := if c &&& 1 = 1 then (c >>> 1) ^^^ 0xedb88320 else c >>> 1

def crcBits : Nat → UInt32 → UInt32
  | 0, c => c
  | k + 1, c => crcBit (crcBits k c)

def crcByte (c : UInt32) (b : UInt8) : UInt32 := crcBits 8 (c ^^^ b.toUInt32)

def crcFrom (c : UInt32) (l : List UInt8) : UInt32 := l.foldl crcByte c

def crcS (l : List UInt8) : UInt32 := ~~~ crcFrom 0xffffffff l

theorem crcFrom_append (c : UInt32) (l r : List UInt8) : crcFrom c (l ++ r) = crcFrom (crcFrom c l) r := List.foldl_append

/-- Numbers, the greatest byte first. -/
def layS : Nat → Nat → List UInt8
  | 0, _ => []
  | k + 1, v => UInt8.ofNat (v / 256 ^ k) :: layS k v

theorem layS_len : ∀ k v, (layS k v).length = k
  | 0, _ => rfl
  | k + 1, v => by simp [layS, layS_len k v]

def be4 (v : Nat) : List UInt8 := layS 4 v

theorem be4_len (v : Nat) : (be4 v).length = 4 := layS_len 4 v

theorem be4_eq (v : Nat) : be4 v = [UInt8.ofNat (v / 16777216), UInt8.ofNat (v / 65536), UInt8.ofNat (v / 256), UInt8.ofNat v] := by
  simp [be4, layS]

/-- A frame. -/
def frameS (p : List UInt8) : List UInt8 := be4 p.length ++ be4 (crcS (be4 p.length ++ p)).toNat ++ p

end Go.Proofs.YtageldnhchgplaaGreatDoor
