/- The sum by words: no dump. -/
import Derived.Test.YtfiocghgjjandaaKit
namespace Go.Proofs.Ytfiocghgjjandaa
open Go.RowKit Go.Proofs

/-- Eight words. -/
structure H8 where
  a : UInt32
  b : UInt32
  c : UInt32
  d : UInt32
  e : UInt32
  f : UInt32
  g : UInt32
  h : UInt32

def H8.l (s : H8) : List UInt32 := [s.a, s.b, s.c, s.d, s.e, s.f, s.g, s.h]

def H8.add (s t : H8) : H8 := ⟨s.a + t.a, s.b + t.b, s.c + t.c, s.d + t.d, s.e + t.e, s.f + t.f, s.g + t.g, s.h + t.h⟩

/-- Four bytes, the first the greatest. -/
def word4 (l : List UInt8) (i : Nat) : UInt32 := (l.getD (4 * i) 0).toUInt32 <<< 24 ||| (l.getD (4 * i + 1) 0).toUInt32 <<< 16 ||| (l.getD (4 * i + 2) 0).toUInt32 <<< 8 ||| (l.getD (4 * i + 3) 0).toUInt32

def words (l : List UInt8) (n : Nat) : List UInt32 := (List.range n).map (word4 l)

def bytes4 (x : UInt32) : List UInt8 := [(x >>> 24).toUInt8, (x >>> 16).toUInt8, (x >>> 8).toUInt8, x.toUInt8]

def H8.bytes (s : H8) : List UInt8 := s.l.flatMap bytes4

end Go.Proofs.Ytfiocghgjjandaa
