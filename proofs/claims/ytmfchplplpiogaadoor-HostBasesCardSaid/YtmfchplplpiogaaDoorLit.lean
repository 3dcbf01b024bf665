/- The sum's own constants, and its value at two texts: no dump. -/
import Derived.Test.YtmfchplplpiogaaDoorKit
import Derived.Test.YtmfchplplpiogaaDoorSha
namespace Go.Proofs.YtmfchplplpiogaaDoor
open Go.RowKit Go.Proofs

def H8.same (s t : H8) : Bool := s.a == t.a && s.b == t.b && s.c == t.c && s.d == t.d && s.e == t.e && s.f == t.f && s.g == t.g && s.h == t.h

end Go.Proofs.YtmfchplplpiogaaDoor
