/- The code's digits, bases and parts: digit, all, times, value, partValue, each to the plain one. -/
import Derived.Test.YtceajdpjablfiaaShelf
import Derived.Lib.Strings
import Derived.BigQuiet
import Derived.Lib.Join
import Derived.Test.YtceajdpjablfiaaKit
namespace Go.Proofs.Ytceajdpjablfiaa
open Go.RowKit Go.Proofs

theorem mk_size (l : List UInt8) : (⟨l.toArray⟩ : ByteArray).size = l.length := rfl

end Go.Proofs.Ytceajdpjablfiaa
