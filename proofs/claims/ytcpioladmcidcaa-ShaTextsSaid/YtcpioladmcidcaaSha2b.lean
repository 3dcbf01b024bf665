/- A row of eight words, built out of slots (scratch). -/
import Derived.Laws.Tables
import Derived.KernelRfl
import Derived.Test.YtcpioladmcidcaaProg
import Derived.Test.YtcpioladmcidcaaKit
import Derived.Test.YtcpioladmcidcaaRow
namespace Go.Proofs.Ytcpioladmcidcaa
open Go.RowKit Go.Proofs

theorem built8 (c0 c1 c2 c3 c4 c5 c6 c7 : Int) :
    Try.prog.built 41 [(0, .int .u32 c0), (1, .int .u32 c1), (2, .int .u32 c2), (3, .int .u32 c3), (4, .int .u32 c4), (5, .int .u32 c5), (6, .int .u32 c6), (7, .int .u32 c7)] = some #[.int .u32 c0, .int .u32 c1, .int .u32 c2, .int .u32 c3, .int .u32 c4, .int .u32 c5, .int .u32 c6, .int .u32 c7] := by
  kernel_rfl

theorem wpList_build8 {ops : Array Oper} {rest : List Oper} {o : Oper} {a : Act} {w : World} {Q : Exit → Act → World → Prop} (hg : o.guard = none) (x0 x1 x2 x3 x4 x5 x6 x7 : Operand)
    (ho : o.op = .build 41 #[(0, x0), (1, x1), (2, x2), (3, x3), (4, x4), (5, x5), (6, x6), (7, x7)]) (c0 c1 c2 c3 c4 c5 c6 c7 : Int)
    (h0 : a.eval x0 = .int .u32 c0) (h1 : a.eval x1 = .int .u32 c1) (h2 : a.eval x2 = .int .u32 c2) (h3 : a.eval x3 = .int .u32 c3) (h4 : a.eval x4 = .int .u32 c4) (h5 : a.eval x5 = .int .u32 c5) (h6 : a.eval x6 = .int .u32 c6) (h7 : a.eval x7 = .int .u32 c7)
    (h : wpList Try.prog ops Q rest (a.put o.dst (.agg #[.int .u32 c0, .int .u32 c1, .int .u32 c2, .int .u32 c3, .int .u32 c4, .int .u32 c5, .int .u32 c6, .int .u32 c7])) w) : wpList Try.prog ops Q (o :: rest) a w := by
  have hb : Try.prog.built 41 ((#[(0, x0), (1, x1), (2, x2), (3, x3), (4, x4), (5, x5), (6, x6), (7, x7)] : Array (Nat × Operand)).map fun (i, x) => (i, a.eval x)).toList = some #[.int .u32 c0, .int .u32 c1, .int .u32 c2, .int .u32 c3, .int .u32 c4, .int .u32 c5, .int .u32 c6, .int .u32 c7] := by
    rw [← built8]
    simp [h0, h1, h2, h3, h4, h5, h6, h7]
  refine wpList_build hg 41 _ ho (by rw [hb]; rfl) ?_
  rw [hb]
  exact h

end Go.Proofs.Ytcpioladmcidcaa
