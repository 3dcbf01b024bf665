/- Contracts of ascii's small functions on one byte. -/
import Derived.Test.YtceajdpjablfiaaProg
import Derived.Test.YtceajdpjablfiaaKit
import Derived.Test.YtceajdpjablfiaaPlain
namespace Go.Proofs.Ytceajdpjablfiaa
open Go.RowKit

theorem lower_any (n : Int) (h0 : 0 ≤ n) (h1 : n ≤ 255) (w : World) :
    Calls Try.prog 38 #[.int .u8 n] w fun e w' => e = .returned (.int .u8 (lowI n)) ∧ w = w' := by
  by_cases ha : 65 ≤ n
  · by_cases hb : n ≤ 90
    · go_enter Try.func38, Try.ntmps38
      go_wp2
      go_ret
      exact ⟨ret_int (by unfold lowI; rw [if_pos ⟨ha, hb⟩]; omega), rfl⟩
    · go_enter Try.func38, Try.ntmps38
      go_wp2
      go_ret
      exact ⟨ret_int (by unfold lowI; rw [if_neg (by omega)]), rfl⟩
  · go_enter Try.func38, Try.ntmps38
    go_wp2
    go_ret
    exact ⟨ret_int (by unfold lowI; rw [if_neg (by omega)]), rfl⟩

end Go.Proofs.Ytceajdpjablfiaa
