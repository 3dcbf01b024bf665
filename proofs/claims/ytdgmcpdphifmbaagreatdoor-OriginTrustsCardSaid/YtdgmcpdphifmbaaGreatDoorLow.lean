/- Contracts of ascii's small functions on one byte. -/
import Derived.Test.YtdgmcpdphifmbaaGreatDoorProg
import Derived.Test.YtdgmcpdphifmbaaGreatDoorKit
import Derived.Test.YtdgmcpdphifmbaaGreatDoorPlain
namespace Go.Proofs.YtdgmcpdphifmbaaGreatDoor
open Go.RowKit
set_option maxRecDepth 100000

theorem lower_any (n : Int) (h0 : 0 ≤ n) (h1 : n ≤ 255) (w : World) :
    Calls Tryz.prog 88 #[.int .u8 n] w fun e w' => e = .returned (.int .u8 (lowI n)) ∧ w = w' := by
  by_cases ha : 65 ≤ n
  · by_cases hb : n ≤ 90
    · go_enter Tryz.func88, Tryz.ntmps88
      go_wp2
      go_ret
      exact ⟨ret_int (by unfold lowI; rw [if_pos ⟨ha, hb⟩]; omega), rfl⟩
    · go_enter Tryz.func88, Tryz.ntmps88
      go_wp2
      go_ret
      exact ⟨ret_int (by unfold lowI; rw [if_neg (by omega)]), rfl⟩
  · go_enter Tryz.func88, Tryz.ntmps88
    go_wp2
    go_ret
    exact ⟨ret_int (by unfold lowI; rw [if_neg (by omega)]), rfl⟩

end Go.Proofs.YtdgmcpdphifmbaaGreatDoor
