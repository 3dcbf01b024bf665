/- Contracts: the reference's turn and block (scratch). -/
import Derived.Deep.RegionHeld3
import Derived.Test.YtcpioladmcidcaaProg
import Derived.Test.YtcpioladmcidcaaKit
import Derived.Test.YtcpioladmcidcaaU32
namespace Go.Proofs.Ytcpioladmcidcaa
open Go.RowKit Go.Proofs

theorem turn_any (x : UInt32) (n : Nat) (hn : 1 ≤ n ∧ n < 32) (w : World) :
    Calls Try.prog 29 #[wV x, .int .i64 n] w fun e w' => e = .returned (wV (rr x n)) ∧ ∃ m, w' = w.drewN m := by
  obtain ⟨X, hX⟩ : ∃ X, X = iw x := ⟨_, rfl⟩
  have hr := iw_rr x n hn
  have hb := iw_lt x
  unfold wV
  rw [← hX] at hr hb ⊢
  have HR := Lib.hid hr
  clear hr hX
  go_enter Try.func29, Try.ntmps29
  go_wp2
  go_quiet (fail)
  go_wp2
  go_ret
  exact ⟨ret_int HR.out, nq, rfl⟩

theorem turn_at (x : UInt32) (n : Nat) (z : Int) (hz : z = (n : Int)) (hn : 1 ≤ n ∧ n < 32) (w : World) :
    Calls Try.prog 29 #[.int .u32 (iw x), .int .i64 z] w fun e w' => e = .returned (.int .u32 (iw (rr x n))) ∧ ∃ m, w' = w.drewN m := by
  subst hz
  exact turn_any x n hn w

end Go.Proofs.Ytcpioladmcidcaa
