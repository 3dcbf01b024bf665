/- Contracts: rows held against each other, a number made small, what the document fixes. -/
import Derived.BigRegion
import Derived.Deep.RegionHeld3
import Derived.Test.YtfgpcajjnpmoeaaProg
import Derived.Test.YtfgpcajjnpmoeaaKit
namespace Go.Proofs.Ytfgpcajjnpmoeaa
open Go.RowKit Go.Proofs

/-- A number from 0 to ahead of n. -/
theorem round_any (k : Int) (n : Nat) (w : World) (hk : -9223372036854775808 ≤ k ∧ k ≤ 9223372036854775807) (hn : 0 < n ∧ n < 1099511627776) :
    Calls Try.prog 27 #[.int .i64 k, .int .i64 n] w fun e w' => (∃ r : Nat, r < n ∧ e = .returned (.int .i64 r)) ∧ w = w' := by
  have hn0 : ¬ (n : Int) = 0 := by omega
  obtain ⟨q, hq⟩ : ∃ q, q = Int.tmod k n := ⟨_, rfl⟩
  have h1 : -(n : Int) < q := by
    rw [hq]
    rcases (by omega : 0 ≤ k ∨ k < 0) with h | h
    · have := Int.tmod_nonneg (n : Int) h
      omega
    · have h3 := Int.tmod_lt_of_pos (-k) (b := (n : Int)) (by omega)
      rw [Int.neg_tmod] at h3
      omega
  have h2 : q < (n : Int) := by rw [hq]; exact Int.tmod_lt_of_pos k (by omega)
  by_cases hneg : q < 0
  · obtain ⟨r, hr⟩ : ∃ r : Nat, q + n = r := ⟨(q + n).toNat, by omega⟩
    have HR : Hid (r < n) := Lib.hid (by omega)
    go_enter Try.func27, Try.ntmps27
    go_wp2
    go_ret
    refine ⟨⟨r, HR.out, ?_⟩, rfl⟩
    rw [← hr, hq]
    rfl
  · obtain ⟨r, hr⟩ : ∃ r : Nat, q = r := ⟨q.toNat, by omega⟩
    have HR : Hid (r < n) := Lib.hid (by omega)
    go_enter Try.func27, Try.ntmps27
    go_wp2
    go_ret
    refine ⟨⟨r, HR.out, ?_⟩, rfl⟩
    rw [← hr, hq]
    rfl

end Go.Proofs.Ytfgpcajjnpmoeaa
