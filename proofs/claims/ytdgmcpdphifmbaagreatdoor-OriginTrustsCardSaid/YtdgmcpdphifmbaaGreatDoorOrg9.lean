/- alike.Origin; OriginPlain's walk. -/
import Derived.Test.YtdgmcpdphifmbaaGreatDoorProg
import Derived.Test.YtdgmcpdphifmbaaGreatDoorKit
import Derived.Test.YtdgmcpdphifmbaaGreatDoorRow
namespace Go.Proofs.YtdgmcpdphifmbaaGreatDoor
open Go.RowKit Go.Proofs
set_option maxRecDepth 100000

theorem aorigin_any (S H : ByteArray) (p : Int) (hS : S.size ≤ 281474976710656) (hH : H.size ≤ 281474976710656) (w : World) :
    Calls Tryz.prog 4 #[.agg #[.string S, .string H, .int .i64 p]] w fun e w' => e = .returned (.bool (decide (0 ≤ p ∧ p ≤ 65535 ∧ S.size + H.size ≤ 1000))) ∧ Below w.heap.size w w' := by
  have HB := Lib.hid (below_more (Below.refl _ w) (.cells #[.string S, .string H, .int .i64 p] 23))
  obtain ⟨R, hR⟩ : ∃ R, R = decide (0 ≤ p ∧ p ≤ 65535 ∧ S.size + H.size ≤ 1000) := ⟨_, rfl⟩
  rw [← hR]
  have t1 : ¬ 9223372036854775807 < S.size + H.size := by omega
  by_cases h1 : 0 ≤ p
  · by_cases h2 : p ≤ 65535
    · have HR : Hid (R = decide ((S.size : Int) + (H.size : Int) ≤ 1000)) := Lib.hid (by rw [hR, Bool.eq_iff_iff]; simp; omega)
      clear hR hS hH
      go_enter Tryz.func4, Tryz.ntmps4
      go_wp2_with fail
      go_ret
      exact ⟨by rw [HR.out]; rfl, HB.out⟩
    · have HR : Hid (R = false) := Lib.hid (by rw [hR, decide_eq_false (fun h => h2 h.2.1)])
      clear hR hS hH
      go_enter Tryz.func4, Tryz.ntmps4
      go_wp2_with fail
      go_ret
      exact ⟨by rw [HR.out]; rfl, HB.out⟩
  · have HR : Hid (R = false) := Lib.hid (by rw [hR, decide_eq_false (fun h => h1 h.1)])
    clear hR hS hH
    go_enter Tryz.func4, Tryz.ntmps4
    go_wp2_with fail
    go_ret
    exact ⟨by rw [HR.out]; rfl, HB.out⟩

end Go.Proofs.YtdgmcpdphifmbaaGreatDoor
