/- Contracts: the reference's unsafe bytes, and which fields may be. -/
import Derived.Test.YtfgpcajjnpmoeaaShelf
import Derived.BigQuiet
import Derived.Test.YtfgpcajjnpmoeaaProg
import Derived.Test.YtfgpcajjnpmoeaaKit
import Derived.Test.YtfgpcajjnpmoeaaAsc1
import Derived.Test.YtfgpcajjnpmoeaaAsc2
import Derived.Test.YtfgpcajjnpmoeaaAsc3
import Derived.Test.YtfgpcajjnpmoeaaRow
import Derived.Test.YtfgpcajjnpmoeaaHst0
import Derived.Test.YtfgpcajjnpmoeaaHdr0
import Derived.Test.YtfgpcajjnpmoeaaHdr1
import Derived.Test.YtfgpcajjnpmoeaaHdr4
namespace Go.Proofs.Ytfgpcajjnpmoeaa
open Go.RowKit Go.Proofs

def RctW (c : UInt8) : Prop := ((c.toNat : Int) < 32 ∧ ((c.toNat : Int) != 9) = true ∧ ctlB c = true) ∨ ((c.toNat : Int) < 32 ∧ ((c.toNat : Int) != 9) = false ∧ ((c.toNat : Int) == 127) = false ∧ ctlB c = false) ∨ (¬ (c.toNat : Int) < 32 ∧ ((c.toNat : Int) == 127) = true ∧ ctlB c = true) ∨ (¬ (c.toNat : Int) < 32 ∧ ((c.toNat : Int) == 127) = false ∧ ctlB c = false)

instance (c : UInt8) : Decidable (RctW c) := by unfold RctW; infer_instance

theorem rct_ways (c : UInt8) : RctW c := byte_all (p := RctW) (by decide +kernel) c

theorem rsk_yes {c : UInt8} (h : ctlB c = true) : rskB c = true := by unfold rskB; rw [h]; rfl

theorem rsk_no {c : UInt8} (h : ctlB c = false) : rskB c = hasB rskL c := by unfold rskB; rw [h]; rfl

theorem runsafe_any (s : ByteArray) (hs : s.size ≤ 1073741824) (w : World) :
    Calls Try.prog 46 #[.string s] w fun e w' => e = .returned (.bool (s.data.toList.any rskB)) ∧ w' = w := by
  obtain ⟨R, hR⟩ : ∃ R, R = s.data.toList.any rskB := ⟨_, rfl⟩
  rw [← hR]
  have HR := Lib.hid hR
  clear hR
  go_enter Try.func46, Try.ntmps46
  go_wp2
  go_loop [3] (fun i => ∃ k : Nat, k ≤ s.size ∧ i = .int .i64 k ∧ Hid ((s.data.toList.take k).any rskB = false)) (fun i => s.size - (intOf i).toNat)
  case atStart => exact ⟨0, Nat.zero_le _, rfl, Lib.hid rfl⟩
  case round =>
    obtain ⟨k, hk, rfl, HN⟩ := hrel
    by_cases hlt : k < s.size
    · obtain ⟨q, hq⟩ : ∃ q, q = hasB rskL s[k] := ⟨_, rfl⟩
      have hc := ref_has_any ⟨#[34, 40, 41, 58, 60, 62, 63, 64, 91, 92, 93, 123, 125]⟩ s[k] (by decide) w
      rw [show hasB (⟨#[34, 40, 41, 58, 60, 62, 63, 64, 91, 92, 93, 123, 125]⟩ : ByteArray).data.toList s[k] = q from hq.symm] at hc
      have HC := Lib.hid hc
      have HNX := Lib.hid (any_take_snoc s rskB k hlt)
      have HH := Lib.hid (any_hit s rskB k hlt)
      have HQ := Lib.hid hq
      clear hc hq
      rcases rct_ways s[k] with ⟨a1, a2, f⟩ | ⟨a1, a2, a3, f⟩ | ⟨a1, a3, f⟩ | ⟨a1, a3, f⟩
      · have HRT : Hid (R = true) := Lib.hid (HR.out.trans (HH.out (rsk_yes f)))
        clear f
        go_wp2_with fail
        go_ret
        exact ⟨by rw [HRT.out]; rfl, rfl⟩
      · have HF : Hid (rskB s[k] = q) := Lib.hid (by rw [rsk_no f, HQ.out])
        clear f
        go_wp2_with fail
        refine HC.out.mono ?_
        rintro e w1 ⟨rfl, rfl⟩
        cases q with
        | true =>
          have HRT : Hid (R = true) := Lib.hid (HR.out.trans (HH.out HF.out))
          go_wp2_with fail
          go_ret
          exact ⟨by rw [HRT.out]; rfl, rfl⟩
        | false =>
          have HN2 : Hid ((s.data.toList.take (k + 1)).any rskB = false) := Lib.hid (by rw [HNX.out, HN.out, HF.out]; rfl)
          go_wp2_with fail
          go_round
          case rel => exact ⟨k + 1, by omega, by go_num, HN2⟩
          case measure => simp [intOf]; omega
      · have HRT : Hid (R = true) := Lib.hid (HR.out.trans (HH.out (rsk_yes f)))
        clear f
        go_wp2_with fail
        go_ret
        exact ⟨by rw [HRT.out]; rfl, rfl⟩
      · have HF : Hid (rskB s[k] = q) := Lib.hid (by rw [rsk_no f, HQ.out])
        clear f
        go_wp2_with fail
        refine HC.out.mono ?_
        rintro e w1 ⟨rfl, rfl⟩
        cases q with
        | true =>
          have HRT : Hid (R = true) := Lib.hid (HR.out.trans (HH.out HF.out))
          go_wp2_with fail
          go_ret
          exact ⟨by rw [HRT.out]; rfl, rfl⟩
        | false =>
          have HN2 : Hid ((s.data.toList.take (k + 1)).any rskB = false) := Lib.hid (by rw [HNX.out, HN.out, HF.out]; rfl)
          go_wp2_with fail
          go_round
          case rel => exact ⟨k + 1, by omega, by go_num, HN2⟩
          case measure => simp [intOf]; omega
    · have HRF : Hid (R = false) := Lib.hid (by rw [HR.out, ← HN.out, List.take_of_length_le (by rw [size_data]; omega)])
      go_wp2
      go_ret
      exact ⟨by rw [HRF.out]; rfl, rfl⟩

theorem rvalid_any (n v : ByteArray) (hn : n.size ≤ 1073741824) (hv : v.size ≤ 1073741824) (w : World) :
    Calls Try.prog 21 #[.agg #[.string n, .string v]] w fun e w' => e = .returned (.bool (valB n.data.toList v.data.toList)) ∧ Below w.heap.size w w' := by
  obtain ⟨k, hk⟩ : ∃ k, k = tokL n.data.toList := ⟨_, rfl⟩
  obtain ⟨h, hh⟩ : ∃ h, h = v.data.toList.any ctlB := ⟨_, rfl⟩
  obtain ⟨T, hT⟩ : ∃ T : ByteArray, T = ⟨(trimL v.data.toList).toArray⟩ := ⟨_, rfl⟩
  have HK : Hid (∀ W, Calls Try.prog 40 #[.string n] W fun e w' => e = .returned (.bool k) ∧ w' = W) := Lib.hid (fun W => by rw [hk]; exact ref_token_any n hn W)
  have HT : Hid (∀ W, Calls Try.prog 34 #[.string v] W fun e w' => e = .returned (.string T) ∧ w' = W) := Lib.hid (fun W => by rw [hT]; exact ref_trim_any v hv W)
  obtain ⟨q, hq⟩ : ∃ q, q = (T.toList == v.toList) := ⟨_, rfl⟩
  have hR : valB n.data.toList v.data.toList = (k && (!h && q)) := by
    rw [hk, hh, hq, txt_eq, hT]
    rfl
  rw [hR]
  have hq2 : (T.toList == v.toList) = q := hq.symm
  have hbox := box_two w n v 34
  have HHH := Lib.hid hh
  clear hk hh hT hq hR hn
  go_enter Try.func21, Try.ntmps21
  go_wp2_with fail
  obtain ⟨w1, hw1⟩ : ∃ w1, w1 = w.alloc (.cells #[.string n, .string v] 34) := ⟨_, rfl⟩
  rw [← hw1] at hbox ⊢
  obtain ⟨b0, c0, c1⟩ := hbox
  have B0 := Lib.hid b0
  clear hw1 b0
  go_loop [3] (fun i => ∃ j : Nat, j ≤ v.size ∧ i = .int .i64 j ∧ Hid ((v.data.toList.take j).any ctlB = false)) (fun i => v.size - (intOf i).toNat)
  case atStart => exact ⟨0, Nat.zero_le _, rfl, Lib.hid rfl⟩
  case round =>
    obtain ⟨j, hj, rfl, HN⟩ := hrel
    by_cases hlt : j < v.size
    · have HNX := Lib.hid (any_take_snoc v ctlB j hlt)
      have HH := Lib.hid (any_hit v ctlB j hlt)
      rcases rct_ways v[j] with ⟨a1, a2, f⟩ | ⟨a1, a2, a3, f⟩ | ⟨a1, a3, f⟩ | ⟨a1, a3, f⟩
      · have HRT : Hid (h = true) := Lib.hid (HHH.out.trans (HH.out f))
        clear f hq2
        go_wp2_with fail
        go_ret
        exact ⟨by rw [HRT.out]; simp, B0.out⟩
      · have HN2 : Hid ((v.data.toList.take (j + 1)).any ctlB = false) := Lib.hid (by rw [HNX.out, HN.out, f]; rfl)
        clear f hq2
        go_wp2_with fail
        go_round
        case rel => exact ⟨j + 1, by omega, by go_num, HN2⟩
        case measure => simp [intOf]; omega
      · have HRT : Hid (h = true) := Lib.hid (HHH.out.trans (HH.out f))
        clear f hq2
        go_wp2_with fail
        go_ret
        exact ⟨by rw [HRT.out]; simp, B0.out⟩
      · have HN2 : Hid ((v.data.toList.take (j + 1)).any ctlB = false) := Lib.hid (by rw [HNX.out, HN.out, f]; rfl)
        clear f hq2
        go_wp2_with fail
        go_round
        case rel => exact ⟨j + 1, by omega, by go_num, HN2⟩
        case measure => simp [intOf]; omega
    · have HRF : Hid (h = false) := Lib.hid (by rw [HHH.out, ← HN.out, List.take_of_length_le (by rw [size_data]; omega)])
      cases k with
      | false =>
        go_wp2_with fail
        go_quiet ((go_at_call 40; exact Calls.quiet_of_same (HK.out _)))
        go_wp2_with fail
        go_ret
        exact ⟨by simp, below_draws B0.out ⟨_, rfl⟩⟩
      | true =>
        go_wp2_with fail
        go_quiet (first | (go_at_call 40; exact Calls.quiet_of_same (HK.out _)) | (go_at_call 34; exact Calls.quiet_of_same (HT.out _)))
        go_wp2_with fail
        go_ret
        exact ⟨by rw [HRF.out]; simp, below_draws B0.out ⟨_, rfl⟩⟩

end Go.Proofs.Ytfgpcajjnpmoeaa
