/- Contracts: the code's classes of bytes, has; strings.Cut at one byte; media types. -/
import Derived.Test.YtfgpcajjnpmoeaaShelf
import Derived.BigQuiet
import Derived.Test.YtfgpcajjnpmoeaaProg
import Derived.Test.YtfgpcajjnpmoeaaKit
import Derived.Test.YtfgpcajjnpmoeaaPlain
import Derived.Test.YtfgpcajjnpmoeaaAsc1
import Derived.Test.YtfgpcajjnpmoeaaRow
import Derived.Test.YtfgpcajjnpmoeaaStp
import Derived.Test.YtfgpcajjnpmoeaaHst0
import Derived.Test.YtfgpcajjnpmoeaaHdr0
namespace Go.Proofs.Ytfgpcajjnpmoeaa
open Go.RowKit Go.Proofs

def CtlW (c : UInt8) : Prop := (((c.toNat : Int) == 9) = true ∧ ctlB c = false) ∨ (((c.toNat : Int) == 9) = false ∧ (c.toNat : Int) < 32 ∧ ctlB c = true) ∨ (((c.toNat : Int) == 9) = false ∧ ¬ (c.toNat : Int) < 32 ∧ ((c.toNat : Int) == 127) = true ∧ ctlB c = true) ∨ (((c.toNat : Int) == 9) = false ∧ ¬ (c.toNat : Int) < 32 ∧ ((c.toNat : Int) == 127) = false ∧ ctlB c = false)

instance (c : UInt8) : Decidable (CtlW c) := by unfold CtlW; infer_instance

theorem ctl_ways (c : UInt8) : CtlW c := byte_all (p := CtlW) (by decide +kernel) c

theorem control_byte (c : UInt8) (w : World) : Calls Try.prog 42 #[.int .u8 c.toNat] w fun e w' => e = .returned (.bool (ctlB c)) ∧ w' = w := by
  rcases ctl_ways c with ⟨h1, h⟩ | ⟨h1, h2, h⟩ | ⟨h1, h2, h3, h⟩ | ⟨h1, h2, h3, h⟩
  all_goals
    rw [h]
    clear h
    go_enter Try.func42, Try.ntmps42
    go_wp2_with fail
    go_ret
    exact ⟨rfl, rfl⟩

def RskW (c : UInt8) : Prop := ((((c.toNat : Int) == 34) = true ∧ rskB c = true) ∨ (((c.toNat : Int) == 34) = false ∧ ((((c.toNat : Int) == 40) = true ∧ rskB c = true) ∨ (((c.toNat : Int) == 40) = false ∧ ((((c.toNat : Int) == 41) = true ∧ rskB c = true) ∨ (((c.toNat : Int) == 41) = false ∧ ((((c.toNat : Int) == 58) = true ∧ rskB c = true) ∨ (((c.toNat : Int) == 58) = false ∧ ((((c.toNat : Int) == 60) = true ∧ rskB c = true) ∨ (((c.toNat : Int) == 60) = false ∧ ((((c.toNat : Int) == 62) = true ∧ rskB c = true) ∨ (((c.toNat : Int) == 62) = false ∧ ((((c.toNat : Int) == 63) = true ∧ rskB c = true) ∨ (((c.toNat : Int) == 63) = false ∧ ((((c.toNat : Int) == 64) = true ∧ rskB c = true) ∨ (((c.toNat : Int) == 64) = false ∧ ((((c.toNat : Int) == 91) = true ∧ rskB c = true) ∨ (((c.toNat : Int) == 91) = false ∧ ((((c.toNat : Int) == 92) = true ∧ rskB c = true) ∨ (((c.toNat : Int) == 92) = false ∧ ((((c.toNat : Int) == 93) = true ∧ rskB c = true) ∨ (((c.toNat : Int) == 93) = false ∧ ((((c.toNat : Int) == 123) = true ∧ rskB c = true) ∨ (((c.toNat : Int) == 123) = false ∧ ((((c.toNat : Int) == 125) = true ∧ rskB c = true) ∨ (((c.toNat : Int) == 125) = false ∧ (rskB c = ctlB c)))))))))))))))))))))))))))

instance (c : UInt8) : Decidable (RskW c) := by unfold RskW; infer_instance

theorem rsk_ways (c : UInt8) : RskW c := byte_all (p := RskW) (by decide +kernel) c

theorem risky_byte (c : UInt8) (w : World) : Calls Try.prog 43 #[.int .u8 c.toNat] w fun e w' => e = .returned (.bool (rskB c)) ∧ w' = w := by
  rcases rsk_ways c with ⟨h0, h⟩ | ⟨h0, ⟨h1, h⟩ | ⟨h1, ⟨h2, h⟩ | ⟨h2, ⟨h3, h⟩ | ⟨h3, ⟨h4, h⟩ | ⟨h4, ⟨h5, h⟩ | ⟨h5, ⟨h6, h⟩ | ⟨h6, ⟨h7, h⟩ | ⟨h7, ⟨h8, h⟩ | ⟨h8, ⟨h9, h⟩ | ⟨h9, ⟨h10, h⟩ | ⟨h10, ⟨h11, h⟩ | ⟨h11, ⟨h12, h⟩ | ⟨h12, h⟩⟩⟩⟩⟩⟩⟩⟩⟩⟩⟩⟩⟩
  case' inr.inr.inr.inr.inr.inr.inr.inr.inr.inr.inr.inr.inr =>
    rw [h]
    have HC := Lib.hid (control_byte c w)
    clear h
    go_enter Try.func43, Try.ntmps43
    go_wp2_with fail
    refine HC.out.mono ?_
    rintro e w1 ⟨rfl, rfl⟩
    go_wp2_with fail
    go_ret
    exact ⟨rfl, rfl⟩
  all_goals
    rw [h]
    clear h
    go_enter Try.func43, Try.ntmps43
    go_wp2_with fail
    go_ret
    exact ⟨rfl, rfl⟩

theorem lng_digit {c : UInt8} (h : isLet c.toNat = true ∨ isDig c.toNat = true) : lngB c = true := by
  unfold lngB
  rcases h with h | h
  · rw [h]; rfl
  · rw [h]; simp

theorem lng_other {c : UInt8} (h : isLet c.toNat = false ∧ isDig c.toNat = false) : lngB c = hasB lngL c := by
  unfold lngB
  rw [h.1, h.2]
  rfl

theorem foreign_byte (c : UInt8) (w : World) : Calls Try.prog 44 #[.int .u8 c.toNat] w fun e w' => e = .returned (.bool (!lngB c)) ∧ w' = w := by
  obtain ⟨n, hn⟩ : ∃ n : Int, n = c.toNat := ⟨_, rfl⟩
  obtain ⟨i, hi1, hi2⟩ : ∃ i : Int, decide (0 ≤ i) = hasB lngL c ∧ Calls Try.prog 61 #[.string ⟨#[32, 42, 44, 45, 46, 59, 61]⟩, .int .u8 n] w fun e w' => e = .returned (.int .i64 i) ∧ w' = w :=
    ⟨_, indexByte_contains lngL c, by
      have h := Try.strings_IndexByte ⟨#[32, 42, 44, 45, 46, 59, 61]⟩ n w
      rw [show (n.toNat).toUInt8 = c by rw [hn]; simp] at h
      exact h⟩
  have HM := Lib.hid hi1
  have HI := Lib.hid hi2
  have HN := Lib.hid hn
  have hb : 0 ≤ n ∧ n ≤ 255 := by rw [hn]; exact byte_bd c
  rw [← hn]
  clear hi1 hi2 hn
  rcases (by omega : n < 48 ∨ (48 ≤ n ∧ n ≤ 57) ∨ (57 < n ∧ n < 65) ∨ (65 ≤ n ∧ n ≤ 90) ∨ (90 < n ∧ n < 97) ∨ (97 ≤ n ∧ n ≤ 122) ∨ 122 < n) with hi | hi | hi | hi | hi | hi | hi
  · -- n < 48
    have HL : Hid (lngB c = hasB lngL c) := Lib.hid (lng_other ⟨isLet_no (by rw [← HN.out]; omega), isDig_no (by rw [← HN.out]; omega)⟩)
    have a0 : ¬ (97 ≤ n) := by omega
    have a1 : (n ≤ 122) := by omega
    have a2 : ¬ (65 ≤ n) := by omega
    have a3 : (n ≤ 90) := by omega
    have a4 : ¬ (48 ≤ n) := by omega
    have a5 : (n ≤ 57) := by omega
    clear hi
    go_enter Try.func44, Try.ntmps44
    go_wp2_with fail
    refine HI.out.mono ?_
    rintro e w1 ⟨rfl, rfl⟩
    by_cases hg : 0 ≤ i
    · have HLQ : Hid (lngB c = true) := Lib.hid (by rw [HL.out, ← HM.out]; exact decide_eq_true hg)
      go_wp2_with fail
      go_ret
      exact ⟨by rw [HLQ.out]; rfl, rfl⟩
    · have HLQ : Hid (lngB c = false) := Lib.hid (by rw [HL.out, ← HM.out]; exact decide_eq_false hg)
      go_wp2_with fail
      go_ret
      exact ⟨by rw [HLQ.out]; rfl, rfl⟩
  · -- 48 ≤ n ∧ n ≤ 57
    have HL : Hid (lngB c = true) := Lib.hid (lng_digit (.inr (isDig_yes (by rw [← HN.out]; omega))))
    have a0 : ¬ (97 ≤ n) := by omega
    have a1 : (n ≤ 122) := by omega
    have a2 : ¬ (65 ≤ n) := by omega
    have a3 : (n ≤ 90) := by omega
    have a4 : (48 ≤ n) := by omega
    have a5 : (n ≤ 57) := by omega
    clear hi
    go_enter Try.func44, Try.ntmps44
    go_wp2_with fail
    go_ret
    exact ⟨by rw [HL.out]; rfl, rfl⟩
  · -- 57 < n ∧ n < 65
    have HL : Hid (lngB c = hasB lngL c) := Lib.hid (lng_other ⟨isLet_no (by rw [← HN.out]; omega), isDig_no (by rw [← HN.out]; omega)⟩)
    have a0 : ¬ (97 ≤ n) := by omega
    have a1 : (n ≤ 122) := by omega
    have a2 : ¬ (65 ≤ n) := by omega
    have a3 : (n ≤ 90) := by omega
    have a4 : (48 ≤ n) := by omega
    have a5 : ¬ (n ≤ 57) := by omega
    clear hi
    go_enter Try.func44, Try.ntmps44
    go_wp2_with fail
    refine HI.out.mono ?_
    rintro e w1 ⟨rfl, rfl⟩
    by_cases hg : 0 ≤ i
    · have HLQ : Hid (lngB c = true) := Lib.hid (by rw [HL.out, ← HM.out]; exact decide_eq_true hg)
      go_wp2_with fail
      go_ret
      exact ⟨by rw [HLQ.out]; rfl, rfl⟩
    · have HLQ : Hid (lngB c = false) := Lib.hid (by rw [HL.out, ← HM.out]; exact decide_eq_false hg)
      go_wp2_with fail
      go_ret
      exact ⟨by rw [HLQ.out]; rfl, rfl⟩
  · -- 65 ≤ n ∧ n ≤ 90
    have HL : Hid (lngB c = true) := Lib.hid (lng_digit (.inl (isLet_yes (by rw [← HN.out]; omega))))
    have a0 : ¬ (97 ≤ n) := by omega
    have a1 : (n ≤ 122) := by omega
    have a2 : (65 ≤ n) := by omega
    have a3 : (n ≤ 90) := by omega
    have a4 : (48 ≤ n) := by omega
    have a5 : ¬ (n ≤ 57) := by omega
    clear hi
    go_enter Try.func44, Try.ntmps44
    go_wp2_with fail
    go_ret
    exact ⟨by rw [HL.out]; rfl, rfl⟩
  · -- 90 < n ∧ n < 97
    have HL : Hid (lngB c = hasB lngL c) := Lib.hid (lng_other ⟨isLet_no (by rw [← HN.out]; omega), isDig_no (by rw [← HN.out]; omega)⟩)
    have a0 : ¬ (97 ≤ n) := by omega
    have a1 : (n ≤ 122) := by omega
    have a2 : (65 ≤ n) := by omega
    have a3 : ¬ (n ≤ 90) := by omega
    have a4 : (48 ≤ n) := by omega
    have a5 : ¬ (n ≤ 57) := by omega
    clear hi
    go_enter Try.func44, Try.ntmps44
    go_wp2_with fail
    refine HI.out.mono ?_
    rintro e w1 ⟨rfl, rfl⟩
    by_cases hg : 0 ≤ i
    · have HLQ : Hid (lngB c = true) := Lib.hid (by rw [HL.out, ← HM.out]; exact decide_eq_true hg)
      go_wp2_with fail
      go_ret
      exact ⟨by rw [HLQ.out]; rfl, rfl⟩
    · have HLQ : Hid (lngB c = false) := Lib.hid (by rw [HL.out, ← HM.out]; exact decide_eq_false hg)
      go_wp2_with fail
      go_ret
      exact ⟨by rw [HLQ.out]; rfl, rfl⟩
  · -- 97 ≤ n ∧ n ≤ 122
    have HL : Hid (lngB c = true) := Lib.hid (lng_digit (.inl (isLet_yes (by rw [← HN.out]; omega))))
    have a0 : (97 ≤ n) := by omega
    have a1 : (n ≤ 122) := by omega
    have a2 : (65 ≤ n) := by omega
    have a3 : ¬ (n ≤ 90) := by omega
    have a4 : (48 ≤ n) := by omega
    have a5 : ¬ (n ≤ 57) := by omega
    clear hi
    go_enter Try.func44, Try.ntmps44
    go_wp2_with fail
    go_ret
    exact ⟨by rw [HL.out]; rfl, rfl⟩
  · -- 122 < n
    have HL : Hid (lngB c = hasB lngL c) := Lib.hid (lng_other ⟨isLet_no (by rw [← HN.out]; omega), isDig_no (by rw [← HN.out]; omega)⟩)
    have a0 : (97 ≤ n) := by omega
    have a1 : ¬ (n ≤ 122) := by omega
    have a2 : (65 ≤ n) := by omega
    have a3 : ¬ (n ≤ 90) := by omega
    have a4 : (48 ≤ n) := by omega
    have a5 : ¬ (n ≤ 57) := by omega
    clear hi
    go_enter Try.func44, Try.ntmps44
    go_wp2_with fail
    refine HI.out.mono ?_
    rintro e w1 ⟨rfl, rfl⟩
    by_cases hg : 0 ≤ i
    · have HLQ : Hid (lngB c = true) := Lib.hid (by rw [HL.out, ← HM.out]; exact decide_eq_true hg)
      go_wp2_with fail
      go_ret
      exact ⟨by rw [HLQ.out]; rfl, rfl⟩
    · have HLQ : Hid (lngB c = false) := Lib.hid (by rw [HL.out, ← HM.out]; exact decide_eq_false hg)
      go_wp2_with fail
      go_ret
      exact ⟨by rw [HLQ.out]; rfl, rfl⟩

/-! has -/
theorem any_take_snoc (s : ByteArray) (p : UInt8 → Bool) (k : Nat) (h : k < s.size) : (s.data.toList.take (k + 1)).any p = ((s.data.toList.take k).any p || p s[k]) := by
  rw [take_snoc s k h, List.any_append]
  simp

theorem any_hit (s : ByteArray) (p : UInt8 → Bool) (k : Nat) (h : k < s.size) (hp : p s[k] = true) : s.data.toList.any p = true := by
  rw [List.any_eq_true]
  exact ⟨s[k], List.mem_of_getElem? (Lib.data_getElem? s k h), hp⟩

theorem has_any (f : FuncId) (p : UInt8 → Bool) (henter : Enters Try.prog f) (hf : ∀ (c : UInt8) (W : World), Calls Try.prog f #[.int .u8 c.toNat] W fun e w' => e = .returned (.bool (p c)) ∧ w' = W) (s : ByteArray) (hs : s.size ≤ 1073741824) (w : World) :
    Calls Try.prog 41 #[.string s, .func (.func f) #[] #[]] w fun e w' => e = .returned (.bool (s.data.toList.any p)) ∧ w' = w := by
  obtain ⟨R, hR⟩ : ∃ R, R = s.data.toList.any p := ⟨_, rfl⟩
  rw [← hR]
  have HR := Lib.hid hR
  clear hR
  have HF := Lib.hid hf
  clear hf
  go_enter Try.func41, Try.ntmps41
  go_wp2
  go_loop [8] (fun i => ∃ k : Nat, k ≤ s.size ∧ i = .int .i64 k ∧ Hid ((s.data.toList.take k).any p = false)) (fun i => s.size - (intOf i).toNat)
  case atStart => exact ⟨0, Nat.zero_le _, rfl, Lib.hid rfl⟩
  case round =>
    obtain ⟨k, hk, rfl, HN⟩ := hrel
    by_cases hlt : k < s.size
    · have hc := HF.out s[k] w
      obtain ⟨q, hq⟩ : ∃ q, q = p s[k] := ⟨_, rfl⟩
      rw [← hq] at hc
      have HC := Lib.hid hc
      have HNX := Lib.hid (any_take_snoc s p k hlt)
      have HH := Lib.hid (any_hit s p k hlt)
      have HQ := Lib.hid hq
      clear hc hq
      cases q with
      | true =>
        have HRT : Hid (R = true) := Lib.hid (HR.out.trans (HH.out HQ.out.symm))
        go_wp2_with (first | (refine wpList_callv rfl (.tmp 11) _ _ rfl f #[] rfl #[.int .u8 s[k].toNat] (by simp [go_sem]) henter HC.out ?_; rintro e w1 ⟨rfl, rfl⟩; refine ⟨_, rfl, ?_⟩) | fail)
        go_ret
        exact ⟨by rw [HRT.out]; rfl, rfl⟩
      | false =>
        have HN2 : Hid ((s.data.toList.take (k + 1)).any p = false) := Lib.hid (by rw [HNX.out, HN.out, ← HQ.out]; rfl)
        go_wp2_with (first | (refine wpList_callv rfl (.tmp 11) _ _ rfl f #[] rfl #[.int .u8 s[k].toNat] (by simp [go_sem]) henter HC.out ?_; rintro e w1 ⟨rfl, rfl⟩; refine ⟨_, rfl, ?_⟩) | fail)
        go_round
        case rel => exact ⟨k + 1, by omega, by go_num, HN2⟩
        case measure => simp [intOf]; omega
    · have HRF : Hid (R = false) := Lib.hid (by rw [HR.out, ← HN.out, List.take_of_length_le (by rw [size_data]; omega)])
      go_wp2
      go_ret
      exact ⟨by rw [HRF.out]; rfl, rfl⟩

theorem Try.ent_control : Enters Try.prog 42 := enters_of Try.func42 (by kernel_rfl) rfl

theorem Try.ent_risky : Enters Try.prog 43 := enters_of Try.func43 (by kernel_rfl) rfl

theorem Try.ent_foreign : Enters Try.prog 44 := enters_of Try.func44 (by kernel_rfl) rfl

end Go.Proofs.Ytfgpcajjnpmoeaa
