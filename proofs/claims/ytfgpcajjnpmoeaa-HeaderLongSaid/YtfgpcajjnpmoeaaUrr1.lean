/- The reference's reader of URLs in plain words. -/
import Derived.Lib.OthersKept
import Derived.Test.YtfgpcajjnpmoeaaProg
import Derived.Test.YtfgpcajjnpmoeaaKit
import Derived.Test.YtfgpcajjnpmoeaaAsc1
import Derived.Test.YtfgpcajjnpmoeaaRow
import Derived.Test.YtfgpcajjnpmoeaaUrl0
namespace Go.Proofs.Ytfgpcajjnpmoeaa
open Go.RowKit Go.Proofs

theorem up_at (of : List UInt8) (s : ByteArray) (k : Nat) (h : k < s.size) : (hasB of s[k] = true → (upL of (s.data.toList.drop k)).length = 0) ∧ (hasB of s[k] = false → (upL of (s.data.toList.drop k)).length = (upL of (s.data.toList.drop (k + 1))).length + 1) := by
  have hl : k < s.data.toList.length := by rw [size_data]; exact h
  have e : s.data.toList.drop k = s[k] :: s.data.toList.drop (k + 1) := by
    rw [List.drop_eq_getElem_cons hl]
    rfl
  rw [e]
  exact ⟨fun hh => by rw [up_hit hh]; rfl, fun hh => by rw [up_miss hh]; rfl⟩

theorem up_fin (of : List UInt8) (s : ByteArray) (k : Nat) (h : ¬ k < s.size) : (upL of (s.data.toList.drop k)).length = 0 := by
  rw [List.drop_of_length_le (by rw [size_data]; omega)]
  rfl

theorem rupto_any (s of : ByteArray) (hs : s.size ≤ 1073741824) (ho : of.size ≤ 1073741824) (w : World) :
    Calls Try.prog 39 #[.string s, .string of] w fun e w' => e = .returned (.int .i64 (upL of.data.toList s.data.toList).length) ∧ w' = w := by
  obtain ⟨K, hK⟩ : ∃ K, K = (upL of.data.toList s.data.toList).length := ⟨_, rfl⟩
  rw [← hK]
  go_enter Try.func39, Try.ntmps39
  go_wp2
  go_loop [5] (fun i => ∃ k : Nat, k ≤ s.size ∧ i = .int .i64 k ∧ Hid ((upL of.data.toList (s.data.toList.drop k)).length + k = K)) (fun i => s.size - (intOf i).toNat)
  case atStart => exact ⟨0, Nat.zero_le _, rfl, Lib.hid (by rw [hK]; rfl)⟩
  case round =>
    obtain ⟨k, hk, rfl, HN⟩ := hrel
    clear hK
    by_cases hlt : k < s.size
    · obtain ⟨h1, h2⟩ := up_at of.data.toList s k hlt
      have hh := ref_has_any of s[k] ho w
      cases hb : hasB of.data.toList s[k]
      · rw [hb] at hh
        have HF : Hid ((upL of.data.toList (s.data.toList.drop (k + 1))).length + (k + 1) = K) := Lib.hid (by have := h2 hb; have := HN.out; omega)
        have HH := Lib.hid hh
        clear h1 h2 hb hh
        go_wp2_with fail
        refine HH.out.mono ?_
        rintro e w1 ⟨rfl, rfl⟩
        go_wp2
        go_round
        case rel => exact ⟨k + 1, by omega, by go_num, HF⟩
        case measure => simp [intOf]; omega
      · rw [hb] at hh
        have HF : Hid (k = K) := Lib.hid (by have := h1 hb; have := HN.out; omega)
        have HH := Lib.hid hh
        clear h1 h2 hb hh
        go_wp2_with fail
        refine HH.out.mono ?_
        rintro e w1 ⟨rfl, rfl⟩
        go_wp2
        go_ret
        exact ⟨ret_int (by rw [HF.out]), rfl⟩
    · have HF : Hid ((s.size : Int) = (K : Int)) := Lib.hid (by have := up_fin of.data.toList s k hlt; have := HN.out; omega)
      go_wp2
      go_ret
      exact ⟨ret_int HF.out, rfl⟩

end Go.Proofs.Ytfgpcajjnpmoeaa
