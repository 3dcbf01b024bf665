/- The reference's runeAt, Broken and UTF8: each to the plain one. -/
import Derived.Shelf.Unicode.ValidAny
import Derived.Laws.BitsLemmas
import Derived.Test.YtnecjofgjbfheaaGreatDoorProg
import Derived.Test.YtnecjofgjbfheaaGreatDoorKit
import Derived.Test.YtnecjofgjbfheaaGreatDoorRow
import Derived.Test.YtnecjofgjbfheaaGreatDoorPct3
import Derived.Test.YtnecjofgjbfheaaGreatDoorPct5
namespace Go.Proofs.YtnecjofgjbfheaaGreatDoor
open Go.RowKit Go.Proofs
set_option maxRecDepth 100000

theorem and192 (c : UInt8) : bits .and .u8 (c.toNat : Int) 192 = ((c.toNat / 64 * 64 : Nat) : Int) := by
  have h : ∀ n : Fin 256, bits .and .u8 (n.val : Int) 192 = ((n.val / 64 * 64 : Nat) : Int) := by decide +kernel
  exact h ⟨c.toNat, c.toNat_lt⟩

theorem and63 (c : UInt8) : bits .and .u8 (c.toNat : Int) 63 = ((c.toNat % 64 : Nat) : Int) := by
  have h : ∀ n : Fin 256, bits .and .u8 (n.val : Int) 63 = ((n.val % 64 : Nat) : Int) := by decide +kernel
  exact h ⟨c.toNat, c.toNat_lt⟩

theorem wraps_i64 (n : Int) (h₀ : 0 ≤ n) (h₁ : n < 2 ^ 63) : IntKind.i64.wrap n = n := by rw [IntKind.wrap_i64]; omega

theorem mask_i64 (i : Nat) (hi : i ≤ 63) (x : Nat) (hx : x < 9223372036854775808) : bits .and .i64 (x : Int) (2 ^ i - 1) = ((x % 2 ^ i : Nat) : Int) := by
  have h63 : (2 : Int) ^ 63 = 9223372036854775808 := by decide
  rw [bits_mask .i64 63 (by decide) wraps_i64 i hi (x : Int) (by omega) (by rw [h63]; omega)]
  push_cast
  rfl

theorem or64r (U r : Nat) (hU : U < 100000000) (hr : r < 64) : bits .or .i64 ((U : Int) * 64) (r : Int) = (U : Int) * 64 + (r : Int) := by
  have h63 : (2 : Int) ^ 63 = 9223372036854775808 := by decide
  have h6 : (2 : Int) ^ 6 = 64 := by decide
  exact bits_join .i64 63 (by decide) wraps_i64 6 _ _ (by omega) (by rw [h6]; omega) (by rw [h63]; omega) (by omega) (by rw [h6]; omega) (by rw [h63]; omega)

set_option maxRecDepth 100000 in
set_option maxHeartbeats 4000000 in
theorem rune_any (s : ByteArray) (h0 : 0 < s.size) (w : World) :
    Calls Tryz.prog 126 #[.string s] w fun e w' => e = .returned (.int .i64 (runeL s.data.toList)) ∧ w' = w := by
  have g0 := getD_at s 0 h0
  have hc256 := s[0].toNat_lt
  have h0z : (0 : Int) < (s.size : Int) := by omega
  by_cases a1 : s[0].toNat < 128
  · rw [rune_one (by rw [g0]; exact a1)]
    have a1z : (s[0].toNat : Int) < 128 := by omega
    clear g0
    go_enter Tryz.func126, Tryz.ntmps126
    go_wp2
    go_ret
    exact ⟨rfl, rfl⟩
  have a1z : ¬ (s[0].toNat : Int) < 128 := by omega
  by_cases a2 : 194 ≤ s[0].toNat
  · have a2z : (194 : Int) ≤ (s[0].toNat : Int) := by omega
    by_cases a3 : s[0].toNat < 224
    · have a3z : (s[0].toNat : Int) < 224 := by omega
      have e0 : bits .and .i64 (s[0].toNat : Int) 31 = ((s[0].toNat % 32 : Nat) : Int) := by have := mask_i64 5 (by decide) s[0].toNat (by omega); simpa using this
      have HR := Lib.hid (rune_two (l := s.data.toList) (by rw [g0]; exact a2) (by rw [g0]; exact a3))
      rw [g0] at HR
      by_cases hn : s.size < 2
      · have hnz : (s.size : Int) < 2 := by omega
        have hr : runeL s.data.toList = 0 := by rw [HR.out, if_pos (.inl (by rw [size_data]; exact hn))]
        rw [hr]
        clear hr HR g0
        go_enter Tryz.func126, Tryz.ntmps126
        go_wp2
        go_ret
        exact ⟨rfl, rfl⟩
      · have hnz : ¬ (s.size : Int) < 2 := by omega
        obtain ⟨m0, hm0⟩ : ∃ m0, m0 = s[0].toNat % 32 := ⟨_, rfl⟩
        have hm0b : m0 < 32 := by omega
        rw [← hm0] at e0 HR
        clear hm0 g0
        go_enter Tryz.func126, Tryz.ntmps126
        go_wp2
        go_loopw [5, 7] (fun u i wr => ∃ j : Nat, j + 1 ≤ 2 ∧ i = .int .i64 ((j + 1 : Nat) : Int) ∧ u = .int .i64 (uL m0 s.data.toList j : Int) ∧ Hid (∀ q, 1 ≤ q → q ≤ j → contN (s.data.toList.getD q 0).toNat) ∧ Hid (uL m0 s.data.toList j < 32 * 64 ^ j) ∧ wr = w) (fun _ i _ => 2 - (intOf i).toNat)
        case atStart => exact ⟨0, by omega, rfl, rfl, Lib.hid (fun q h1 h2 => by omega), Lib.hid (by simpa [uL] using hm0b), rfl⟩
        case round =>
          obtain ⟨j, hj, rfl, rfl, HCO, HU, rfl⟩ := hrel
          by_cases hlt : j + 1 < 2
          · have hjs : j + 1 < s.size := by omega
            have gj := getD_at s (j + 1) hjs
            have hx256 := s[j + 1].toNat_lt
            have e1 : bits .and .u8 (s[j + 1].toNat : Int) 192 = ((s[j + 1].toNat / 64 * 64 : Nat) : Int) := and192 _
            have e2 : bits .and .u8 (s[j + 1].toNat : Int) 63 = ((s[j + 1].toNat % 64 : Nat) : Int) := and63 _
            obtain ⟨d, hd⟩ : ∃ d, d = s[j + 1].toNat / 64 * 64 := ⟨_, rfl⟩
            obtain ⟨r, hr⟩ : ∃ r, r = s[j + 1].toNat % 64 := ⟨_, rfl⟩
            rw [← hd] at e1
            rw [← hr] at e2
            have hr64 : r < 64 := by omega
            obtain ⟨U, hUe⟩ : ∃ U, U = uL m0 s.data.toList j := ⟨_, rfl⟩
            have HUS : Hid (uL m0 s.data.toList (j + 1) = U * 64 + r) := Lib.hid (by rw [uL_succ, gj, ← hUe, ← hr])
            have hU := HU.out
            rw [← hUe] at hU ⊢
            have hj3 : j = 0 ∨ j = 1 ∨ j = 2 := by omega
            have hUb : U < 16777216 := by rcases hj3 with rfl | rfl | rfl <;> simp at hU <;> omega
            have HU2 : Hid (U * 64 + r < 32 * 64 ^ (j + 1)) := Lib.hid (by
              rw [Nat.pow_succ]
              have : U + 1 ≤ 32 * 64 ^ j := hU
              have := Nat.mul_le_mul_right 64 this
              rw [Nat.mul_assoc] at this
              omega)
            have e3 : bits .or .i64 ((U : Int) * 64) (r : Int) = (U : Int) * 64 + (r : Int) := or64r U r (by omega) hr64
            by_cases hc : d = 128
            · have hcz : ((d : Int) == 128) = true := beq_iff_eq.2 (by omega)
              have hcz2 : ((d : Int) != 128) = false := by simp [hc]
              have hcon : contN s[j + 1].toNat := ⟨by omega, by omega⟩
              have HCO2 : Hid (∀ q, 1 ≤ q → q ≤ j + 1 → contN (s.data.toList.getD q 0).toNat) := Lib.hid (fun q h1 h2 => by
                rcases Nat.lt_or_ge q (j + 1) with h | h
                · exact HCO.out q h1 (by omega)
                · have : q = j + 1 := by omega
                  subst this
                  rw [gj]
                  exact hcon)
              clear hcon hd hr gj hU hUe hj3 HU HCO hx256 hc
              go_wp2
              go_roundw
              case rel => exact ⟨j + 1, by omega, by go_num, by rw [HUS.out]; go_num, HCO2, by rw [HUS.out]; exact HU2, by first | rfl | trivial⟩
              case measure => simp [intOf]; omega
            · have hcz : ((d : Int) == 128) = false := beq_eq_false_iff_ne.2 (by omega)
              have hncon : ¬ contN (s.data.toList.getD (j + 1) 0).toNat := by
                rw [gj]
                intro h
                apply hc
                unfold contN at h
                omega
              have hz : runeL s.data.toList = 0 := by
                rw [HR.out]
                refine if_pos (.inr ?_)
                rcases hj3 with rfl | rfl | rfl <;> first | exact hncon | (exfalso; omega)
              have HZ := Lib.hid hz
              clear hz hncon hd hr gj hU hUe hj3 HU HCO hx256 HR hc HUS HU2
              go_wp2
              go_ret
              exact ⟨ret_int (by rw [HZ.out]; rfl), rfl⟩
          · have hjN : j = 1 := by omega
            subst hjN
            have hall := HCO.out
            have hnb : ¬ (s.data.toList.length < 2 ∨ ¬ contN (s.data.toList.getD 1 0).toNat) := by
              rw [size_data]
              rintro (h | h)
              · exact hn h
              · exact h (hall 1 (by omega) (by omega))
            have hr := HR.out
            rw [if_neg hnb] at hr
            have hU := HU.out
            obtain ⟨U, hUe⟩ : ∃ U, U = uL m0 s.data.toList 1 := ⟨_, rfl⟩
            rw [← hUe] at hr hU ⊢
            clear hnb hall HCO HR HU hUe
            by_cases b1 : U < 128
            · rw [if_pos (.inl b1)] at hr
              have HZ := Lib.hid hr
              have b1z : (U : Int) < 128 := by omega
              clear hr
              go_wp2
              go_ret
              exact ⟨ret_int (by rw [HZ.out]; rfl), rfl⟩
            · have b1z : ¬ (U : Int) < 128 := by omega
              by_cases b2 : 1114111 < U
              · rw [if_pos (.inr (.inl b2))] at hr
                have HZ := Lib.hid hr
                have b2z : (1114111 : Int) < (U : Int) := by omega
                clear hr
                go_wp2
                go_ret
                exact ⟨ret_int (by rw [HZ.out]; rfl), rfl⟩
              · have b2z : ¬ (1114111 : Int) < (U : Int) := by omega
                by_cases b3 : 55296 ≤ U
                · have b3z : (55296 : Int) ≤ (U : Int) := by omega
                  by_cases b4 : U ≤ 57343
                  · rw [if_pos (.inr (.inr ⟨b3, b4⟩))] at hr
                    have HZ := Lib.hid hr
                    have b4z : (U : Int) ≤ 57343 := by omega
                    clear hr
                    go_wp2
                    go_ret
                    exact ⟨ret_int (by rw [HZ.out]; rfl), rfl⟩
                  · rw [if_neg (by intro h; rcases h with h | h | h <;> omega)] at hr
                    have HZ := Lib.hid hr
                    have b4z : ¬ (U : Int) ≤ 57343 := by omega
                    clear hr
                    go_wp2
                    go_ret
                    exact ⟨ret_int (by rw [HZ.out]; rfl), rfl⟩
                · rw [if_neg (by intro h; rcases h with h | h | h <;> omega)] at hr
                  have HZ := Lib.hid hr
                  have b3z : ¬ (55296 : Int) ≤ (U : Int) := by omega
                  clear hr
                  go_wp2
                  go_ret
                  exact ⟨ret_int (by rw [HZ.out]; rfl), rfl⟩
    have a3z : ¬ (s[0].toNat : Int) < 224 := by omega
    have a4z : (224 : Int) ≤ (s[0].toNat : Int) := by omega
    by_cases a5 : s[0].toNat < 240
    · have a5z : (s[0].toNat : Int) < 240 := by omega
      have e0 : bits .and .i64 (s[0].toNat : Int) 15 = ((s[0].toNat % 16 : Nat) : Int) := by have := mask_i64 4 (by decide) s[0].toNat (by omega); simpa using this
      have HR := Lib.hid (rune_three (l := s.data.toList) (by rw [g0]; exact (by omega)) (by rw [g0]; exact a5))
      rw [g0] at HR
      by_cases hn : s.size < 3
      · have hnz : (s.size : Int) < 3 := by omega
        have hr : runeL s.data.toList = 0 := by rw [HR.out, if_pos (.inl (by rw [size_data]; exact hn))]
        rw [hr]
        clear hr HR g0
        go_enter Tryz.func126, Tryz.ntmps126
        go_wp2
        go_ret
        exact ⟨rfl, rfl⟩
      · have hnz : ¬ (s.size : Int) < 3 := by omega
        obtain ⟨m0, hm0⟩ : ∃ m0, m0 = s[0].toNat % 16 := ⟨_, rfl⟩
        have hm0b : m0 < 16 := by omega
        rw [← hm0] at e0 HR
        clear hm0 g0
        go_enter Tryz.func126, Tryz.ntmps126
        go_wp2
        go_loopw [5, 7] (fun u i wr => ∃ j : Nat, j + 1 ≤ 3 ∧ i = .int .i64 ((j + 1 : Nat) : Int) ∧ u = .int .i64 (uL m0 s.data.toList j : Int) ∧ Hid (∀ q, 1 ≤ q → q ≤ j → contN (s.data.toList.getD q 0).toNat) ∧ Hid (uL m0 s.data.toList j < 16 * 64 ^ j) ∧ wr = w) (fun _ i _ => 3 - (intOf i).toNat)
        case atStart => exact ⟨0, by omega, rfl, rfl, Lib.hid (fun q h1 h2 => by omega), Lib.hid (by simpa [uL] using hm0b), rfl⟩
        case round =>
          obtain ⟨j, hj, rfl, rfl, HCO, HU, rfl⟩ := hrel
          by_cases hlt : j + 1 < 3
          · have hjs : j + 1 < s.size := by omega
            have gj := getD_at s (j + 1) hjs
            have hx256 := s[j + 1].toNat_lt
            have e1 : bits .and .u8 (s[j + 1].toNat : Int) 192 = ((s[j + 1].toNat / 64 * 64 : Nat) : Int) := and192 _
            have e2 : bits .and .u8 (s[j + 1].toNat : Int) 63 = ((s[j + 1].toNat % 64 : Nat) : Int) := and63 _
            obtain ⟨d, hd⟩ : ∃ d, d = s[j + 1].toNat / 64 * 64 := ⟨_, rfl⟩
            obtain ⟨r, hr⟩ : ∃ r, r = s[j + 1].toNat % 64 := ⟨_, rfl⟩
            rw [← hd] at e1
            rw [← hr] at e2
            have hr64 : r < 64 := by omega
            obtain ⟨U, hUe⟩ : ∃ U, U = uL m0 s.data.toList j := ⟨_, rfl⟩
            have HUS : Hid (uL m0 s.data.toList (j + 1) = U * 64 + r) := Lib.hid (by rw [uL_succ, gj, ← hUe, ← hr])
            have hU := HU.out
            rw [← hUe] at hU ⊢
            have hj3 : j = 0 ∨ j = 1 ∨ j = 2 := by omega
            have hUb : U < 16777216 := by rcases hj3 with rfl | rfl | rfl <;> simp at hU <;> omega
            have HU2 : Hid (U * 64 + r < 16 * 64 ^ (j + 1)) := Lib.hid (by
              rw [Nat.pow_succ]
              have : U + 1 ≤ 16 * 64 ^ j := hU
              have := Nat.mul_le_mul_right 64 this
              rw [Nat.mul_assoc] at this
              omega)
            have e3 : bits .or .i64 ((U : Int) * 64) (r : Int) = (U : Int) * 64 + (r : Int) := or64r U r (by omega) hr64
            by_cases hc : d = 128
            · have hcz : ((d : Int) == 128) = true := beq_iff_eq.2 (by omega)
              have hcz2 : ((d : Int) != 128) = false := by simp [hc]
              have hcon : contN s[j + 1].toNat := ⟨by omega, by omega⟩
              have HCO2 : Hid (∀ q, 1 ≤ q → q ≤ j + 1 → contN (s.data.toList.getD q 0).toNat) := Lib.hid (fun q h1 h2 => by
                rcases Nat.lt_or_ge q (j + 1) with h | h
                · exact HCO.out q h1 (by omega)
                · have : q = j + 1 := by omega
                  subst this
                  rw [gj]
                  exact hcon)
              clear hcon hd hr gj hU hUe hj3 HU HCO hx256 hc
              go_wp2
              go_roundw
              case rel => exact ⟨j + 1, by omega, by go_num, by rw [HUS.out]; go_num, HCO2, by rw [HUS.out]; exact HU2, by first | rfl | trivial⟩
              case measure => simp [intOf]; omega
            · have hcz : ((d : Int) == 128) = false := beq_eq_false_iff_ne.2 (by omega)
              have hncon : ¬ contN (s.data.toList.getD (j + 1) 0).toNat := by
                rw [gj]
                intro h
                apply hc
                unfold contN at h
                omega
              have hz : runeL s.data.toList = 0 := by
                rw [HR.out]
                refine if_pos (.inr ?_)
                rcases hj3 with rfl | rfl | rfl <;> first | exact .inl hncon | exact .inr hncon | (exfalso; omega)
              have HZ := Lib.hid hz
              clear hz hncon hd hr gj hU hUe hj3 HU HCO hx256 HR hc HUS HU2
              go_wp2
              go_ret
              exact ⟨ret_int (by rw [HZ.out]; rfl), rfl⟩
          · have hjN : j = 2 := by omega
            subst hjN
            have hall := HCO.out
            have hnb : ¬ (s.data.toList.length < 3 ∨ ¬ contN (s.data.toList.getD 1 0).toNat ∨ ¬ contN (s.data.toList.getD 2 0).toNat) := by
              rw [size_data]
              rintro (h | h | h)
              · exact hn h
              · exact h (hall 1 (by omega) (by omega))
              · exact h (hall 2 (by omega) (by omega))
            have hr := HR.out
            rw [if_neg hnb] at hr
            have hU := HU.out
            obtain ⟨U, hUe⟩ : ∃ U, U = uL m0 s.data.toList 2 := ⟨_, rfl⟩
            rw [← hUe] at hr hU ⊢
            clear hnb hall HCO HR HU hUe
            by_cases b1 : U < 2048
            · rw [if_pos (.inl b1)] at hr
              have HZ := Lib.hid hr
              have b1z : (U : Int) < 2048 := by omega
              clear hr
              go_wp2
              go_ret
              exact ⟨ret_int (by rw [HZ.out]; rfl), rfl⟩
            · have b1z : ¬ (U : Int) < 2048 := by omega
              by_cases b2 : 1114111 < U
              · rw [if_pos (.inr (.inl b2))] at hr
                have HZ := Lib.hid hr
                have b2z : (1114111 : Int) < (U : Int) := by omega
                clear hr
                go_wp2
                go_ret
                exact ⟨ret_int (by rw [HZ.out]; rfl), rfl⟩
              · have b2z : ¬ (1114111 : Int) < (U : Int) := by omega
                by_cases b3 : 55296 ≤ U
                · have b3z : (55296 : Int) ≤ (U : Int) := by omega
                  by_cases b4 : U ≤ 57343
                  · rw [if_pos (.inr (.inr ⟨b3, b4⟩))] at hr
                    have HZ := Lib.hid hr
                    have b4z : (U : Int) ≤ 57343 := by omega
                    clear hr
                    go_wp2
                    go_ret
                    exact ⟨ret_int (by rw [HZ.out]; rfl), rfl⟩
                  · rw [if_neg (by intro h; rcases h with h | h | h <;> omega)] at hr
                    have HZ := Lib.hid hr
                    have b4z : ¬ (U : Int) ≤ 57343 := by omega
                    clear hr
                    go_wp2
                    go_ret
                    exact ⟨ret_int (by rw [HZ.out]; rfl), rfl⟩
                · rw [if_neg (by intro h; rcases h with h | h | h <;> omega)] at hr
                  have HZ := Lib.hid hr
                  have b3z : ¬ (55296 : Int) ≤ (U : Int) := by omega
                  clear hr
                  go_wp2
                  go_ret
                  exact ⟨ret_int (by rw [HZ.out]; rfl), rfl⟩
    have a5z : ¬ (s[0].toNat : Int) < 240 := by omega
    have a6z : (240 : Int) ≤ (s[0].toNat : Int) := by omega
    by_cases a7 : s[0].toNat < 245
    · have a7z : (s[0].toNat : Int) < 245 := by omega
      have e0 : bits .and .i64 (s[0].toNat : Int) 7 = ((s[0].toNat % 8 : Nat) : Int) := by have := mask_i64 3 (by decide) s[0].toNat (by omega); simpa using this
      have HR := Lib.hid (rune_four (l := s.data.toList) (by rw [g0]; exact (by omega)) (by rw [g0]; exact a7))
      rw [g0] at HR
      by_cases hn : s.size < 4
      · have hnz : (s.size : Int) < 4 := by omega
        have hr : runeL s.data.toList = 0 := by rw [HR.out, if_pos (.inl (by rw [size_data]; exact hn))]
        rw [hr]
        clear hr HR g0
        go_enter Tryz.func126, Tryz.ntmps126
        go_wp2
        go_ret
        exact ⟨rfl, rfl⟩
      · have hnz : ¬ (s.size : Int) < 4 := by omega
        obtain ⟨m0, hm0⟩ : ∃ m0, m0 = s[0].toNat % 8 := ⟨_, rfl⟩
        have hm0b : m0 < 8 := by omega
        rw [← hm0] at e0 HR
        clear hm0 g0
        go_enter Tryz.func126, Tryz.ntmps126
        go_wp2
        go_loopw [5, 7] (fun u i wr => ∃ j : Nat, j + 1 ≤ 4 ∧ i = .int .i64 ((j + 1 : Nat) : Int) ∧ u = .int .i64 (uL m0 s.data.toList j : Int) ∧ Hid (∀ q, 1 ≤ q → q ≤ j → contN (s.data.toList.getD q 0).toNat) ∧ Hid (uL m0 s.data.toList j < 8 * 64 ^ j) ∧ wr = w) (fun _ i _ => 4 - (intOf i).toNat)
        case atStart => exact ⟨0, by omega, rfl, rfl, Lib.hid (fun q h1 h2 => by omega), Lib.hid (by simpa [uL] using hm0b), rfl⟩
        case round =>
          obtain ⟨j, hj, rfl, rfl, HCO, HU, rfl⟩ := hrel
          by_cases hlt : j + 1 < 4
          · have hjs : j + 1 < s.size := by omega
            have gj := getD_at s (j + 1) hjs
            have hx256 := s[j + 1].toNat_lt
            have e1 : bits .and .u8 (s[j + 1].toNat : Int) 192 = ((s[j + 1].toNat / 64 * 64 : Nat) : Int) := and192 _
            have e2 : bits .and .u8 (s[j + 1].toNat : Int) 63 = ((s[j + 1].toNat % 64 : Nat) : Int) := and63 _
            obtain ⟨d, hd⟩ : ∃ d, d = s[j + 1].toNat / 64 * 64 := ⟨_, rfl⟩
            obtain ⟨r, hr⟩ : ∃ r, r = s[j + 1].toNat % 64 := ⟨_, rfl⟩
            rw [← hd] at e1
            rw [← hr] at e2
            have hr64 : r < 64 := by omega
            obtain ⟨U, hUe⟩ : ∃ U, U = uL m0 s.data.toList j := ⟨_, rfl⟩
            have HUS : Hid (uL m0 s.data.toList (j + 1) = U * 64 + r) := Lib.hid (by rw [uL_succ, gj, ← hUe, ← hr])
            have hU := HU.out
            rw [← hUe] at hU ⊢
            have hj3 : j = 0 ∨ j = 1 ∨ j = 2 := by omega
            have hUb : U < 16777216 := by rcases hj3 with rfl | rfl | rfl <;> simp at hU <;> omega
            have HU2 : Hid (U * 64 + r < 8 * 64 ^ (j + 1)) := Lib.hid (by
              rw [Nat.pow_succ]
              have : U + 1 ≤ 8 * 64 ^ j := hU
              have := Nat.mul_le_mul_right 64 this
              rw [Nat.mul_assoc] at this
              omega)
            have e3 : bits .or .i64 ((U : Int) * 64) (r : Int) = (U : Int) * 64 + (r : Int) := or64r U r (by omega) hr64
            by_cases hc : d = 128
            · have hcz : ((d : Int) == 128) = true := beq_iff_eq.2 (by omega)
              have hcz2 : ((d : Int) != 128) = false := by simp [hc]
              have hcon : contN s[j + 1].toNat := ⟨by omega, by omega⟩
              have HCO2 : Hid (∀ q, 1 ≤ q → q ≤ j + 1 → contN (s.data.toList.getD q 0).toNat) := Lib.hid (fun q h1 h2 => by
                rcases Nat.lt_or_ge q (j + 1) with h | h
                · exact HCO.out q h1 (by omega)
                · have : q = j + 1 := by omega
                  subst this
                  rw [gj]
                  exact hcon)
              clear hcon hd hr gj hU hUe hj3 HU HCO hx256 hc
              go_wp2
              go_roundw
              case rel => exact ⟨j + 1, by omega, by go_num, by rw [HUS.out]; go_num, HCO2, by rw [HUS.out]; exact HU2, by first | rfl | trivial⟩
              case measure => simp [intOf]; omega
            · have hcz : ((d : Int) == 128) = false := beq_eq_false_iff_ne.2 (by omega)
              have hncon : ¬ contN (s.data.toList.getD (j + 1) 0).toNat := by
                rw [gj]
                intro h
                apply hc
                unfold contN at h
                omega
              have hz : runeL s.data.toList = 0 := by
                rw [HR.out]
                refine if_pos (.inr ?_)
                rcases hj3 with rfl | rfl | rfl <;> first | exact .inl hncon | exact .inr (.inl hncon) | exact .inr (.inr hncon) | (exfalso; omega)
              have HZ := Lib.hid hz
              clear hz hncon hd hr gj hU hUe hj3 HU HCO hx256 HR hc HUS HU2
              go_wp2
              go_ret
              exact ⟨ret_int (by rw [HZ.out]; rfl), rfl⟩
          · have hjN : j = 3 := by omega
            subst hjN
            have hall := HCO.out
            have hnb : ¬ (s.data.toList.length < 4 ∨ ¬ contN (s.data.toList.getD 1 0).toNat ∨ ¬ contN (s.data.toList.getD 2 0).toNat ∨ ¬ contN (s.data.toList.getD 3 0).toNat) := by
              rw [size_data]
              rintro (h | h | h | h)
              · exact hn h
              · exact h (hall 1 (by omega) (by omega))
              · exact h (hall 2 (by omega) (by omega))
              · exact h (hall 3 (by omega) (by omega))
            have hr := HR.out
            rw [if_neg hnb] at hr
            have hU := HU.out
            obtain ⟨U, hUe⟩ : ∃ U, U = uL m0 s.data.toList 3 := ⟨_, rfl⟩
            rw [← hUe] at hr hU ⊢
            clear hnb hall HCO HR HU hUe
            by_cases b1 : U < 65536
            · rw [if_pos (.inl b1)] at hr
              have HZ := Lib.hid hr
              have b1z : (U : Int) < 65536 := by omega
              clear hr
              go_wp2
              go_ret
              exact ⟨ret_int (by rw [HZ.out]; rfl), rfl⟩
            · have b1z : ¬ (U : Int) < 65536 := by omega
              by_cases b2 : 1114111 < U
              · rw [if_pos (.inr (.inl b2))] at hr
                have HZ := Lib.hid hr
                have b2z : (1114111 : Int) < (U : Int) := by omega
                clear hr
                go_wp2
                go_ret
                exact ⟨ret_int (by rw [HZ.out]; rfl), rfl⟩
              · have b2z : ¬ (1114111 : Int) < (U : Int) := by omega
                by_cases b3 : 55296 ≤ U
                · have b3z : (55296 : Int) ≤ (U : Int) := by omega
                  by_cases b4 : U ≤ 57343
                  · rw [if_pos (.inr (.inr ⟨b3, b4⟩))] at hr
                    have HZ := Lib.hid hr
                    have b4z : (U : Int) ≤ 57343 := by omega
                    clear hr
                    go_wp2
                    go_ret
                    exact ⟨ret_int (by rw [HZ.out]; rfl), rfl⟩
                  · rw [if_neg (by intro h; rcases h with h | h | h <;> omega)] at hr
                    have HZ := Lib.hid hr
                    have b4z : ¬ (U : Int) ≤ 57343 := by omega
                    clear hr
                    go_wp2
                    go_ret
                    exact ⟨ret_int (by rw [HZ.out]; rfl), rfl⟩
                · rw [if_neg (by intro h; rcases h with h | h | h <;> omega)] at hr
                  have HZ := Lib.hid hr
                  have b3z : ¬ (55296 : Int) ≤ (U : Int) := by omega
                  clear hr
                  go_wp2
                  go_ret
                  exact ⟨ret_int (by rw [HZ.out]; rfl), rfl⟩
    have a7z : ¬ (s[0].toNat : Int) < 245 := by omega
    rw [rune_none (by rw [g0]; omega) (by rw [g0]; omega)]
    clear g0
    go_enter Tryz.func126, Tryz.ntmps126
    go_wp2
    go_ret
    exact ⟨rfl, rfl⟩
  · have a2z : ¬ (194 : Int) ≤ (s[0].toNat : Int) := by omega
    have a4z : ¬ (224 : Int) ≤ (s[0].toNat : Int) := by omega
    have a6z : ¬ (240 : Int) ≤ (s[0].toNat : Int) := by omega
    rw [rune_none (by rw [g0]; omega) (by rw [g0]; omega)]
    clear g0
    go_enter Tryz.func126, Tryz.ntmps126
    go_wp2
    go_ret
    exact ⟨rfl, rfl⟩

theorem broken_any (s : ByteArray) (hs : s.size ≤ 1073741824) (w : World) :
    Calls Tryz.prog 104 #[.string s] w fun e w' => (∃ n : Nat, e = .returned (.int .i64 n) ∧ decide (n = s.size) = Lib.validD s.data.toList) ∧ w' = w := by
  go_enter Tryz.func104, Tryz.ntmps104
  go_wp2
  go_loopw [3] (fun i wr => ∃ n : Nat, n ≤ s.size ∧ i = .int .i64 n ∧ Hid (Lib.validD (s.data.toList.drop n) = Lib.validD s.data.toList) ∧ wr = w) (fun i _ => s.size - (intOf i).toNat)
  case atStart => exact ⟨0, Nat.zero_le _, rfl, Lib.hid rfl, rfl⟩
  case round =>
    obtain ⟨n, hn, rfl, HV, rfl⟩ := hrel
    by_cases hlt : n < s.size
    · obtain ⟨t, ht⟩ : ∃ t, t = s.extract n s.size := ⟨_, rfl⟩
      have htl : t.data.toList = s.data.toList.drop n := by rw [ht, extract_tail]
      have hts : t.size = s.size - n := by rw [← size_data, htl, List.length_drop, size_data]
      have hne : s.data.toList.drop n ≠ [] := by
        intro e
        have := congrArg List.length e
        rw [List.length_drop, size_data, List.length_nil] at this
        omega
      have hr := rune_any t (by omega) wr
      rw [htl] at hr
      have HST := Lib.hid (valid_step hne)
      have hle := rune_le _ hne
      rw [List.length_drop, size_data] at hle
      obtain ⟨q, hq⟩ : ∃ q, q = runeL (s.data.toList.drop n) := ⟨_, rfl⟩
      rw [← hq] at hr HST hle
      have hx : s.extract n s.size = t := ht.symm
      clear ht htl hts hne hq
      by_cases h0 : q = 0
      · subst h0
        go_wp2_with fail
        refine hr.mono ?_
        rintro e w1 ⟨rfl, rfl⟩
        go_wp2
        go_ret
        refine ⟨⟨n, rfl, ?_⟩, rfl⟩
        rw [← HV.out, HST.out]
        simp
        omega
      · have h0z : ((q : Int) == 0) = false := beq_eq_false_iff_ne.2 (by omega)
        go_wp2_with fail
        refine hr.mono ?_
        rintro e w1 ⟨rfl, rfl⟩
        go_wp2
        go_roundw
        case rel =>
          refine ⟨n + q, by omega, by go_num, Lib.hid ?_, by first | rfl | trivial⟩
          rw [← HV.out, HST.out, if_neg h0, List.drop_drop]
        case measure => simp [intOf]; omega
    · have hv := HV.out
      rw [List.drop_of_length_le (by rw [size_data]; omega), Lib.validD_nil] at hv
      have HVV := Lib.hid hv
      clear hv HV
      go_wp2
      go_ret
      exact ⟨⟨s.size, rfl, by rw [← HVV.out]; exact decide_eq_true rfl⟩, rfl⟩

theorem ref_utf8_any (s : ByteArray) (hs : s.size ≤ 1073741824) (w : World) :
    Calls Tryz.prog 79 #[.string s] w fun e w' => e = .returned (.bool (Lib.validD s.data.toList)) ∧ w' = w := by
  go_enter Tryz.func79, Tryz.ntmps79
  go_wp2_with fail
  refine (broken_any s hs _).mono ?_
  rintro e w1 ⟨⟨n, rfl, hd⟩, rfl⟩
  have HD := Lib.hid hd
  clear hd
  by_cases h : n = s.size
  · subst h
    have hz : ((s.size : Int) == (s.size : Int)) = true := by simp
    go_wp2
    go_ret
    exact ⟨ret_bool (by rw [← HD.out]; simp), rfl⟩
  · have hz : ((n : Int) == (s.size : Int)) = false := beq_eq_false_iff_ne.2 (by omega)
    have HN := Lib.hid h
    clear h
    go_wp2
    go_ret
    exact ⟨ret_bool (by rw [← HD.out]; exact (decide_eq_false HN.out).symm), rfl⟩

end Go.Proofs.YtnecjofgjbfheaaGreatDoor
