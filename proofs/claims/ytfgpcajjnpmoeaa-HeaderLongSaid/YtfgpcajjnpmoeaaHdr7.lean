/- Contracts: which fields need no leave, the reference's. -/
import Derived.Test.YtfgpcajjnpmoeaaShelf
import Derived.BigQuiet
import Derived.Test.YtfgpcajjnpmoeaaProg
import Derived.Test.YtfgpcajjnpmoeaaKit
import Derived.Test.YtfgpcajjnpmoeaaPlain
import Derived.Test.YtfgpcajjnpmoeaaStr
import Derived.Test.YtfgpcajjnpmoeaaAsc1
import Derived.Test.YtfgpcajjnpmoeaaAsc4
import Derived.Test.YtfgpcajjnpmoeaaRow
import Derived.Test.YtfgpcajjnpmoeaaUrl4
import Derived.Test.YtfgpcajjnpmoeaaUrl9
import Derived.Test.YtfgpcajjnpmoeaaHdr0
import Derived.Test.YtfgpcajjnpmoeaaHdr1
import Derived.Test.YtfgpcajjnpmoeaaHdr3
import Derived.Test.YtfgpcajjnpmoeaaHdr4
import Derived.Test.YtfgpcajjnpmoeaaHdr5
namespace Go.Proofs.Ytfgpcajjnpmoeaa
open Go.RowKit Go.Proofs

theorem form_yes {E : ByteArray} (h : E = form1 ∨ E = form2 ∨ E = form3) : hasS [form1, form2, form3] E = true := (hasS_iff _ _).2 (by
  rcases h with rfl | rfl | rfl <;> simp)

theorem form_no {E : ByteArray} (h1 : E ≠ form1) (h2 : E ≠ form2) (h3 : E ≠ form3) : hasS [form1, form2, form3] E = false := by
  rw [Bool.eq_false_iff]
  intro h
  have := (hasS_iff _ _).1 h
  simp only [List.mem_cons, List.not_mem_nil, or_false] at this
  rcases this with h | h | h
  · exact h1 h
  · exact h2 h
  · exact h3 h

theorem rsimple_any (n v : ByteArray) (hn : n.size ≤ 1073741824) (hv : v.size ≤ 1073741824) (w : World) :
    Calls Try.prog 23 #[.agg #[.string n, .string v]] w fun e w' => e = .returned (.bool (simB n.data.toList v.data.toList)) ∧ Below w.heap.size w w' := by
  obtain ⟨R, hR⟩ : ∃ R, R = simB n.data.toList v.data.toList := ⟨_, rfl⟩
  rw [← hR]
  have hbox := box_two w n v 34
  by_cases hlong : v.size ≤ 128
  · have hli : ¬ 128 < (v.size : Int) := by omega
    obtain ⟨L, hL⟩ : ∃ L : ByteArray, L = ⟨(lowL n.data.toList).toArray⟩ := ⟨_, rfl⟩
    have hLl : L.data.toList = lowL n.data.toList := by rw [hL]
    have HL : Hid (∀ W, Calls Try.prog 38 #[.string n] W fun e w' => e = .returned (.string L) ∧ Below W.heap.size W w') := Lib.hid (fun W => by rw [hL]; exact ref_lower_any n hn W)
    obtain ⟨r, hr⟩ : ∃ r, r = v.data.toList.any rskB := ⟨_, rfl⟩
    obtain ⟨g, hg⟩ : ∃ g, g = v.data.toList.any (fun c => !lngB c) := ⟨_, rfl⟩
    obtain ⟨f, hf⟩ : ∃ f, f = formB v.data.toList := ⟨_, rfl⟩
    obtain ⟨E, hE⟩ : ∃ E : ByteArray, E = ⟨(essL v.data.toList).toArray⟩ := ⟨_, rfl⟩
    obtain ⟨b, hb⟩ : ∃ b, b = essB v.data.toList := ⟨_, rfl⟩
    have HE : Hid (∀ W, Calls Try.prog 19 #[.string v] W fun e w' => e = .returned (.tuple #[.string E, .bool b]) ∧ Below W.heap.size W w') := Lib.hid (fun W => by rw [hb, hE]; exact ress_any v hv W)
    have hfE : f = hasS [form1, form2, form3] E := by rw [hf, hE]; rfl
    have HK : Hid (∀ W, Calls Try.prog 46 #[.string v] W fun e w' => e = .returned (.bool r) ∧ w' = W) := Lib.hid (fun W => by rw [hr]; exact runsafe_any v hv W)
    have HG := Lib.hid hg
    have hS : R = (if L.data.toList = accL then !r else if L.data.toList = alaL ∨ L.data.toList = claL then !g else if L.data.toList = ctyL then !r && f else false) := by
      rw [hR, hr, hg, hf, hLl]
      unfold simB
      rw [decide_eq_true (by rw [size_data]; exact hlong), Bool.true_and, all_any]
    clear hR hL hLl hr hg hf hn hlong hE hb hv
    by_cases h0 : L.data.toList = accL
    · have q0 := lit_yes h0
      unfold accL at q0
      rw [if_pos h0] at hS
      have HS := Lib.hid hS
      clear hS h0
      go_enter Try.func23, Try.ntmps23
      go_wp2_with fail
      refine (HL.out _).mono ?_
      rintro e w1 ⟨rfl, hb1⟩
      have HB1 := Lib.hid (boxS_below (w := w) hbox hb1)
      obtain ⟨_, c0, c1⟩ := boxS_below (w := w) hbox hb1
      clear hbox hb1
      go_wp2_with fail
      refine (HK.out _).mono ?_
      rintro e w2 ⟨rfl, rfl⟩
      go_wp2_with fail
      go_ret
      exact ⟨by rw [HS.out]; rfl, HB1.out.1⟩
    have q0 := lit_no h0
    unfold accL at q0
    rw [if_neg h0] at hS
    by_cases h1 : L.data.toList = alaL
    · have q1 := lit_yes h1
      unfold alaL at q1
      rw [if_pos (.inl h1)] at hS
      have HS := Lib.hid hS
      clear hS h0 h1
      go_enter Try.func23, Try.ntmps23
      go_wp2_with fail
      refine (HL.out _).mono ?_
      rintro e w1 ⟨rfl, hb1⟩
      have HB1 := Lib.hid (boxS_below (w := w) hbox hb1)
      obtain ⟨_, c0, c1⟩ := boxS_below (w := w) hbox hb1
      clear hbox hb1
      go_wp2_with fail
      go_loop [3] (fun i => ∃ k : Nat, k ≤ v.size ∧ i = .int .i64 k ∧ Hid ((v.data.toList.take k).any (fun c => !lngB c) = false)) (fun i => v.size - (intOf i).toNat)
      case atStart => exact ⟨0, Nat.zero_le _, rfl, Lib.hid rfl⟩
      case round =>
        obtain ⟨k, hk, rfl, HN⟩ := hrel
        by_cases hlt : k < v.size
        · have HNX := Lib.hid (any_take_snoc v (fun c => !lngB c) k hlt)
          have HH := Lib.hid (any_hit v (fun c => !lngB c) k hlt)
          obtain ⟨l1, hl1⟩ : ∃ x, x = isLet v[k].toNat := ⟨_, rfl⟩
          obtain ⟨l2, hl2⟩ : ∃ x, x = isDig v[k].toNat := ⟨_, rfl⟩
          obtain ⟨l3, hl3⟩ : ∃ x, x = hasB lngL v[k] := ⟨_, rfl⟩
          have k1 := ref_letter_byte v[k] w1
          have k2 := ref_digit_byte v[k] w1
          have k3 := ref_has_any ⟨#[32, 42, 44, 45, 46, 59, 61]⟩ v[k] (by decide) w1
          rw [← hl1] at k1
          rw [← hl2] at k2
          rw [show hasB (⟨#[32, 42, 44, 45, 46, 59, 61]⟩ : ByteArray).data.toList v[k] = l3 from hl3.symm] at k3
          have K1 := Lib.hid k1
          have K2 := Lib.hid k2
          have K3 := Lib.hid k3
          have HQ : Hid (lngB v[k] = (l1 || l2 || l3)) := Lib.hid (by rw [hl1, hl2, hl3]; rfl)
          clear k1 k2 k3 hl1 hl2 hl3
          cases l1 with
          | true =>
            have HN2 : Hid ((v.data.toList.take (k + 1)).any (fun c => !lngB c) = false) := Lib.hid (by rw [HNX.out, HN.out, HQ.out]; rfl)
            go_wp2_with fail
            refine K1.out.mono ?_
            rintro e w2 ⟨rfl, rfl⟩
            go_wp2_with fail
            go_round
            case rel => exact ⟨k + 1, by omega, by go_num, HN2⟩
            case measure => simp [intOf]; omega
          | false =>
            cases l2 with
            | true =>
              have HN2 : Hid ((v.data.toList.take (k + 1)).any (fun c => !lngB c) = false) := Lib.hid (by rw [HNX.out, HN.out, HQ.out]; rfl)
              go_wp2_with fail
              refine K1.out.mono ?_
              rintro e w2 ⟨rfl, rfl⟩
              go_wp2_with fail
              refine K2.out.mono ?_
              rintro e w3 ⟨rfl, rfl⟩
              go_wp2_with fail
              go_round
              case rel => exact ⟨k + 1, by omega, by go_num, HN2⟩
              case measure => simp [intOf]; omega
            | false =>
              cases l3 with
              | true =>
                have HN2 : Hid ((v.data.toList.take (k + 1)).any (fun c => !lngB c) = false) := Lib.hid (by rw [HNX.out, HN.out, HQ.out]; rfl)
                go_wp2_with fail
                refine K1.out.mono ?_
                rintro e w2 ⟨rfl, rfl⟩
                go_wp2_with fail
                refine K2.out.mono ?_
                rintro e w3 ⟨rfl, rfl⟩
                go_wp2_with fail
                refine K3.out.mono ?_
                rintro e w4 ⟨rfl, rfl⟩
                go_wp2_with fail
                go_round
                case rel => exact ⟨k + 1, by omega, by go_num, HN2⟩
                case measure => simp [intOf]; omega
              | false =>
                have HRT : Hid (R = false) := Lib.hid (by rw [HS.out, HG.out, HH.out (by rw [HQ.out]; rfl)]; rfl)
                go_wp2_with fail
                refine K1.out.mono ?_
                rintro e w2 ⟨rfl, rfl⟩
                go_wp2_with fail
                refine K2.out.mono ?_
                rintro e w3 ⟨rfl, rfl⟩
                go_wp2_with fail
                refine K3.out.mono ?_
                rintro e w4 ⟨rfl, rfl⟩
                go_wp2_with fail
                go_ret
                exact ⟨by rw [HRT.out]; rfl, HB1.out.1⟩
        · have HRF : Hid (R = true) := Lib.hid (by
            rw [HS.out, HG.out]
            have h := HN.out
            rw [List.take_of_length_le (by rw [size_data]; omega)] at h
            rw [h]
            rfl)
          go_wp2_with fail
          go_ret
          exact ⟨by rw [HRF.out]; rfl, HB1.out.1⟩
    have q1 := lit_no h1
    unfold alaL at q1
    by_cases h2 : L.data.toList = claL
    · have q2 := lit_yes h2
      unfold claL at q2
      rw [if_pos (.inr h2)] at hS
      have HS := Lib.hid hS
      clear hS h0 h1 h2
      go_enter Try.func23, Try.ntmps23
      go_wp2_with fail
      refine (HL.out _).mono ?_
      rintro e w1 ⟨rfl, hb1⟩
      have HB1 := Lib.hid (boxS_below (w := w) hbox hb1)
      obtain ⟨_, c0, c1⟩ := boxS_below (w := w) hbox hb1
      clear hbox hb1
      go_wp2_with fail
      go_loop [3] (fun i => ∃ k : Nat, k ≤ v.size ∧ i = .int .i64 k ∧ Hid ((v.data.toList.take k).any (fun c => !lngB c) = false)) (fun i => v.size - (intOf i).toNat)
      case atStart => exact ⟨0, Nat.zero_le _, rfl, Lib.hid rfl⟩
      case round =>
        obtain ⟨k, hk, rfl, HN⟩ := hrel
        by_cases hlt : k < v.size
        · have HNX := Lib.hid (any_take_snoc v (fun c => !lngB c) k hlt)
          have HH := Lib.hid (any_hit v (fun c => !lngB c) k hlt)
          obtain ⟨l1, hl1⟩ : ∃ x, x = isLet v[k].toNat := ⟨_, rfl⟩
          obtain ⟨l2, hl2⟩ : ∃ x, x = isDig v[k].toNat := ⟨_, rfl⟩
          obtain ⟨l3, hl3⟩ : ∃ x, x = hasB lngL v[k] := ⟨_, rfl⟩
          have k1 := ref_letter_byte v[k] w1
          have k2 := ref_digit_byte v[k] w1
          have k3 := ref_has_any ⟨#[32, 42, 44, 45, 46, 59, 61]⟩ v[k] (by decide) w1
          rw [← hl1] at k1
          rw [← hl2] at k2
          rw [show hasB (⟨#[32, 42, 44, 45, 46, 59, 61]⟩ : ByteArray).data.toList v[k] = l3 from hl3.symm] at k3
          have K1 := Lib.hid k1
          have K2 := Lib.hid k2
          have K3 := Lib.hid k3
          have HQ : Hid (lngB v[k] = (l1 || l2 || l3)) := Lib.hid (by rw [hl1, hl2, hl3]; rfl)
          clear k1 k2 k3 hl1 hl2 hl3
          cases l1 with
          | true =>
            have HN2 : Hid ((v.data.toList.take (k + 1)).any (fun c => !lngB c) = false) := Lib.hid (by rw [HNX.out, HN.out, HQ.out]; rfl)
            go_wp2_with fail
            refine K1.out.mono ?_
            rintro e w2 ⟨rfl, rfl⟩
            go_wp2_with fail
            go_round
            case rel => exact ⟨k + 1, by omega, by go_num, HN2⟩
            case measure => simp [intOf]; omega
          | false =>
            cases l2 with
            | true =>
              have HN2 : Hid ((v.data.toList.take (k + 1)).any (fun c => !lngB c) = false) := Lib.hid (by rw [HNX.out, HN.out, HQ.out]; rfl)
              go_wp2_with fail
              refine K1.out.mono ?_
              rintro e w2 ⟨rfl, rfl⟩
              go_wp2_with fail
              refine K2.out.mono ?_
              rintro e w3 ⟨rfl, rfl⟩
              go_wp2_with fail
              go_round
              case rel => exact ⟨k + 1, by omega, by go_num, HN2⟩
              case measure => simp [intOf]; omega
            | false =>
              cases l3 with
              | true =>
                have HN2 : Hid ((v.data.toList.take (k + 1)).any (fun c => !lngB c) = false) := Lib.hid (by rw [HNX.out, HN.out, HQ.out]; rfl)
                go_wp2_with fail
                refine K1.out.mono ?_
                rintro e w2 ⟨rfl, rfl⟩
                go_wp2_with fail
                refine K2.out.mono ?_
                rintro e w3 ⟨rfl, rfl⟩
                go_wp2_with fail
                refine K3.out.mono ?_
                rintro e w4 ⟨rfl, rfl⟩
                go_wp2_with fail
                go_round
                case rel => exact ⟨k + 1, by omega, by go_num, HN2⟩
                case measure => simp [intOf]; omega
              | false =>
                have HRT : Hid (R = false) := Lib.hid (by rw [HS.out, HG.out, HH.out (by rw [HQ.out]; rfl)]; rfl)
                go_wp2_with fail
                refine K1.out.mono ?_
                rintro e w2 ⟨rfl, rfl⟩
                go_wp2_with fail
                refine K2.out.mono ?_
                rintro e w3 ⟨rfl, rfl⟩
                go_wp2_with fail
                refine K3.out.mono ?_
                rintro e w4 ⟨rfl, rfl⟩
                go_wp2_with fail
                go_ret
                exact ⟨by rw [HRT.out]; rfl, HB1.out.1⟩
        · have HRF : Hid (R = true) := Lib.hid (by
            rw [HS.out, HG.out]
            have h := HN.out
            rw [List.take_of_length_le (by rw [size_data]; omega)] at h
            rw [h]
            rfl)
          go_wp2_with fail
          go_ret
          exact ⟨by rw [HRF.out]; rfl, HB1.out.1⟩
    have q2 := lit_no h2
    unfold claL at q2
    rw [if_neg (by rintro (h | h); exact h1 h; exact h2 h)] at hS
    by_cases h3 : L.data.toList = ctyL
    · have q3 := lit_yes h3
      unfold ctyL at q3
      rw [if_pos h3] at hS
      have HS := Lib.hid hS
      clear hS h0 h1 h2 h3
      cases r with
      | true =>
        go_enter Try.func23, Try.ntmps23
        go_wp2_with fail
        refine (HL.out _).mono ?_
        rintro e w1 ⟨rfl, hb1⟩
        have HB1 := Lib.hid (boxS_below (w := w) hbox hb1)
        obtain ⟨_, c0, c1⟩ := boxS_below (w := w) hbox hb1
        clear hbox hb1
        go_wp2_with fail
        refine (HE.out _).mono ?_
        rintro e w2 ⟨rfl, hb2⟩
        have B2 := Lib.hid (below_then HB1.out.1 hb2)
        have c3 := cell_stays c1 hb2
        clear hb2
        go_wp2_with fail
        refine (HK.out _).mono ?_
        rintro e w3 ⟨rfl, rfl⟩
        go_wp2_with fail
        go_ret
        exact ⟨by rw [HS.out]; rfl, B2.out⟩
      | false =>
        by_cases g1 : E = form1
        · have p1 : (E.toList == [97, 112, 112, 108, 105, 99, 97, 116, 105, 111, 110, 47, 120, 45, 119, 119, 119, 45, 102, 111, 114, 109, 45, 117, 114, 108, 101, 110, 99, 111, 100, 101, 100]) = true := lit_yes (by rw [g1]; rfl)
          have HF : Hid (f = true) := Lib.hid (by rw [hfE]; exact form_yes (.inl g1))
          clear hfE g1
          go_enter Try.func23, Try.ntmps23
          go_wp2_with fail
          refine (HL.out _).mono ?_
          rintro e w1 ⟨rfl, hb1⟩
          have HB1 := Lib.hid (boxS_below (w := w) hbox hb1)
          obtain ⟨_, c0, c1⟩ := boxS_below (w := w) hbox hb1
          clear hbox hb1
          go_wp2_with fail
          refine (HE.out _).mono ?_
          rintro e w2 ⟨rfl, hb2⟩
          have B2 := Lib.hid (below_then HB1.out.1 hb2)
          have c3 := cell_stays c1 hb2
          clear hb2
          go_wp2_with fail
          refine (HK.out _).mono ?_
          rintro e w3 ⟨rfl, rfl⟩
          go_wp2_with fail
          go_ret
          exact ⟨by rw [HS.out, HF.out]; rfl, B2.out⟩
        have p1 : (E.toList == [97, 112, 112, 108, 105, 99, 97, 116, 105, 111, 110, 47, 120, 45, 119, 119, 119, 45, 102, 111, 114, 109, 45, 117, 114, 108, 101, 110, 99, 111, 100, 101, 100]) = false := lit_no (fun h => g1 (mk_list _ h))
        by_cases g2 : E = form2
        · have p2 : (E.toList == [109, 117, 108, 116, 105, 112, 97, 114, 116, 47, 102, 111, 114, 109, 45, 100, 97, 116, 97]) = true := lit_yes (by rw [g2]; rfl)
          have HF : Hid (f = true) := Lib.hid (by rw [hfE]; exact form_yes (.inr (.inl g2)))
          clear hfE g1 g2
          go_enter Try.func23, Try.ntmps23
          go_wp2_with fail
          refine (HL.out _).mono ?_
          rintro e w1 ⟨rfl, hb1⟩
          have HB1 := Lib.hid (boxS_below (w := w) hbox hb1)
          obtain ⟨_, c0, c1⟩ := boxS_below (w := w) hbox hb1
          clear hbox hb1
          go_wp2_with fail
          refine (HE.out _).mono ?_
          rintro e w2 ⟨rfl, hb2⟩
          have B2 := Lib.hid (below_then HB1.out.1 hb2)
          have c3 := cell_stays c1 hb2
          clear hb2
          go_wp2_with fail
          refine (HK.out _).mono ?_
          rintro e w3 ⟨rfl, rfl⟩
          go_wp2_with fail
          go_ret
          exact ⟨by rw [HS.out, HF.out]; rfl, B2.out⟩
        have p2 : (E.toList == [109, 117, 108, 116, 105, 112, 97, 114, 116, 47, 102, 111, 114, 109, 45, 100, 97, 116, 97]) = false := lit_no (fun h => g2 (mk_list _ h))
        by_cases g3 : E = form3
        · have p3 : (E.toList == [116, 101, 120, 116, 47, 112, 108, 97, 105, 110]) = true := lit_yes (by rw [g3]; rfl)
          have HF : Hid (f = true) := Lib.hid (by rw [hfE]; exact form_yes (.inr (.inr g3)))
          clear hfE g1 g2 g3
          go_enter Try.func23, Try.ntmps23
          go_wp2_with fail
          refine (HL.out _).mono ?_
          rintro e w1 ⟨rfl, hb1⟩
          have HB1 := Lib.hid (boxS_below (w := w) hbox hb1)
          obtain ⟨_, c0, c1⟩ := boxS_below (w := w) hbox hb1
          clear hbox hb1
          go_wp2_with fail
          refine (HE.out _).mono ?_
          rintro e w2 ⟨rfl, hb2⟩
          have B2 := Lib.hid (below_then HB1.out.1 hb2)
          have c3 := cell_stays c1 hb2
          clear hb2
          go_wp2_with fail
          refine (HK.out _).mono ?_
          rintro e w3 ⟨rfl, rfl⟩
          go_wp2_with fail
          go_ret
          exact ⟨by rw [HS.out, HF.out]; rfl, B2.out⟩
        have p3 : (E.toList == [116, 101, 120, 116, 47, 112, 108, 97, 105, 110]) = false := lit_no (fun h => g3 (mk_list _ h))
        have HF : Hid (f = false) := Lib.hid (by rw [hfE]; exact form_no g1 g2 g3)
        clear hfE g1 g2 g3
        go_enter Try.func23, Try.ntmps23
        go_wp2_with fail
        refine (HL.out _).mono ?_
        rintro e w1 ⟨rfl, hb1⟩
        have HB1 := Lib.hid (boxS_below (w := w) hbox hb1)
        obtain ⟨_, c0, c1⟩ := boxS_below (w := w) hbox hb1
        clear hbox hb1
        go_wp2_with fail
        refine (HE.out _).mono ?_
        rintro e w2 ⟨rfl, hb2⟩
        have B2 := Lib.hid (below_then HB1.out.1 hb2)
        have c3 := cell_stays c1 hb2
        clear hb2
        go_wp2_with fail
        refine (HK.out _).mono ?_
        rintro e w3 ⟨rfl, rfl⟩
        go_wp2_with fail
        go_ret
        exact ⟨by rw [HS.out, HF.out]; rfl, B2.out⟩
    · have q3 := lit_no h3
      unfold ctyL at q3
      rw [if_neg h3] at hS
      have HS := Lib.hid hS
      clear hS h0 h1 h2 h3
      go_enter Try.func23, Try.ntmps23
      go_wp2_with fail
      refine (HL.out _).mono ?_
      rintro e w1 ⟨rfl, hb1⟩
      have HB1 := Lib.hid (boxS_below (w := w) hbox hb1)
      obtain ⟨_, c0, c1⟩ := boxS_below (w := w) hbox hb1
      clear hbox hb1
      go_wp2_with fail
      go_ret
      exact ⟨by rw [HS.out]; rfl, HB1.out.1⟩
  · have hli : 128 < (v.size : Int) := by omega
    have HS : Hid (R = false) := Lib.hid (by rw [hR]; exact simB_long (by rw [size_data]; omega))
    have HB0 := Lib.hid hbox.1
    clear hR hbox hlong hn hv
    go_enter Try.func23, Try.ntmps23
    go_wp2_with fail
    go_ret
    exact ⟨by rw [HS.out]; rfl, HB0.out⟩

end Go.Proofs.Ytfgpcajjnpmoeaa
