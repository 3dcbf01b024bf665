/- Contracts: forms, and which fields need no leave, the code's and the reference's. -/
import Derived.Test.YtfgpcajjnpmoeaaShelf
import Derived.BigQuiet
import Derived.Test.YtfgpcajjnpmoeaaProg
import Derived.Test.YtfgpcajjnpmoeaaKit
import Derived.Test.YtfgpcajjnpmoeaaPlain
import Derived.Test.YtfgpcajjnpmoeaaStr
import Derived.Test.YtfgpcajjnpmoeaaAsc4
import Derived.Test.YtfgpcajjnpmoeaaRow
import Derived.Test.YtfgpcajjnpmoeaaUrl4
import Derived.Test.YtfgpcajjnpmoeaaHdr0
import Derived.Test.YtfgpcajjnpmoeaaHdr1
import Derived.Test.YtfgpcajjnpmoeaaHdr2
import Derived.Test.YtfgpcajjnpmoeaaHdr4
namespace Go.Proofs.Ytfgpcajjnpmoeaa
open Go.RowKit Go.Proofs

theorem form_any (v : ByteArray) (hv : v.size ≤ 1073741824) (w : World) :
    Calls Try.prog 45 #[.string v] w fun e w' => e = .returned (.bool (formB v.data.toList)) ∧ Below w.heap.size w w' := by
  obtain ⟨E, hE⟩ : ∃ E : ByteArray, E = ⟨(essL v.data.toList).toArray⟩ := ⟨_, rfl⟩
  obtain ⟨b, hb⟩ : ∃ b, b = essB v.data.toList := ⟨_, rfl⟩
  have HE : Hid (∀ W, Calls Try.prog 18 #[.string v] W fun e w' => e = .returned (.tuple #[.string E, .bool b]) ∧ Below W.heap.size W w') := Lib.hid (fun W => by rw [hb, hE]; exact ess_any v hv W)
  obtain ⟨q, hq⟩ : ∃ q, q = formB v.data.toList := ⟨_, rfl⟩
  have HA : Hid (∀ u W, SliceAt W u ([form1, form2, form3].map strV) → Calls Try.prog 62 #[.string E, u] W fun e w' => e = .returned (.bool q) ∧ w' = W) := Lib.hid (fun u W h => by
    have := any_any u _ E W (by decide) h
    rw [hq, hE]
    rw [hE] at this
    exact this)
  rw [← hq]
  clear hE hb hq hv
  go_enter Try.func45, Try.ntmps45
  go_wp2_with fail
  refine (HE.out _).mono ?_
  rintro e w1 ⟨rfl, hb1⟩
  have B1 := Lib.hid hb1
  clear hb1
  go_wp2_with fail
  refine (HA.out _ _ (SliceAt.lit _ _ _ _ _ rfl)).mono ?_
  rintro e w2 ⟨rfl, rfl⟩
  go_wp2_with fail
  go_ret
  exact ⟨rfl, below_more B1.out _⟩

theorem simple_any (n v : ByteArray) (hn : n.size ≤ 1073741824) (hv : v.size ≤ 1073741824) (w : World) :
    Calls Try.prog 22 #[.agg #[.string n, .string v]] w fun e w' => e = .returned (.bool (simB n.data.toList v.data.toList)) ∧ Below w.heap.size w w' := by
  obtain ⟨R, hR⟩ : ∃ R, R = simB n.data.toList v.data.toList := ⟨_, rfl⟩
  rw [← hR]
  have hbox := box_two w n v 34
  by_cases hlong : v.size ≤ 128
  · have hli : ¬ 128 < (v.size : Int) := by omega
    obtain ⟨L, hL⟩ : ∃ L : ByteArray, L = ⟨(lowL n.data.toList).toArray⟩ := ⟨_, rfl⟩
    have hLl : L.data.toList = lowL n.data.toList := by rw [hL]
    have HL : Hid (∀ W, Calls Try.prog 36 #[.string n] W fun e w' => e = .returned (.string L) ∧ Below W.heap.size W w') := Lib.hid (fun W => by rw [hL]; exact lower_str_any n hn W)
    obtain ⟨r, hr⟩ : ∃ r, r = v.data.toList.any rskB := ⟨_, rfl⟩
    obtain ⟨g, hg⟩ : ∃ g, g = v.data.toList.any (fun c => !lngB c) := ⟨_, rfl⟩
    obtain ⟨f, hf⟩ : ∃ f, f = formB v.data.toList := ⟨_, rfl⟩
    have HK : Hid (∀ W, Calls Try.prog 41 #[.string v, .func (.func 43) #[] #[]] W fun e w' => e = .returned (.bool r) ∧ w' = W) := Lib.hid (fun W => by rw [hr]; exact has_any _ rskB Try.ent_risky risky_byte v hv W)
    have HG : Hid (∀ W, Calls Try.prog 41 #[.string v, .func (.func 44) #[] #[]] W fun e w' => e = .returned (.bool g) ∧ w' = W) := Lib.hid (fun W => by rw [hg]; exact has_any _ (fun c => !lngB c) Try.ent_foreign foreign_byte v hv W)
    have HF : Hid (∀ W, Calls Try.prog 45 #[.string v] W fun e w' => e = .returned (.bool f) ∧ Below W.heap.size W w') := Lib.hid (fun W => by rw [hf]; exact form_any v hv W)
    have hS : R = (if L.data.toList = accL then !r else if L.data.toList = alaL ∨ L.data.toList = claL then !g else if L.data.toList = ctyL then !r && f else false) := by
      rw [hR, hr, hg, hf, hLl]
      unfold simB
      rw [decide_eq_true (by rw [size_data]; exact hlong), Bool.true_and, all_any]
    clear hR hL hLl hr hg hf hn hv hlong
    by_cases h0 : L.data.toList = accL
    · have q0 := lit_yes h0
      unfold accL at q0
      rw [if_pos h0] at hS
      have HS := Lib.hid hS
      clear hS h0
      go_enter Try.func22, Try.ntmps22
      go_wp2_with fail
      refine (HL.out _).mono ?_
      rintro e w1 ⟨rfl, hb1⟩
      have HB1 := Lib.hid (boxS_below (w := w) hbox hb1)
      obtain ⟨_, c0, c1⟩ := boxS_below (w := w) hbox hb1
      clear hbox hb1
      go_wp2_with fail
      refine (HK.out _).mono ?_
      rintro e w2 ⟨rfl, rfl⟩
      go_wp2_with fail
      go_ret
      exact ⟨by rw [HS.out]; rfl, HB1.out.1⟩
    have q0 := lit_no h0
    unfold accL at q0
    rw [if_neg h0] at hS
    by_cases h1 : L.data.toList = alaL
    · have q1 := lit_yes h1
      unfold alaL at q1
      rw [if_pos (.inl h1)] at hS
      have HS := Lib.hid hS
      clear hS h0 h1
      go_enter Try.func22, Try.ntmps22
      go_wp2_with fail
      refine (HL.out _).mono ?_
      rintro e w1 ⟨rfl, hb1⟩
      have HB1 := Lib.hid (boxS_below (w := w) hbox hb1)
      obtain ⟨_, c0, c1⟩ := boxS_below (w := w) hbox hb1
      clear hbox hb1
      go_wp2_with fail
      refine (HG.out _).mono ?_
      rintro e w2 ⟨rfl, rfl⟩
      go_wp2_with fail
      go_ret
      exact ⟨by rw [HS.out]; rfl, HB1.out.1⟩
    have q1 := lit_no h1
    unfold alaL at q1
    by_cases h2 : L.data.toList = claL
    · have q2 := lit_yes h2
      unfold claL at q2
      rw [if_pos (.inr h2)] at hS
      have HS := Lib.hid hS
      clear hS h0 h1 h2
      go_enter Try.func22, Try.ntmps22
      go_wp2_with fail
      refine (HL.out _).mono ?_
      rintro e w1 ⟨rfl, hb1⟩
      have HB1 := Lib.hid (boxS_below (w := w) hbox hb1)
      obtain ⟨_, c0, c1⟩ := boxS_below (w := w) hbox hb1
      clear hbox hb1
      go_wp2_with fail
      refine (HG.out _).mono ?_
      rintro e w2 ⟨rfl, rfl⟩
      go_wp2_with fail
      go_ret
      exact ⟨by rw [HS.out]; rfl, HB1.out.1⟩
    have q2 := lit_no h2
    unfold claL at q2
    rw [if_neg (by rintro (h | h); exact h1 h; exact h2 h)] at hS
    by_cases h3 : L.data.toList = ctyL
    · have q3 := lit_yes h3
      unfold ctyL at q3
      rw [if_pos h3] at hS
      have HS := Lib.hid hS
      clear hS h0 h1 h2 h3
      cases r with
      | true =>
        go_enter Try.func22, Try.ntmps22
        go_wp2_with fail
        refine (HL.out _).mono ?_
        rintro e w1 ⟨rfl, hb1⟩
        have HB1 := Lib.hid (boxS_below (w := w) hbox hb1)
        obtain ⟨_, c0, c1⟩ := boxS_below (w := w) hbox hb1
        clear hbox hb1
        go_wp2_with fail
        refine (HK.out _).mono ?_
        rintro e w2 ⟨rfl, rfl⟩
        go_wp2_with fail
        go_ret
        exact ⟨by rw [HS.out]; rfl, HB1.out.1⟩
      | false =>
        go_enter Try.func22, Try.ntmps22
        go_wp2_with fail
        refine (HL.out _).mono ?_
        rintro e w1 ⟨rfl, hb1⟩
        have HB1 := Lib.hid (boxS_below (w := w) hbox hb1)
        obtain ⟨_, c0, c1⟩ := boxS_below (w := w) hbox hb1
        clear hbox hb1
        go_wp2_with fail
        refine (HK.out _).mono ?_
        rintro e w2 ⟨rfl, rfl⟩
        go_wp2_with fail
        refine (HF.out _).mono ?_
        rintro e w3 ⟨rfl, hb3⟩
        have B3 := Lib.hid (below_then HB1.out.1 hb3)
        clear hb3
        go_wp2_with fail
        go_ret
        exact ⟨by rw [HS.out]; simp, B3.out⟩
    · have q3 := lit_no h3
      unfold ctyL at q3
      rw [if_neg h3] at hS
      have HS := Lib.hid hS
      clear hS h0 h1 h2 h3
      go_enter Try.func22, Try.ntmps22
      go_wp2_with fail
      refine (HL.out _).mono ?_
      rintro e w1 ⟨rfl, hb1⟩
      have HB1 := Lib.hid (boxS_below (w := w) hbox hb1)
      clear hbox hb1
      go_wp2_with fail
      go_ret
      exact ⟨by rw [HS.out]; rfl, HB1.out.1⟩
  · have hli : 128 < (v.size : Int) := by omega
    have HS : Hid (R = false) := Lib.hid (by rw [hR]; exact simB_long (by rw [size_data]; omega))
    have HB0 := Lib.hid hbox.1
    clear hR hbox hlong hn hv
    go_enter Try.func22, Try.ntmps22
    go_wp2_with fail
    go_ret
    exact ⟨by rw [HS.out]; rfl, HB0.out⟩

end Go.Proofs.Ytfgpcajjnpmoeaa
