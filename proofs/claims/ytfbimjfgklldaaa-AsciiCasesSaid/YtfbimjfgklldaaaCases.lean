/-
  AsciiCases: for every two texts Lower and its reference agree, Same and its reference agree, a text is the same as itself in small letters; the law returns true, and what was there has not turned. No condition.
-/
import Derived.Test.YtfbimjfgklldaaaAsc7
import Derived.Test.YtfbimjfgklldaaaLaw
namespace Go.Proofs.Ytfbimjfgklldaaa
open Go.ChangeShapes Go.WideShapes Go.ChangeAt Go.RowKit Go.Proofs
open Go.ChangeMaps (open_string shut_string)

theorem lowB_low (c : UInt8) : lowB (lowB c) = lowB c := by
  apply UInt8.toNat_inj.1
  have h1 := lowB_toNat (lowB c)
  have h2 := lowB_toNat c
  have h3 := byte_bd c
  have h4 : lowI (lowB c).toNat = (lowB c).toNat := by
    rw [h2]
    unfold lowI
    repeat' split
    all_goals omega
  omega
theorem same_low (l : List UInt8) : sameB l (lowL l) = true := by
  apply sameB_yes
  unfold lowL
  rw [List.map_map]
  apply List.map_congr_left
  intro c _
  exact (lowB_low c).symm

theorem cases_any (a b : ByteArray) (ha : a.size ≤ 140737488351232) (hb : b.size ≤ 140737488351232) (w : World) :
    Calls Try.prog 3 #[.string a, .string b] w fun e w' => e = .returned (.bool true) ∧ Below w.heap.size w w' := by
  by_cases hlong : 3000 < (a.size : Int) + (b.size : Int)
  · go_enter Try.func3, Try.ntmps3
    go_wp2_with fail
    refine (awake_any _).mono ?_
    rintro e w' ⟨rfl, hb1⟩
    go_wp2
    go_ret
    exact ⟨rfl, hb1⟩
  · have HSL := Lib.hid (same_low a.data.toList)
    have hsl : (⟨(lowL a.data.toList).toArray⟩ : ByteArray).size ≤ 1073741824 := by
      rw [size_of_list, lowL_length, size_data]; omega
    go_enter Try.func3, Try.ntmps3
    go_wp2_with fail
    refine (lower_str_any a (by omega) _).mono ?_
    rintro e w1 ⟨rfl, hb1⟩
    go_wp2_with fail
    refine (ref_lower_any a (by omega) _).mono ?_
    rintro e w2 ⟨rfl, hb2⟩
    go_wp2_with fail
    refine (same_any a b (by omega) (by omega) _).mono ?_
    rintro e w3 ⟨rfl, hm3⟩
    have HM3 := Lib.hid hm3
    clear hm3
    go_wp2_with fail
    refine (ref_same_any a b (by omega) (by omega) _).mono ?_
    rintro e w4 ⟨rfl, hb4⟩
    go_wp2_with fail
    refine (lower_str_any a (by omega) _).mono ?_
    rintro e w5 ⟨rfl, hb5⟩
    go_wp2_with fail
    refine (same_any a _ (by omega) hsl _).mono ?_
    rw [show sameB a.data.toList (⟨(lowL a.data.toList).toArray⟩ : ByteArray).data.toList = true from HSL.out]
    rintro e w6 ⟨rfl, hm6⟩
    have HM6 := Lib.hid hm6
    clear hm6
    go_wp2_with fail
    refine (awake_any _).mono ?_
    rintro e w7 ⟨rfl, hb7⟩
    go_wp2
    go_ret
    exact ⟨rfl, below_then (below_draws (below_then (below_then (below_draws (below_then hb1 hb2) HM3.out) hb4) hb5) HM6.out) hb7⟩

theorem cases_own : ownKnob Try.prog.godebug = none := by kernel_rfl
set_option maxRecDepth 100000 in
theorem cases_lifted (os : Os) (started : os.Started) (H : Type) (enc : TypeId × Value → H) :
    ReturnsInHanded {} Try.checked os 3 .any (Rows.asciiCasesSpec.pre6 enc Try.prog Try.f3 Rows.asciiCasesRow.domain false) (Rows.asciiCasesSpec.post enc Try.prog Try.f3 false true false false) := by
  refine law_lifted (C := Try.checked) cases_own started (by kernel_rfl) Try.func3
    (ChangeSpec.witness6 (enc := enc) (C := Try.checked) false ⟨#[], #[.string ByteArray.empty, .string ByteArray.empty], []⟩ 8 (by kernel_rfl) (by kernel_rfl) (by kernel_rfl) (by kernel_rfl))
    (by kernel_rfl) (of_decide_eq_true (by kernel_rfl)) (tb := 4) (by kernel_rfl) Try.underlying4 rfl (fun ds h => by match ds, h with | [d1, d2], _ => exact ⟨rfl, rfl, rfl⟩) ?_
  intro W base args ds p hval0 hA0 hlt hsz0
  have hval : ∀ (j : Nat) t v, Try.f3.params[j]? = some t → args[j]? = some v → Value.okWide Try.prog W .any base t v := hval0
  have hA : DataW.TrodAll enc Try.prog W 0 (fun _ => true) true Try.f3.params.toList args.toList ds p := hA0
  have hsz : (DataW.weightsEach Try.prog Try.f3.params.toList ds).all (· ≤ reachBytes) = true := hsz0
  rw [Try.params3] at hA hval hsz
  obtain ⟨v0, vs0, d0, ds0, p0, q0, hargs, rfl, rfl, h0, r0⟩ := trodAll_cons hA
  obtain ⟨v1, vs1, d1, ds1, p1, q1, rfl, rfl, rfl, h1, r1⟩ := trodAll_cons r0
  obtain ⟨rfl, rfl, rfl⟩ := trodAll_nil r1
  obtain rfl : args = #[v0, v1] := by cases args; simp_all
  obtain ⟨a0, rfl, rfl, rfl, w0⟩ := open_string Try.underlying9 (hval 0 9 v0 rfl rfl) h0
  obtain ⟨a1, rfl, rfl, rfl, w1⟩ := open_string Try.underlying9 (hval 1 9 v1 rfl rfl) h1
  have z0 := sized_string hsz (j := 0) rfl rfl
  have z1 := sized_string hsz (j := 1) rfl rfl
  rw [size_data] at z0 z1
  exact cases_any a0 a1 z0 z1 W

theorem cases_over : Rows.asciiCasesRow.holds Try.pinned (OpenSpec.ofChange Rows.asciiCasesSpec) :=
  OpenClaim.holds_of_wide 3 Try.f3 rfl rfl rfl rfl rfl rfl rfl ⟨rfl, rfl, rfl, rfl, rfl⟩ rfl rfl rfl rfl rfl (by kernel_rfl) Try.func3 (by kernel_rfl)
    (of_decide_eq_true (by kernel_rfl)) (by unfold Func.isWrapper; first | (rw [if_pos (by decide +kernel)]; kernel_rfl) | (rw [if_neg (by decide +kernel)]; exact ⟨rfl, rfl⟩))
    (fun os started H enc _ => cases_lifted os started H enc)

theorem cases_proved : Rows.AsciiCasesSaid := cases_over
#print axioms cases_proved
end Go.Proofs.Ytfbimjfgklldaaa
