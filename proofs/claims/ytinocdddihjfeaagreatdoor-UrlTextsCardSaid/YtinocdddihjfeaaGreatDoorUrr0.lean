/- The reference's Port and Text; is a URL short? -/
import Derived.Lib.ItoaLen
import Derived.Test.YtinocdddihjfeaaGreatDoorProg
import Derived.Test.YtinocdddihjfeaaGreatDoorKit
import Derived.Test.YtinocdddihjfeaaGreatDoorAsc4
import Derived.Test.YtinocdddihjfeaaGreatDoorRow
import Derived.Test.YtinocdddihjfeaaGreatDoorHst1
import Derived.Test.YtinocdddihjfeaaGreatDoorHst4
import Derived.Test.YtinocdddihjfeaaGreatDoorHst6
import Derived.Test.YtinocdddihjfeaaGreatDoorUrl0
import Derived.Test.YtinocdddihjfeaaGreatDoorUrl4
namespace Go.Proofs.YtinocdddihjfeaaGreatDoor
open Go.RowKit Go.Proofs
set_option maxRecDepth 100000

theorem rPortU_any (S U P H T Q F : ByteArray) (pt : Int) (hq hf : Bool) (w : World) :
    Calls Tryz.prog 14 #[.agg #[.string S, .string U, .string P, .string H, .int .i64 pt, .string T, .bool hq, .string Q, .bool hf, .string F]] w fun e w' => e = .returned (.int .i64 (if pt = -1 then (defP S.data.toList).1 else pt)) ∧ Below w.heap.size w w' := by
  have HD := Lib.hid (fun W => rdef_any S W)
  obtain ⟨D, hD⟩ : ∃ D, D = (defP S.data.toList).1 := ⟨_, rfl⟩
  obtain ⟨B, hB⟩ : ∃ B, B = (defP S.data.toList).2 := ⟨_, rfl⟩
  rw [← hD, ← hB] at HD
  rw [← hD]
  have HB := Lib.hid (below_more (Below.refl _ w) (.cells #[.string S, .string U, .string P, .string H, .int .i64 pt, .string T, .bool hq, .string Q, .bool hf, .string F] 24))
  obtain ⟨R, hR⟩ : ∃ R, R = if pt = -1 then D else pt := ⟨_, rfl⟩
  rw [← hR]
  clear hD hB
  by_cases hp : pt = -1
  · have HR : Hid (R = D) := Lib.hid (by rw [hR, if_pos hp])
    have q1 : (pt != -1) = false := by simp [hp]
    clear hR hp
    go_enter Tryz.func14, Tryz.ntmps14
    go_wp2_with fail
    refine (HD.out _).mono ?_
    rintro e w1 ⟨rfl, rfl⟩
    go_wp2_with fail
    go_ret
    exact ⟨ret_int HR.out.symm, HB.out⟩
  · have HR : Hid (R = pt) := Lib.hid (by rw [hR, if_neg hp])
    have q1 : (pt != -1) = true := by simp [hp]
    clear hR hp
    go_enter Tryz.func14, Tryz.ntmps14
    go_wp2_with fail
    go_ret
    exact ⟨ret_int HR.out.symm, HB.out⟩

theorem aport_any (p : Int) (w : World) : Calls Tryz.prog 30 #[.int .i64 p] w fun e w' => e = .returned (.bool (decide (-1 ≤ p ∧ p ≤ 65535))) ∧ w' = w := by
  obtain ⟨R, hR⟩ : ∃ R, R = decide (-1 ≤ p ∧ p ≤ 65535) := ⟨_, rfl⟩
  rw [← hR]
  by_cases h1 : -1 ≤ p
  · by_cases h2 : p ≤ 65535
    · have HR : Hid (R = true) := Lib.hid (by rw [hR, decide_eq_true ⟨h1, h2⟩])
      clear hR
      go_enter Tryz.func30, Tryz.ntmps30
      go_wp2
      go_ret
      exact ⟨by rw [HR.out]; simp, rfl⟩
    · have HR : Hid (R = false) := Lib.hid (by rw [hR, decide_eq_false (fun h => h2 h.2)])
      clear hR
      go_enter Tryz.func30, Tryz.ntmps30
      go_wp2
      go_ret
      exact ⟨by rw [HR.out]; simp, rfl⟩
  · have HR : Hid (R = false) := Lib.hid (by rw [hR, decide_eq_false (fun h => h1 h.1)])
    clear hR
    go_enter Tryz.func30, Tryz.ntmps30
    go_wp2
    go_ret
    exact ⟨by rw [HR.out]; simp, rfl⟩

theorem aurl_any (S U P H T Q F : ByteArray) (pt : Int) (hq hf : Bool) (h1 : S.size ≤ 281474976710656) (h2 : U.size ≤ 281474976710656) (h3 : P.size ≤ 281474976710656) (h4 : H.size ≤ 281474976710656) (h5 : T.size ≤ 281474976710656) (h6 : Q.size ≤ 281474976710656) (h7 : F.size ≤ 281474976710656) (w : World) :
    Calls Tryz.prog 8 #[.agg #[.string S, .string U, .string P, .string H, .int .i64 pt, .string T, .bool hq, .string Q, .bool hf, .string F]] w fun e w' => e = .returned (.bool (decide ((-1 ≤ pt ∧ pt ≤ 65535) ∧ S.size + U.size + P.size + H.size + T.size + Q.size + F.size ≤ 3000))) ∧ Below w.heap.size w w' := by
  have HB := Lib.hid (below_more (Below.refl _ w) (.cells #[.string S, .string U, .string P, .string H, .int .i64 pt, .string T, .bool hq, .string Q, .bool hf, .string F] 24))
  have HP := Lib.hid (fun W => aport_any pt W)
  obtain ⟨R, hR⟩ : ∃ R, R = decide ((-1 ≤ pt ∧ pt ≤ 65535) ∧ S.size + U.size + P.size + H.size + T.size + Q.size + F.size ≤ 3000) := ⟨_, rfl⟩
  rw [← hR]
  by_cases hp : -1 ≤ pt ∧ pt ≤ 65535
  · rw [decide_eq_true hp] at HP
    have HR : Hid (R = decide ((S.size : Int) + U.size + P.size + H.size + T.size + Q.size + F.size ≤ 3000)) := Lib.hid (by
      rw [hR]
      by_cases hs : S.size + U.size + P.size + H.size + T.size + Q.size + F.size ≤ 3000
      · rw [decide_eq_true ⟨hp, hs⟩, decide_eq_true (by omega)]
      · rw [decide_eq_false (fun h => hs h.2), decide_eq_false (by omega)])
    clear hR hp
    go_enter Tryz.func8, Tryz.ntmps8
    go_wp2_with fail
    refine (HP.out _).mono ?_
    rintro e w1 ⟨rfl, rfl⟩
    go_wp2_with fail
    go_ret
    exact ⟨by rw [HR.out]; rfl, HB.out⟩
  · rw [decide_eq_false hp] at HP
    have HR : Hid (R = false) := Lib.hid (by rw [hR, decide_eq_false (fun h => hp h.1)])
    clear hR hp
    go_enter Tryz.func8, Tryz.ntmps8
    go_wp2_with fail
    refine (HP.out _).mono ?_
    rintro e w1 ⟨rfl, rfl⟩
    go_wp2_with fail
    go_ret
    exact ⟨by rw [HR.out]; rfl, HB.out⟩

set_option maxHeartbeats 8000000 in
theorem rtext_any (S U P H T Q F : ByteArray) (pt : Int) (hq hf : Bool) (hS : S.size ≤ 3000) (hU : U.size ≤ 3000) (hP : P.size ≤ 3000) (hH : H.size ≤ 3000) (hT : T.size ≤ 3000) (hQ : Q.size ≤ 3000) (hF : F.size ≤ 3000) (hpt : -9223372036854775808 ≤ pt ∧ pt ≤ 9223372036854775807) (w : World) :
    Calls Tryz.prog 12 #[.agg #[.string S, .string U, .string P, .string H, .int .i64 pt, .string T, .bool hq, .string Q, .bool hf, .string F]] w fun e w' => e = .returned (strL (textU ⟨S.data.toList, U.data.toList, P.data.toList, H.data.toList, pt, T.data.toList, hq, Q.data.toList, hf, F.data.toList⟩)) ∧ Below w.heap.size w w' := by
  have HB := Lib.hid (below_more (Below.refl _ w) (.cells #[.string S, .string U, .string P, .string H, .int .i64 pt, .string T, .bool hq, .string Q, .bool hf, .string F] 24))
  have HR : Hid (Rw (w.alloc (.cells #[.string S, .string U, .string P, .string H, .int .i64 pt, .string T, .bool hq, .string Q, .bool hf, .string F] 24)) 0 w.heap.size 24 [.string S, .string U, .string P, .string H, .int .i64 pt, .string T, .bool hq, .string Q, .bool hf, .string F]) := Lib.hid (Rw.alloc w _ _ (Nat.zero_le _))
  obtain ⟨D, hD⟩ : ∃ D : ByteArray, D = ⟨(Lib.itoa pt).toArray⟩ := ⟨_, rfl⟩
  have hDs : D.size ≤ 21 := by rw [hD, mk_size]; exact Lib.itoa_length_le pt hpt.1 hpt.2
  have HD : Hid (∀ W, Calls Tryz.prog 34 #[.int .i64 pt] W fun e w' => e = .returned (.string D) ∧ Below W.heap.size W w') := Lib.hid (by
    intro W
    rw [hD]
    exact ref_decimal_any pt hpt W)
  have HDL : Hid (D.data.toList = Lib.itoa pt) := Lib.hid (by rw [hD])
  obtain ⟨R, hR⟩ : ∃ R, R = textU ⟨S.data.toList, U.data.toList, P.data.toList, H.data.toList, pt, T.data.toList, hq, Q.data.toList, hf, F.data.toList⟩ := ⟨_, rfl⟩
  rw [← hR]
  have HRR := Lib.hid hR
  clear hD hR hpt
  by_cases hu : U.size = 0
  · have y1 := emptyYes hu
    have eU : Hid (U.data.toList = []) := Lib.hid (nil_size hu)
    clear hu
    by_cases hp : P.size = 0
    · have y2 := emptyYes hp
      have eP : Hid (P.data.toList = []) := Lib.hid (nil_size hp)
      clear hp
      by_cases ht : pt = -1
      · have y3 : (pt != -1) = false := by simp [ht]
        have ePt : Hid (pt = -1) := Lib.hid ht
        clear ht
        cases hq
        · cases hf
          · go_enter Tryz.func12, Tryz.ntmps12
            go_wp2_with fail
            go_ret
            refine ⟨?_, HB.out⟩
            symm
            refine congrArg Ending.returned (strL_of ?_)
            rw [HRR.out]
            unfold textU userL2
            first
              | (simp [markL, eU.out, eP.out, ePt.out]; done)
              | (simp [mk_app, markL, eU.out, eP.out, ePt.out]; done)
              | simp [markL, HDL.out, eU.out, eP.out, ePt.out]
          · go_enter Tryz.func12, Tryz.ntmps12
            go_wp2_with fail
            go_ret
            refine ⟨?_, HB.out⟩
            symm
            refine congrArg Ending.returned (strL_of ?_)
            rw [HRR.out]
            unfold textU userL2
            first
              | (simp [markL, eU.out, eP.out, ePt.out]; done)
              | (simp [mk_app, markL, eU.out, eP.out, ePt.out]; done)
              | simp [markL, HDL.out, eU.out, eP.out, ePt.out]
        · cases hf
          · go_enter Tryz.func12, Tryz.ntmps12
            go_wp2_with fail
            go_ret
            refine ⟨?_, HB.out⟩
            symm
            refine congrArg Ending.returned (strL_of ?_)
            rw [HRR.out]
            unfold textU userL2
            first
              | (simp [markL, eU.out, eP.out, ePt.out]; done)
              | (simp [mk_app, markL, eU.out, eP.out, ePt.out]; done)
              | simp [markL, HDL.out, eU.out, eP.out, ePt.out]
          · go_enter Tryz.func12, Tryz.ntmps12
            go_wp2_with fail
            go_ret
            refine ⟨?_, HB.out⟩
            symm
            refine congrArg Ending.returned (strL_of ?_)
            rw [HRR.out]
            unfold textU userL2
            first
              | (simp [markL, eU.out, eP.out, ePt.out]; done)
              | (simp [mk_app, markL, eU.out, eP.out, ePt.out]; done)
              | simp [markL, HDL.out, eU.out, eP.out, ePt.out]
      · have y3 : (pt != -1) = true := by simp [ht]
        have ePt : Hid (pt ≠ -1) := Lib.hid ht
        clear ht
        cases hq
        · cases hf
          · go_enter Tryz.func12, Tryz.ntmps12
            go_wp2_with fail
            refine (HD.out _).mono ?_
            rintro e w1 ⟨rfl, hb1⟩
            have HB1 := Lib.hid (below_then HB.out hb1)
            have HR1 := Lib.hid (Rw.below HR.out hb1)
            have k5 := Rw.cell HR1.out (j := 5) rfl
            have k6 := Rw.cell HR1.out (j := 6) rfl
            have k7 := Rw.cell HR1.out (j := 7) rfl
            have k8 := Rw.cell HR1.out (j := 8) rfl
            have k9 := Rw.cell HR1.out (j := 9) rfl
            clear hb1
            go_wp2_with fail
            go_ret
            refine ⟨?_, HB1.out⟩
            symm
            refine congrArg Ending.returned (strL_of ?_)
            rw [HRR.out]
            unfold textU userL2
            first
              | (simp [markL, eU.out, eP.out, ePt.out]; done)
              | (simp [mk_app, markL, eU.out, eP.out, ePt.out]; done)
              | simp [markL, HDL.out, eU.out, eP.out, ePt.out]
          · go_enter Tryz.func12, Tryz.ntmps12
            go_wp2_with fail
            refine (HD.out _).mono ?_
            rintro e w1 ⟨rfl, hb1⟩
            have HB1 := Lib.hid (below_then HB.out hb1)
            have HR1 := Lib.hid (Rw.below HR.out hb1)
            have k5 := Rw.cell HR1.out (j := 5) rfl
            have k6 := Rw.cell HR1.out (j := 6) rfl
            have k7 := Rw.cell HR1.out (j := 7) rfl
            have k8 := Rw.cell HR1.out (j := 8) rfl
            have k9 := Rw.cell HR1.out (j := 9) rfl
            clear hb1
            go_wp2_with fail
            go_ret
            refine ⟨?_, HB1.out⟩
            symm
            refine congrArg Ending.returned (strL_of ?_)
            rw [HRR.out]
            unfold textU userL2
            first
              | (simp [markL, eU.out, eP.out, ePt.out]; done)
              | (simp [mk_app, markL, eU.out, eP.out, ePt.out]; done)
              | simp [markL, HDL.out, eU.out, eP.out, ePt.out]
        · cases hf
          · go_enter Tryz.func12, Tryz.ntmps12
            go_wp2_with fail
            refine (HD.out _).mono ?_
            rintro e w1 ⟨rfl, hb1⟩
            have HB1 := Lib.hid (below_then HB.out hb1)
            have HR1 := Lib.hid (Rw.below HR.out hb1)
            have k5 := Rw.cell HR1.out (j := 5) rfl
            have k6 := Rw.cell HR1.out (j := 6) rfl
            have k7 := Rw.cell HR1.out (j := 7) rfl
            have k8 := Rw.cell HR1.out (j := 8) rfl
            have k9 := Rw.cell HR1.out (j := 9) rfl
            clear hb1
            go_wp2_with fail
            go_ret
            refine ⟨?_, HB1.out⟩
            symm
            refine congrArg Ending.returned (strL_of ?_)
            rw [HRR.out]
            unfold textU userL2
            first
              | (simp [markL, eU.out, eP.out, ePt.out]; done)
              | (simp [mk_app, markL, eU.out, eP.out, ePt.out]; done)
              | simp [markL, HDL.out, eU.out, eP.out, ePt.out]
          · go_enter Tryz.func12, Tryz.ntmps12
            go_wp2_with fail
            refine (HD.out _).mono ?_
            rintro e w1 ⟨rfl, hb1⟩
            have HB1 := Lib.hid (below_then HB.out hb1)
            have HR1 := Lib.hid (Rw.below HR.out hb1)
            have k5 := Rw.cell HR1.out (j := 5) rfl
            have k6 := Rw.cell HR1.out (j := 6) rfl
            have k7 := Rw.cell HR1.out (j := 7) rfl
            have k8 := Rw.cell HR1.out (j := 8) rfl
            have k9 := Rw.cell HR1.out (j := 9) rfl
            clear hb1
            go_wp2_with fail
            go_ret
            refine ⟨?_, HB1.out⟩
            symm
            refine congrArg Ending.returned (strL_of ?_)
            rw [HRR.out]
            unfold textU userL2
            first
              | (simp [markL, eU.out, eP.out, ePt.out]; done)
              | (simp [mk_app, markL, eU.out, eP.out, ePt.out]; done)
              | simp [markL, HDL.out, eU.out, eP.out, ePt.out]
    · have y2 := emptyNo hp
      have eP : Hid (P.data.toList ≠ []) := Lib.hid (ne_of_size hp)
      clear hp
      by_cases ht : pt = -1
      · have y3 : (pt != -1) = false := by simp [ht]
        have ePt : Hid (pt = -1) := Lib.hid ht
        clear ht
        cases hq
        · cases hf
          · go_enter Tryz.func12, Tryz.ntmps12
            go_wp2_with fail
            go_ret
            refine ⟨?_, HB.out⟩
            symm
            refine congrArg Ending.returned (strL_of ?_)
            rw [HRR.out]
            unfold textU userL2
            first
              | (simp [markL, eU.out, eP.out, ePt.out]; done)
              | (simp [mk_app, markL, eU.out, eP.out, ePt.out]; done)
              | simp [markL, HDL.out, eU.out, eP.out, ePt.out]
          · go_enter Tryz.func12, Tryz.ntmps12
            go_wp2_with fail
            go_ret
            refine ⟨?_, HB.out⟩
            symm
            refine congrArg Ending.returned (strL_of ?_)
            rw [HRR.out]
            unfold textU userL2
            first
              | (simp [markL, eU.out, eP.out, ePt.out]; done)
              | (simp [mk_app, markL, eU.out, eP.out, ePt.out]; done)
              | simp [markL, HDL.out, eU.out, eP.out, ePt.out]
        · cases hf
          · go_enter Tryz.func12, Tryz.ntmps12
            go_wp2_with fail
            go_ret
            refine ⟨?_, HB.out⟩
            symm
            refine congrArg Ending.returned (strL_of ?_)
            rw [HRR.out]
            unfold textU userL2
            first
              | (simp [markL, eU.out, eP.out, ePt.out]; done)
              | (simp [mk_app, markL, eU.out, eP.out, ePt.out]; done)
              | simp [markL, HDL.out, eU.out, eP.out, ePt.out]
          · go_enter Tryz.func12, Tryz.ntmps12
            go_wp2_with fail
            go_ret
            refine ⟨?_, HB.out⟩
            symm
            refine congrArg Ending.returned (strL_of ?_)
            rw [HRR.out]
            unfold textU userL2
            first
              | (simp [markL, eU.out, eP.out, ePt.out]; done)
              | (simp [mk_app, markL, eU.out, eP.out, ePt.out]; done)
              | simp [markL, HDL.out, eU.out, eP.out, ePt.out]
      · have y3 : (pt != -1) = true := by simp [ht]
        have ePt : Hid (pt ≠ -1) := Lib.hid ht
        clear ht
        cases hq
        · cases hf
          · go_enter Tryz.func12, Tryz.ntmps12
            go_wp2_with fail
            refine (HD.out _).mono ?_
            rintro e w1 ⟨rfl, hb1⟩
            have HB1 := Lib.hid (below_then HB.out hb1)
            have HR1 := Lib.hid (Rw.below HR.out hb1)
            have k5 := Rw.cell HR1.out (j := 5) rfl
            have k6 := Rw.cell HR1.out (j := 6) rfl
            have k7 := Rw.cell HR1.out (j := 7) rfl
            have k8 := Rw.cell HR1.out (j := 8) rfl
            have k9 := Rw.cell HR1.out (j := 9) rfl
            clear hb1
            go_wp2_with fail
            go_ret
            refine ⟨?_, HB1.out⟩
            symm
            refine congrArg Ending.returned (strL_of ?_)
            rw [HRR.out]
            unfold textU userL2
            first
              | (simp [markL, eU.out, eP.out, ePt.out]; done)
              | (simp [mk_app, markL, eU.out, eP.out, ePt.out]; done)
              | simp [markL, HDL.out, eU.out, eP.out, ePt.out]
          · go_enter Tryz.func12, Tryz.ntmps12
            go_wp2_with fail
            refine (HD.out _).mono ?_
            rintro e w1 ⟨rfl, hb1⟩
            have HB1 := Lib.hid (below_then HB.out hb1)
            have HR1 := Lib.hid (Rw.below HR.out hb1)
            have k5 := Rw.cell HR1.out (j := 5) rfl
            have k6 := Rw.cell HR1.out (j := 6) rfl
            have k7 := Rw.cell HR1.out (j := 7) rfl
            have k8 := Rw.cell HR1.out (j := 8) rfl
            have k9 := Rw.cell HR1.out (j := 9) rfl
            clear hb1
            go_wp2_with fail
            go_ret
            refine ⟨?_, HB1.out⟩
            symm
            refine congrArg Ending.returned (strL_of ?_)
            rw [HRR.out]
            unfold textU userL2
            first
              | (simp [markL, eU.out, eP.out, ePt.out]; done)
              | (simp [mk_app, markL, eU.out, eP.out, ePt.out]; done)
              | simp [markL, HDL.out, eU.out, eP.out, ePt.out]
        · cases hf
          · go_enter Tryz.func12, Tryz.ntmps12
            go_wp2_with fail
            refine (HD.out _).mono ?_
            rintro e w1 ⟨rfl, hb1⟩
            have HB1 := Lib.hid (below_then HB.out hb1)
            have HR1 := Lib.hid (Rw.below HR.out hb1)
            have k5 := Rw.cell HR1.out (j := 5) rfl
            have k6 := Rw.cell HR1.out (j := 6) rfl
            have k7 := Rw.cell HR1.out (j := 7) rfl
            have k8 := Rw.cell HR1.out (j := 8) rfl
            have k9 := Rw.cell HR1.out (j := 9) rfl
            clear hb1
            go_wp2_with fail
            go_ret
            refine ⟨?_, HB1.out⟩
            symm
            refine congrArg Ending.returned (strL_of ?_)
            rw [HRR.out]
            unfold textU userL2
            first
              | (simp [markL, eU.out, eP.out, ePt.out]; done)
              | (simp [mk_app, markL, eU.out, eP.out, ePt.out]; done)
              | simp [markL, HDL.out, eU.out, eP.out, ePt.out]
          · go_enter Tryz.func12, Tryz.ntmps12
            go_wp2_with fail
            refine (HD.out _).mono ?_
            rintro e w1 ⟨rfl, hb1⟩
            have HB1 := Lib.hid (below_then HB.out hb1)
            have HR1 := Lib.hid (Rw.below HR.out hb1)
            have k5 := Rw.cell HR1.out (j := 5) rfl
            have k6 := Rw.cell HR1.out (j := 6) rfl
            have k7 := Rw.cell HR1.out (j := 7) rfl
            have k8 := Rw.cell HR1.out (j := 8) rfl
            have k9 := Rw.cell HR1.out (j := 9) rfl
            clear hb1
            go_wp2_with fail
            go_ret
            refine ⟨?_, HB1.out⟩
            symm
            refine congrArg Ending.returned (strL_of ?_)
            rw [HRR.out]
            unfold textU userL2
            first
              | (simp [markL, eU.out, eP.out, ePt.out]; done)
              | (simp [mk_app, markL, eU.out, eP.out, ePt.out]; done)
              | simp [markL, HDL.out, eU.out, eP.out, ePt.out]
  · have y1 := emptyNo hu
    have eU : Hid (U.data.toList ≠ []) := Lib.hid (ne_of_size hu)
    clear hu
    by_cases hp : P.size = 0
    · have y2 := emptyYes hp
      have eP : Hid (P.data.toList = []) := Lib.hid (nil_size hp)
      clear hp
      by_cases ht : pt = -1
      · have y3 : (pt != -1) = false := by simp [ht]
        have ePt : Hid (pt = -1) := Lib.hid ht
        clear ht
        cases hq
        · cases hf
          · go_enter Tryz.func12, Tryz.ntmps12
            go_wp2_with fail
            go_ret
            refine ⟨?_, HB.out⟩
            symm
            refine congrArg Ending.returned (strL_of ?_)
            rw [HRR.out]
            unfold textU userL2
            first
              | (simp [markL, eU.out, eP.out, ePt.out]; done)
              | (simp [mk_app, markL, eU.out, eP.out, ePt.out]; done)
              | simp [markL, HDL.out, eU.out, eP.out, ePt.out]
          · go_enter Tryz.func12, Tryz.ntmps12
            go_wp2_with fail
            go_ret
            refine ⟨?_, HB.out⟩
            symm
            refine congrArg Ending.returned (strL_of ?_)
            rw [HRR.out]
            unfold textU userL2
            first
              | (simp [markL, eU.out, eP.out, ePt.out]; done)
              | (simp [mk_app, markL, eU.out, eP.out, ePt.out]; done)
              | simp [markL, HDL.out, eU.out, eP.out, ePt.out]
        · cases hf
          · go_enter Tryz.func12, Tryz.ntmps12
            go_wp2_with fail
            go_ret
            refine ⟨?_, HB.out⟩
            symm
            refine congrArg Ending.returned (strL_of ?_)
            rw [HRR.out]
            unfold textU userL2
            first
              | (simp [markL, eU.out, eP.out, ePt.out]; done)
              | (simp [mk_app, markL, eU.out, eP.out, ePt.out]; done)
              | simp [markL, HDL.out, eU.out, eP.out, ePt.out]
          · go_enter Tryz.func12, Tryz.ntmps12
            go_wp2_with fail
            go_ret
            refine ⟨?_, HB.out⟩
            symm
            refine congrArg Ending.returned (strL_of ?_)
            rw [HRR.out]
            unfold textU userL2
            first
              | (simp [markL, eU.out, eP.out, ePt.out]; done)
              | (simp [mk_app, markL, eU.out, eP.out, ePt.out]; done)
              | simp [markL, HDL.out, eU.out, eP.out, ePt.out]
      · have y3 : (pt != -1) = true := by simp [ht]
        have ePt : Hid (pt ≠ -1) := Lib.hid ht
        clear ht
        cases hq
        · cases hf
          · go_enter Tryz.func12, Tryz.ntmps12
            go_wp2_with fail
            refine (HD.out _).mono ?_
            rintro e w1 ⟨rfl, hb1⟩
            have HB1 := Lib.hid (below_then HB.out hb1)
            have HR1 := Lib.hid (Rw.below HR.out hb1)
            have k5 := Rw.cell HR1.out (j := 5) rfl
            have k6 := Rw.cell HR1.out (j := 6) rfl
            have k7 := Rw.cell HR1.out (j := 7) rfl
            have k8 := Rw.cell HR1.out (j := 8) rfl
            have k9 := Rw.cell HR1.out (j := 9) rfl
            clear hb1
            go_wp2_with fail
            go_ret
            refine ⟨?_, HB1.out⟩
            symm
            refine congrArg Ending.returned (strL_of ?_)
            rw [HRR.out]
            unfold textU userL2
            first
              | (simp [markL, eU.out, eP.out, ePt.out]; done)
              | (simp [mk_app, markL, eU.out, eP.out, ePt.out]; done)
              | simp [markL, HDL.out, eU.out, eP.out, ePt.out]
          · go_enter Tryz.func12, Tryz.ntmps12
            go_wp2_with fail
            refine (HD.out _).mono ?_
            rintro e w1 ⟨rfl, hb1⟩
            have HB1 := Lib.hid (below_then HB.out hb1)
            have HR1 := Lib.hid (Rw.below HR.out hb1)
            have k5 := Rw.cell HR1.out (j := 5) rfl
            have k6 := Rw.cell HR1.out (j := 6) rfl
            have k7 := Rw.cell HR1.out (j := 7) rfl
            have k8 := Rw.cell HR1.out (j := 8) rfl
            have k9 := Rw.cell HR1.out (j := 9) rfl
            clear hb1
            go_wp2_with fail
            go_ret
            refine ⟨?_, HB1.out⟩
            symm
            refine congrArg Ending.returned (strL_of ?_)
            rw [HRR.out]
            unfold textU userL2
            first
              | (simp [markL, eU.out, eP.out, ePt.out]; done)
              | (simp [mk_app, markL, eU.out, eP.out, ePt.out]; done)
              | simp [markL, HDL.out, eU.out, eP.out, ePt.out]
        · cases hf
          · go_enter Tryz.func12, Tryz.ntmps12
            go_wp2_with fail
            refine (HD.out _).mono ?_
            rintro e w1 ⟨rfl, hb1⟩
            have HB1 := Lib.hid (below_then HB.out hb1)
            have HR1 := Lib.hid (Rw.below HR.out hb1)
            have k5 := Rw.cell HR1.out (j := 5) rfl
            have k6 := Rw.cell HR1.out (j := 6) rfl
            have k7 := Rw.cell HR1.out (j := 7) rfl
            have k8 := Rw.cell HR1.out (j := 8) rfl
            have k9 := Rw.cell HR1.out (j := 9) rfl
            clear hb1
            go_wp2_with fail
            go_ret
            refine ⟨?_, HB1.out⟩
            symm
            refine congrArg Ending.returned (strL_of ?_)
            rw [HRR.out]
            unfold textU userL2
            first
              | (simp [markL, eU.out, eP.out, ePt.out]; done)
              | (simp [mk_app, markL, eU.out, eP.out, ePt.out]; done)
              | simp [markL, HDL.out, eU.out, eP.out, ePt.out]
          · go_enter Tryz.func12, Tryz.ntmps12
            go_wp2_with fail
            refine (HD.out _).mono ?_
            rintro e w1 ⟨rfl, hb1⟩
            have HB1 := Lib.hid (below_then HB.out hb1)
            have HR1 := Lib.hid (Rw.below HR.out hb1)
            have k5 := Rw.cell HR1.out (j := 5) rfl
            have k6 := Rw.cell HR1.out (j := 6) rfl
            have k7 := Rw.cell HR1.out (j := 7) rfl
            have k8 := Rw.cell HR1.out (j := 8) rfl
            have k9 := Rw.cell HR1.out (j := 9) rfl
            clear hb1
            go_wp2_with fail
            go_ret
            refine ⟨?_, HB1.out⟩
            symm
            refine congrArg Ending.returned (strL_of ?_)
            rw [HRR.out]
            unfold textU userL2
            first
              | (simp [markL, eU.out, eP.out, ePt.out]; done)
              | (simp [mk_app, markL, eU.out, eP.out, ePt.out]; done)
              | simp [markL, HDL.out, eU.out, eP.out, ePt.out]
    · have y2 := emptyNo hp
      have eP : Hid (P.data.toList ≠ []) := Lib.hid (ne_of_size hp)
      clear hp
      by_cases ht : pt = -1
      · have y3 : (pt != -1) = false := by simp [ht]
        have ePt : Hid (pt = -1) := Lib.hid ht
        clear ht
        cases hq
        · cases hf
          · go_enter Tryz.func12, Tryz.ntmps12
            go_wp2_with fail
            go_ret
            refine ⟨?_, HB.out⟩
            symm
            refine congrArg Ending.returned (strL_of ?_)
            rw [HRR.out]
            unfold textU userL2
            first
              | (simp [markL, eU.out, eP.out, ePt.out]; done)
              | (simp [mk_app, markL, eU.out, eP.out, ePt.out]; done)
              | simp [markL, HDL.out, eU.out, eP.out, ePt.out]
          · go_enter Tryz.func12, Tryz.ntmps12
            go_wp2_with fail
            go_ret
            refine ⟨?_, HB.out⟩
            symm
            refine congrArg Ending.returned (strL_of ?_)
            rw [HRR.out]
            unfold textU userL2
            first
              | (simp [markL, eU.out, eP.out, ePt.out]; done)
              | (simp [mk_app, markL, eU.out, eP.out, ePt.out]; done)
              | simp [markL, HDL.out, eU.out, eP.out, ePt.out]
        · cases hf
          · go_enter Tryz.func12, Tryz.ntmps12
            go_wp2_with fail
            go_ret
            refine ⟨?_, HB.out⟩
            symm
            refine congrArg Ending.returned (strL_of ?_)
            rw [HRR.out]
            unfold textU userL2
            first
              | (simp [markL, eU.out, eP.out, ePt.out]; done)
              | (simp [mk_app, markL, eU.out, eP.out, ePt.out]; done)
              | simp [markL, HDL.out, eU.out, eP.out, ePt.out]
          · go_enter Tryz.func12, Tryz.ntmps12
            go_wp2_with fail
            go_ret
            refine ⟨?_, HB.out⟩
            symm
            refine congrArg Ending.returned (strL_of ?_)
            rw [HRR.out]
            unfold textU userL2
            first
              | (simp [markL, eU.out, eP.out, ePt.out]; done)
              | (simp [mk_app, markL, eU.out, eP.out, ePt.out]; done)
              | simp [markL, HDL.out, eU.out, eP.out, ePt.out]
      · have y3 : (pt != -1) = true := by simp [ht]
        have ePt : Hid (pt ≠ -1) := Lib.hid ht
        clear ht
        cases hq
        · cases hf
          · go_enter Tryz.func12, Tryz.ntmps12
            go_wp2_with fail
            refine (HD.out _).mono ?_
            rintro e w1 ⟨rfl, hb1⟩
            have HB1 := Lib.hid (below_then HB.out hb1)
            have HR1 := Lib.hid (Rw.below HR.out hb1)
            have k5 := Rw.cell HR1.out (j := 5) rfl
            have k6 := Rw.cell HR1.out (j := 6) rfl
            have k7 := Rw.cell HR1.out (j := 7) rfl
            have k8 := Rw.cell HR1.out (j := 8) rfl
            have k9 := Rw.cell HR1.out (j := 9) rfl
            clear hb1
            go_wp2_with fail
            go_ret
            refine ⟨?_, HB1.out⟩
            symm
            refine congrArg Ending.returned (strL_of ?_)
            rw [HRR.out]
            unfold textU userL2
            first
              | (simp [markL, eU.out, eP.out, ePt.out]; done)
              | (simp [mk_app, markL, eU.out, eP.out, ePt.out]; done)
              | simp [markL, HDL.out, eU.out, eP.out, ePt.out]
          · go_enter Tryz.func12, Tryz.ntmps12
            go_wp2_with fail
            refine (HD.out _).mono ?_
            rintro e w1 ⟨rfl, hb1⟩
            have HB1 := Lib.hid (below_then HB.out hb1)
            have HR1 := Lib.hid (Rw.below HR.out hb1)
            have k5 := Rw.cell HR1.out (j := 5) rfl
            have k6 := Rw.cell HR1.out (j := 6) rfl
            have k7 := Rw.cell HR1.out (j := 7) rfl
            have k8 := Rw.cell HR1.out (j := 8) rfl
            have k9 := Rw.cell HR1.out (j := 9) rfl
            clear hb1
            go_wp2_with fail
            go_ret
            refine ⟨?_, HB1.out⟩
            symm
            refine congrArg Ending.returned (strL_of ?_)
            rw [HRR.out]
            unfold textU userL2
            first
              | (simp [markL, eU.out, eP.out, ePt.out]; done)
              | (simp [mk_app, markL, eU.out, eP.out, ePt.out]; done)
              | simp [markL, HDL.out, eU.out, eP.out, ePt.out]
        · cases hf
          · go_enter Tryz.func12, Tryz.ntmps12
            go_wp2_with fail
            refine (HD.out _).mono ?_
            rintro e w1 ⟨rfl, hb1⟩
            have HB1 := Lib.hid (below_then HB.out hb1)
            have HR1 := Lib.hid (Rw.below HR.out hb1)
            have k5 := Rw.cell HR1.out (j := 5) rfl
            have k6 := Rw.cell HR1.out (j := 6) rfl
            have k7 := Rw.cell HR1.out (j := 7) rfl
            have k8 := Rw.cell HR1.out (j := 8) rfl
            have k9 := Rw.cell HR1.out (j := 9) rfl
            clear hb1
            go_wp2_with fail
            go_ret
            refine ⟨?_, HB1.out⟩
            symm
            refine congrArg Ending.returned (strL_of ?_)
            rw [HRR.out]
            unfold textU userL2
            first
              | (simp [markL, eU.out, eP.out, ePt.out]; done)
              | (simp [mk_app, markL, eU.out, eP.out, ePt.out]; done)
              | simp [markL, HDL.out, eU.out, eP.out, ePt.out]
          · go_enter Tryz.func12, Tryz.ntmps12
            go_wp2_with fail
            refine (HD.out _).mono ?_
            rintro e w1 ⟨rfl, hb1⟩
            have HB1 := Lib.hid (below_then HB.out hb1)
            have HR1 := Lib.hid (Rw.below HR.out hb1)
            have k5 := Rw.cell HR1.out (j := 5) rfl
            have k6 := Rw.cell HR1.out (j := 6) rfl
            have k7 := Rw.cell HR1.out (j := 7) rfl
            have k8 := Rw.cell HR1.out (j := 8) rfl
            have k9 := Rw.cell HR1.out (j := 9) rfl
            clear hb1
            go_wp2_with fail
            go_ret
            refine ⟨?_, HB1.out⟩
            symm
            refine congrArg Ending.returned (strL_of ?_)
            rw [HRR.out]
            unfold textU userL2
            first
              | (simp [markL, eU.out, eP.out, ePt.out]; done)
              | (simp [mk_app, markL, eU.out, eP.out, ePt.out]; done)
              | simp [markL, HDL.out, eU.out, eP.out, ePt.out]

end Go.Proofs.YtinocdddihjfeaaGreatDoor
