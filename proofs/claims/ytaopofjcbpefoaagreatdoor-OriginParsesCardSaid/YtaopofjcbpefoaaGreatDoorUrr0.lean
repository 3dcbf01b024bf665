/- The reference's Port and Text; is a URL short? -/
import Derived.Lib.ItoaLen
import Derived.Test.YtaopofjcbpefoaaGreatDoorProg
import Derived.Test.YtaopofjcbpefoaaGreatDoorKit
import Derived.Test.YtaopofjcbpefoaaGreatDoorRow
import Derived.Test.YtaopofjcbpefoaaGreatDoorUrl0
import Derived.Test.YtaopofjcbpefoaaGreatDoorUrl4
namespace Go.Proofs.YtaopofjcbpefoaaGreatDoor
open Go.RowKit Go.Proofs
set_option maxRecDepth 100000

theorem rPortU_any (S U P H T Q F : ByteArray) (pt : Int) (hq hf : Bool) (w : World) :
    Calls Tryz.prog 35 #[.agg #[.string S, .string U, .string P, .string H, .int .i64 pt, .string T, .bool hq, .string Q, .bool hf, .string F]] w fun e w' => e = .returned (.int .i64 (if pt = -1 then (defP S.data.toList).1 else pt)) ∧ Below w.heap.size w w' := by
  have HD := Lib.hid (fun W => rdef_any S W)
  obtain ⟨D, hD⟩ : ∃ D, D = (defP S.data.toList).1 := ⟨_, rfl⟩
  obtain ⟨B, hB⟩ : ∃ B, B = (defP S.data.toList).2 := ⟨_, rfl⟩
  rw [← hD, ← hB] at HD
  rw [← hD]
  have HB := Lib.hid (below_more (Below.refl _ w) (.cells #[.string S, .string U, .string P, .string H, .int .i64 pt, .string T, .bool hq, .string Q, .bool hf, .string F] 32))
  obtain ⟨R, hR⟩ : ∃ R, R = if pt = -1 then D else pt := ⟨_, rfl⟩
  rw [← hR]
  clear hD hB
  by_cases hp : pt = -1
  · have HR : Hid (R = D) := Lib.hid (by rw [hR, if_pos hp])
    have q1 : (pt != -1) = false := by simp [hp]
    clear hR hp
    go_enter Tryz.func35, Tryz.ntmps35
    go_wp2_with fail
    refine (HD.out _).mono ?_
    rintro e w1 ⟨rfl, rfl⟩
    go_wp2_with fail
    go_ret
    exact ⟨ret_int HR.out.symm, HB.out⟩
  · have HR : Hid (R = pt) := Lib.hid (by rw [hR, if_neg hp])
    have q1 : (pt != -1) = true := by simp [hp]
    clear hR hp
    go_enter Tryz.func35, Tryz.ntmps35
    go_wp2_with fail
    go_ret
    exact ⟨ret_int HR.out.symm, HB.out⟩

theorem aport_any (p : Int) (w : World) : Calls Tryz.prog 29 #[.int .i64 p] w fun e w' => e = .returned (.bool (decide (-1 ≤ p ∧ p ≤ 65535))) ∧ w' = w := by
  obtain ⟨R, hR⟩ : ∃ R, R = decide (-1 ≤ p ∧ p ≤ 65535) := ⟨_, rfl⟩
  rw [← hR]
  by_cases h1 : -1 ≤ p
  · by_cases h2 : p ≤ 65535
    · have HR : Hid (R = true) := Lib.hid (by rw [hR, decide_eq_true ⟨h1, h2⟩])
      clear hR
      go_enter Tryz.func29, Tryz.ntmps29
      go_wp2
      go_ret
      exact ⟨by rw [HR.out]; simp, rfl⟩
    · have HR : Hid (R = false) := Lib.hid (by rw [hR, decide_eq_false (fun h => h2 h.2)])
      clear hR
      go_enter Tryz.func29, Tryz.ntmps29
      go_wp2
      go_ret
      exact ⟨by rw [HR.out]; simp, rfl⟩
  · have HR : Hid (R = false) := Lib.hid (by rw [hR, decide_eq_false (fun h => h1 h.1)])
    clear hR
    go_enter Tryz.func29, Tryz.ntmps29
    go_wp2
    go_ret
    exact ⟨by rw [HR.out]; simp, rfl⟩

theorem aurl_any (S U P H T Q F : ByteArray) (pt : Int) (hq hf : Bool) (h1 : S.size ≤ 281474976710656) (h2 : U.size ≤ 281474976710656) (h3 : P.size ≤ 281474976710656) (h4 : H.size ≤ 281474976710656) (h5 : T.size ≤ 281474976710656) (h6 : Q.size ≤ 281474976710656) (h7 : F.size ≤ 281474976710656) (w : World) :
    Calls Tryz.prog 13 #[.agg #[.string S, .string U, .string P, .string H, .int .i64 pt, .string T, .bool hq, .string Q, .bool hf, .string F]] w fun e w' => e = .returned (.bool (decide ((-1 ≤ pt ∧ pt ≤ 65535) ∧ S.size + U.size + P.size + H.size + T.size + Q.size + F.size ≤ 3000))) ∧ Below w.heap.size w w' := by
  have HB := Lib.hid (below_more (Below.refl _ w) (.cells #[.string S, .string U, .string P, .string H, .int .i64 pt, .string T, .bool hq, .string Q, .bool hf, .string F] 32))
  have HP := Lib.hid (fun W => aport_any pt W)
  obtain ⟨R, hR⟩ : ∃ R, R = decide ((-1 ≤ pt ∧ pt ≤ 65535) ∧ S.size + U.size + P.size + H.size + T.size + Q.size + F.size ≤ 3000) := ⟨_, rfl⟩
  rw [← hR]
  by_cases hp : -1 ≤ pt ∧ pt ≤ 65535
  · rw [decide_eq_true hp] at HP
    have HR : Hid (R = decide ((S.size : Int) + U.size + P.size + H.size + T.size + Q.size + F.size ≤ 3000)) := Lib.hid (by
      rw [hR]
      by_cases hs : S.size + U.size + P.size + H.size + T.size + Q.size + F.size ≤ 3000
      · rw [decide_eq_true ⟨hp, hs⟩, decide_eq_true (by omega)]
      · rw [decide_eq_false (fun h => hs h.2), decide_eq_false (by omega)])
    clear hR hp
    go_enter Tryz.func13, Tryz.ntmps13
    go_wp2_with fail
    refine (HP.out _).mono ?_
    rintro e w1 ⟨rfl, rfl⟩
    go_wp2_with fail
    go_ret
    exact ⟨by rw [HR.out]; rfl, HB.out⟩
  · rw [decide_eq_false hp] at HP
    have HR : Hid (R = false) := Lib.hid (by rw [hR, decide_eq_false (fun h => hp h.1)])
    clear hR hp
    go_enter Tryz.func13, Tryz.ntmps13
    go_wp2_with fail
    refine (HP.out _).mono ?_
    rintro e w1 ⟨rfl, rfl⟩
    go_wp2_with fail
    go_ret
    exact ⟨by rw [HR.out]; rfl, HB.out⟩

end Go.Proofs.YtaopofjcbpefoaaGreatDoor
