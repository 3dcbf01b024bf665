/- OriginBack: its walk. -/
import Derived.Test.YtaopofjcbpefoaaGreatDoorProg
import Derived.Test.YtaopofjcbpefoaaGreatDoorKit
import Derived.Test.YtaopofjcbpefoaaGreatDoorRow
import Derived.Test.YtaopofjcbpefoaaGreatDoorPct7
import Derived.Test.YtaopofjcbpefoaaGreatDoorHst1
import Derived.Test.YtaopofjcbpefoaaGreatDoorHst6
import Derived.Test.YtaopofjcbpefoaaGreatDoorUrl0
import Derived.Test.YtaopofjcbpefoaaGreatDoorUrl4
import Derived.Test.YtaopofjcbpefoaaGreatDoorUrl6
import Derived.Test.YtaopofjcbpefoaaGreatDoorUrl12
import Derived.Test.YtaopofjcbpefoaaGreatDoorOrg0
import Derived.Test.YtaopofjcbpefoaaGreatDoorOrg3
namespace Go.Proofs.YtaopofjcbpefoaaGreatDoor
open Go.RowKit Go.Proofs
set_option maxRecDepth 100000

set_option maxHeartbeats 4000000 in
theorem originBack_any (s : ByteArray) (hs : s.size ≤ 140737488351232) (tl : ByteArray) (htl : tl.size ≤ 140737488351232) (w : World) (hE : Env11 w) :
    Calls Tryz.prog 6 #[.string s, .string tl] w fun e w' => e = .returned (.bool true) ∧ Below w.heap.size w w' := by
  have HE := Lib.hid hE
  have HAW := Lib.hid (fun W (hW : Env11 W) => oawake_any W hW)
  have hi1 : ¬ 9223372036854775807 < s.size + tl.size := by omega
  by_cases hbig : 3000 < s.size + tl.size
  · have hbz : (3000 : Int) < (s.size : Int) + (tl.size : Int) := by omega
    clear hbig hE
    go_enter Tryz.func6, Tryz.ntmps6
    go_wp2_with fail
    refine (HAW.out _ HE.out).mono ?_
    rintro e w1 ⟨rfl, hb1⟩
    have HB1 := Lib.hid (hb1)
    clear hb1
    go_wp2_with fail
    go_ret
    exact ⟨rfl, HB1.out⟩
  have hbz : ¬ (3000 : Int) < (s.size : Int) + (tl.size : Int) := by omega
  have HP := Lib.hid (oof_any s (by omega) w hE)
  obtain ⟨o, ho⟩ : ∃ o, o = urlP s.data.toList := ⟨_, rfl⟩
  rw [← ho] at HP
  cases o with
  | none =>
    have HP2 : Hid (Calls Tryz.prog 26 #[.string s] w fun e w' => e = .returned (.tuple #[.agg #[.string ⟨#[]⟩, .string ⟨#[]⟩, .int .i64 0], .bool false]) ∧ Below w.heap.size w w') := HP
    clear ho hbig hE HP
    go_enter Tryz.func6, Tryz.ntmps6
    go_wp2_with fail
    refine HP2.out.mono ?_
    rintro e w1 ⟨rfl, hb1⟩
    have HB1 := Lib.hid (below_more hb1 (.cells #[.string ⟨#[]⟩, .string ⟨#[]⟩, .int .i64 0] 24))
    clear hb1
    go_wp2_with fail
    refine (HAW.out _ (env_below HE.out HB1.out)).mono ?_
    rintro e w2 ⟨rfl, hb2⟩
    have HB2 := Lib.hid (below_then HB1.out hb2)
    clear hb2
    go_wp2_with fail
    go_ret
    exact ⟨rfl, HB2.out⟩
  | some u =>
    have hsh := org_shape ho.symm
    have hln : s.data.toList.length ≤ 3000 := by rw [size_data]; omega
    have htn : tl.data.toList.length ≤ 3000 := by rw [size_data]; omega
    have hbk := org_back hsh (by omega)
    have htx := org_text hsh
    obtain ⟨q1, q2, q3⟩ := textS_plain hsh
    have hmo := org_more hsh (by omega) tl.data.toList htn
    have hbd := org_bad (textS u ++ [47]) (plain_app q1 (by unfold plainL; decide)) tl.data.toList
    have hof : ofU u = ⟨u.sch, u.hos, pU u.sch u.prt⟩ := rfl
    have hpb : -9223372036854775808 ≤ pU u.sch u.prt ∧ pU u.sch u.prt ≤ 9223372036854775807 := by
      have := def_bd u.sch
      unfold pU
      rcases hsh.oprt with hp | ⟨h1, h2, _⟩
      · rw [if_pos hp]; omega
      · rw [if_neg (by omega)]; omega
    have hsz : u.sch.length ≤ 5 ∧ u.hos.length ≤ 3016 := by
      obtain ⟨_, _, _, s4⟩ := scheme_fact hsh.osch
      have := hsh.ohos.2.2.2.2
      omega
    have hsn := sch_ne hsh.osch
    obtain ⟨p, hp⟩ : ∃ p, p = pU u.sch u.prt := ⟨_, rfl⟩
    obtain ⟨S, hS⟩ : ∃ S : ByteArray, S = ⟨u.sch.toArray⟩ := ⟨_, rfl⟩
    obtain ⟨H, hH⟩ : ∃ H : ByteArray, H = ⟨u.hos.toArray⟩ := ⟨_, rfl⟩
    obtain ⟨X, hX⟩ : ∃ X : ByteArray, X = ⟨(textS u).toArray⟩ := ⟨_, rfl⟩
    have hXs : X.size ≤ 3060 := by rw [hX, mk_size]; omega
    have HP2 : Hid (Calls Tryz.prog 26 #[.string s] w fun e w' => e = .returned (.tuple #[.agg #[.string S, .string H, .int .i64 p], .bool true]) ∧ Below w.heap.size w w') := Lib.hid (by
      rw [hS, hH, hp]
      exact HP.out)
    have HTX : Hid (∀ W, Env11 W → Calls Tryz.prog 14 #[.agg #[.string S, .string H, .int .i64 p]] W fun e w' => e = .returned (.string X) ∧ Below W.heap.size W w') := Lib.hid (by
      intro W hW
      rw [hX, ← htx, hof, hp, hS, hH]
      exact otext_any ⟨u.sch.toArray⟩ ⟨u.hos.toArray⟩ (pU u.sch u.prt) (by rw [mk_size]; omega) (by rw [mk_size]; omega) hpb W hW.2.1)
    have HPA : Hid (∀ W, Env11 W → Calls Tryz.prog 10 #[.string X] W fun e w' => e = .returned (.tuple #[.agg #[.string S, .string H, .int .i64 p], .int .i64 0]) ∧ Below W.heap.size W w') := Lib.hid (by
      intro W hW
      have h := oparse_any X (by omega) W hW
      have e1 : X.data.toList = textO (ofU u) := by rw [hX, htx]
      rw [e1, hbk, hof] at h
      rw [hS, hH, hp]
      exact h)
    have HSA : Hid (∀ W, Calls Tryz.prog 20 #[.agg #[.string S, .string H, .int .i64 p], .agg #[.string S, .string H, .int .i64 p]] W fun e w' => e = .returned (.bool true) ∧ Below W.heap.size W w') := Lib.hid (by
      intro W
      refine (osame_any S H S H p p W).mono ?_
      rintro e w' ⟨rfl, hb⟩
      refine ⟨?_, hb⟩
      have e1 : sameO ⟨S.data.toList, H.data.toList, p⟩ ⟨S.data.toList, H.data.toList, p⟩ = true := by
        unfold sameO
        rw [decide_eq_true ⟨rfl, rfl, rfl⟩, decide_eq_false]
        · rfl
        · intro hh
          apply hsn
          have := hh.1
          rw [hS] at this
          exact this
      rw [e1])
    have t1 : ¬ 9223372036854775807 < X.size + 1 := by omega
    have t2 : ¬ 9223372036854775807 < X.size + 1 + tl.size := by omega
    have hq : ((X ++ ⟨#[47]⟩) ++ tl).data.toList = textS u ++ 47 :: tl.data.toList := by
      rw [mk_app, mk_app, hX]
      simp
    have hqs : ((X ++ ⟨#[47]⟩) ++ tl).size ≤ 1073741824 := by
      rw [ByteArray.size_append, ByteArray.size_append, show (⟨#[47]⟩ : ByteArray).size = 1 from rfl]
      omega
    have HU8 := Lib.hid (fun W => ref_utf8_any tl (by omega) W)
    cases hv : Lib.validD tl.data.toList
    · rw [hv] at HU8
      have HQ : Hid (∀ W, Env11 W → Calls Tryz.prog 26 #[.string ((X ++ ⟨#[47]⟩) ++ tl)] W fun e w' => e = .returned (.tuple #[.agg #[.string ⟨#[]⟩, .string ⟨#[]⟩, .int .i64 0], .bool false]) ∧ Below W.heap.size W w') := Lib.hid (by
        intro W hW
        have h := oof_any _ hqs W hW
        have e1 : textS u ++ 47 :: tl.data.toList = (textS u ++ [47]) ++ tl.data.toList := by simp
        rw [hq, e1, hbd hv] at h
        exact h)
      clear hp hS hH hX hXs hqs hq hsn hsz hpb hof hbd hmo q1 q2 q3 htx hbk htn hln hsh ho hbig hE HP hv
      go_enter Tryz.func6, Tryz.ntmps6
      go_wp2_with fail
      refine HP2.out.mono ?_
      rintro e w1 ⟨rfl, hb1⟩
      have HB1 := Lib.hid (below_more hb1 (.cells #[.string S, .string H, .int .i64 p] 24))
      have HO1 : Hid (Rw (w1.alloc (.cells #[.string S, .string H, .int .i64 p] 24)) 0 w1.heap.size 24 [.string S, .string H, .int .i64 p]) := Lib.hid (Rw.alloc w1 _ _ (Nat.zero_le _))
      clear hb1
      have k0 := Rw.cell HO1.out (j := 0) rfl
      have k1 := Rw.cell HO1.out (j := 1) rfl
      have k2 := Rw.cell HO1.out (j := 2) rfl
      go_wp2_with fail
      refine (HTX.out _ (env_below HE.out HB1.out)).mono ?_
      rintro e w2 ⟨rfl, hb2⟩
      have HB2 := Lib.hid (below_then HB1.out hb2)
      have HO2 := Lib.hid (Rw.below HO1.out hb2)
      clear hb2 k0 k1 k2
      have k0 := Rw.cell HO2.out (j := 0) rfl
      have k1 := Rw.cell HO2.out (j := 1) rfl
      have k2 := Rw.cell HO2.out (j := 2) rfl
      go_wp2_with fail
      refine (HPA.out _ (env_below HE.out HB2.out)).mono ?_
      rintro e w3 ⟨rfl, hb3⟩
      have HB3 := Lib.hid (below_more (below_then HB2.out hb3) (.cells #[.string S, .string H, .int .i64 p] 24))
      have HO3 := Lib.hid (Rw.more (Rw.below HO2.out hb3) (.cells #[.string S, .string H, .int .i64 p] 24))
      have HP3 : Hid (Rw (w3.alloc (.cells #[.string S, .string H, .int .i64 p] 24)) 0 w3.heap.size 24 [.string S, .string H, .int .i64 p]) := Lib.hid (Rw.alloc w3 _ _ (Nat.zero_le _))
      clear hb3 k0 k1 k2
      have k0 := Rw.cell HO3.out (j := 0) rfl
      have k1 := Rw.cell HO3.out (j := 1) rfl
      have k2 := Rw.cell HO3.out (j := 2) rfl
      go_wp2_with fail
      refine (HTX.out _ (env_below HE.out HB3.out)).mono ?_
      rintro e w4 ⟨rfl, hb4⟩
      have HB4 := Lib.hid (below_then HB3.out hb4)
      have HO4 := Lib.hid (Rw.below HO3.out hb4)
      have HP4 := Lib.hid (Rw.below HP3.out hb4)
      clear hb4 k0 k1 k2
      go_wp2_with fail
      refine (HQ.out _ (env_below HE.out HB4.out)).mono ?_
      rintro e w5 ⟨rfl, hb5⟩
      have HB5 := Lib.hid (below_more (below_then HB4.out hb5) (.cells #[.string ⟨#[]⟩, .string ⟨#[]⟩, .int .i64 0] 24))
      have HO5 := Lib.hid (Rw.more (Rw.below HO4.out hb5) (.cells #[.string ⟨#[]⟩, .string ⟨#[]⟩, .int .i64 0] 24))
      have HP5 := Lib.hid (Rw.more (Rw.below HP4.out hb5) (.cells #[.string ⟨#[]⟩, .string ⟨#[]⟩, .int .i64 0] 24))
      have HQ5 : Hid (Rw (w5.alloc (.cells #[.string ⟨#[]⟩, .string ⟨#[]⟩, .int .i64 0] 24)) 0 w5.heap.size 24 [.string ⟨#[]⟩, .string ⟨#[]⟩, .int .i64 0]) := Lib.hid (Rw.alloc w5 _ _ (Nat.zero_le _))
      clear hb5
      have k0 := Rw.cell HO5.out (j := 0) rfl
      have k1 := Rw.cell HO5.out (j := 1) rfl
      have k2 := Rw.cell HO5.out (j := 2) rfl
      have m0 := Rw.cell HP5.out (j := 0) rfl
      have m1 := Rw.cell HP5.out (j := 1) rfl
      have m2 := Rw.cell HP5.out (j := 2) rfl
      go_wp2_with fail
      refine (HSA.out _).mono ?_
      rintro e w6 ⟨rfl, hb6⟩
      have HB6 := Lib.hid (below_then HB5.out hb6)
      have HO6 := Lib.hid (Rw.below HO5.out hb6)
      have HQ6 := Lib.hid (Rw.below HQ5.out hb6)
      clear hb6 k0 k1 k2 m0 m1 m2
      go_wp2_with fail
      refine (HU8.out _).mono ?_
      rintro e w7 ⟨rfl, rfl⟩
      go_wp2_with fail
      refine (HAW.out _ (env_below HE.out HB6.out)).mono ?_
      rintro e w9 ⟨rfl, hb9⟩
      have HB9 := Lib.hid (below_then HB6.out hb9)
      clear hb9
      go_wp2_with fail
      go_ret
      exact ⟨rfl, HB9.out⟩
    · rw [hv] at HU8
      have HQ : Hid (∀ W, Env11 W → Calls Tryz.prog 26 #[.string ((X ++ ⟨#[47]⟩) ++ tl)] W fun e w' => e = .returned (.tuple #[.agg #[.string S, .string H, .int .i64 p], .bool true]) ∧ Below W.heap.size W w') := Lib.hid (by
        intro W hW
        have h := oof_any _ hqs W hW
        obtain ⟨v, hv1, hv2⟩ := hmo hv
        have e2 : oofR (some v) = .tuple #[orgV (ofU u), .bool true] := by rw [← hv2]; rfl
        rw [hq, hv1, e2, hof] at h
        rw [hS, hH, hp]
        exact h)
      clear hp hS hH hX hXs hqs hq hsn hsz hpb hof hbd hmo q1 q2 q3 htx hbk htn hln hsh ho hbig hE HP hv
      go_enter Tryz.func6, Tryz.ntmps6
      go_wp2_with fail
      refine HP2.out.mono ?_
      rintro e w1 ⟨rfl, hb1⟩
      have HB1 := Lib.hid (below_more hb1 (.cells #[.string S, .string H, .int .i64 p] 24))
      have HO1 : Hid (Rw (w1.alloc (.cells #[.string S, .string H, .int .i64 p] 24)) 0 w1.heap.size 24 [.string S, .string H, .int .i64 p]) := Lib.hid (Rw.alloc w1 _ _ (Nat.zero_le _))
      clear hb1
      have k0 := Rw.cell HO1.out (j := 0) rfl
      have k1 := Rw.cell HO1.out (j := 1) rfl
      have k2 := Rw.cell HO1.out (j := 2) rfl
      go_wp2_with fail
      refine (HTX.out _ (env_below HE.out HB1.out)).mono ?_
      rintro e w2 ⟨rfl, hb2⟩
      have HB2 := Lib.hid (below_then HB1.out hb2)
      have HO2 := Lib.hid (Rw.below HO1.out hb2)
      clear hb2 k0 k1 k2
      have k0 := Rw.cell HO2.out (j := 0) rfl
      have k1 := Rw.cell HO2.out (j := 1) rfl
      have k2 := Rw.cell HO2.out (j := 2) rfl
      go_wp2_with fail
      refine (HPA.out _ (env_below HE.out HB2.out)).mono ?_
      rintro e w3 ⟨rfl, hb3⟩
      have HB3 := Lib.hid (below_more (below_then HB2.out hb3) (.cells #[.string S, .string H, .int .i64 p] 24))
      have HO3 := Lib.hid (Rw.more (Rw.below HO2.out hb3) (.cells #[.string S, .string H, .int .i64 p] 24))
      have HP3 : Hid (Rw (w3.alloc (.cells #[.string S, .string H, .int .i64 p] 24)) 0 w3.heap.size 24 [.string S, .string H, .int .i64 p]) := Lib.hid (Rw.alloc w3 _ _ (Nat.zero_le _))
      clear hb3 k0 k1 k2
      have k0 := Rw.cell HO3.out (j := 0) rfl
      have k1 := Rw.cell HO3.out (j := 1) rfl
      have k2 := Rw.cell HO3.out (j := 2) rfl
      go_wp2_with fail
      refine (HTX.out _ (env_below HE.out HB3.out)).mono ?_
      rintro e w4 ⟨rfl, hb4⟩
      have HB4 := Lib.hid (below_then HB3.out hb4)
      have HO4 := Lib.hid (Rw.below HO3.out hb4)
      have HP4 := Lib.hid (Rw.below HP3.out hb4)
      clear hb4 k0 k1 k2
      go_wp2_with fail
      refine (HQ.out _ (env_below HE.out HB4.out)).mono ?_
      rintro e w5 ⟨rfl, hb5⟩
      have HB5 := Lib.hid (below_more (below_then HB4.out hb5) (.cells #[.string S, .string H, .int .i64 p] 24))
      have HO5 := Lib.hid (Rw.more (Rw.below HO4.out hb5) (.cells #[.string S, .string H, .int .i64 p] 24))
      have HP5 := Lib.hid (Rw.more (Rw.below HP4.out hb5) (.cells #[.string S, .string H, .int .i64 p] 24))
      have HQ5 : Hid (Rw (w5.alloc (.cells #[.string S, .string H, .int .i64 p] 24)) 0 w5.heap.size 24 [.string S, .string H, .int .i64 p]) := Lib.hid (Rw.alloc w5 _ _ (Nat.zero_le _))
      clear hb5
      have k0 := Rw.cell HO5.out (j := 0) rfl
      have k1 := Rw.cell HO5.out (j := 1) rfl
      have k2 := Rw.cell HO5.out (j := 2) rfl
      have m0 := Rw.cell HP5.out (j := 0) rfl
      have m1 := Rw.cell HP5.out (j := 1) rfl
      have m2 := Rw.cell HP5.out (j := 2) rfl
      go_wp2_with fail
      refine (HSA.out _).mono ?_
      rintro e w6 ⟨rfl, hb6⟩
      have HB6 := Lib.hid (below_then HB5.out hb6)
      have HO6 := Lib.hid (Rw.below HO5.out hb6)
      have HQ6 := Lib.hid (Rw.below HQ5.out hb6)
      clear hb6 k0 k1 k2 m0 m1 m2
      go_wp2_with fail
      refine (HU8.out _).mono ?_
      rintro e w7 ⟨rfl, rfl⟩
      have k0 := Rw.cell HO6.out (j := 0) rfl
      have k1 := Rw.cell HO6.out (j := 1) rfl
      have k2 := Rw.cell HO6.out (j := 2) rfl
      have m0 := Rw.cell HQ6.out (j := 0) rfl
      have m1 := Rw.cell HQ6.out (j := 1) rfl
      have m2 := Rw.cell HQ6.out (j := 2) rfl
      go_wp2_with fail
      refine (HSA.out _).mono ?_
      rintro e w8 ⟨rfl, hb8⟩
      have HB8 := Lib.hid (below_then HB6.out hb8)
      clear hb8 k0 k1 k2 m0 m1 m2
      go_wp2_with fail
      refine (HAW.out _ (env_below HE.out HB8.out)).mono ?_
      rintro e w9 ⟨rfl, hb9⟩
      have HB9 := Lib.hid (below_then HB8.out hb9)
      clear hb9
      go_wp2_with fail
      go_ret
      exact ⟨rfl, HB9.out⟩

end Go.Proofs.YtaopofjcbpefoaaGreatDoor
