/- The reference's Origin; OriginParses' walk. -/
import Derived.Deep.MidRow
import Derived.Test.YtaopofjcbpefoaaGreatDoorProg
import Derived.Test.YtaopofjcbpefoaaGreatDoorKit
import Derived.Test.YtaopofjcbpefoaaGreatDoorRow
import Derived.Test.YtaopofjcbpefoaaGreatDoorTxt2
import Derived.Test.YtaopofjcbpefoaaGreatDoorMd1
import Derived.Test.YtaopofjcbpefoaaGreatDoorHst1
import Derived.Test.YtaopofjcbpefoaaGreatDoorUrl0
import Derived.Test.YtaopofjcbpefoaaGreatDoorUrl4
import Derived.Test.YtaopofjcbpefoaaGreatDoorUrl6
import Derived.Test.YtaopofjcbpefoaaGreatDoorUrl12
import Derived.Test.YtaopofjcbpefoaaGreatDoorUrr3
import Derived.Test.YtaopofjcbpefoaaGreatDoorOrg0
import Derived.Test.YtaopofjcbpefoaaGreatDoorOrg3
import Derived.Test.YtaopofjcbpefoaaGreatDoorOrg10
namespace Go.Proofs.YtaopofjcbpefoaaGreatDoor
open Go.RowKit Go.Proofs
set_option maxRecDepth 100000

set_option maxHeartbeats 2000000 in
theorem rorigin_any (s : ByteArray) (hs : s.size ≤ 1073741824) (w : World) :
    Calls Tryz.prog 11 #[.string s] w fun e w' => e = .returned (orgR (parseO s.data.toList)) ∧ Below w.heap.size w w' := by
  have hz := zero_cells Tryz.infoOrg
  obtain ⟨R, hR⟩ : ∃ R, R = parseO s.data.toList := ⟨_, rfl⟩
  rw [← hR]
  have HB0 := Lib.hid (below_more (Below.refl _ w) (.cells #[.string ⟨#[]⟩, .string ⟨#[]⟩, .int .i64 0] 24))
  have HZ0 : Hid (Rw (w.alloc (.cells #[.string ⟨#[]⟩, .string ⟨#[]⟩, .int .i64 0] 24)) 0 w.heap.size 24 [.string ⟨#[]⟩, .string ⟨#[]⟩, .int .i64 0]) := Lib.hid (Rw.alloc w _ _ (Nat.zero_le _))
  by_cases hn : s.data.toList = nullL
  · have HRN : Hid (R = some orgZ) := Lib.hid (by rw [hR]; unfold parseO; rw [if_pos hn])
    have q : (s.toList == [110, 117, 108, 108]) = true := lit_yes hn
    clear hR hn
    go_enter Tryz.func11, Tryz.ntmps11
    go_wp2_with fail
    refine bodyPost_ret (v := .tuple #[orgV orgZ, .int .i64 0]) ?_ rfl ?_
    case refine_2 => rw [HRN.out]; exact ⟨rfl, HB0.out⟩
    exact results_row_tmp rfl _ _ w.heap.size 0 24 [.string ⟨#[]⟩, .string ⟨#[]⟩, .int .i64 0] _ rfl HZ0.out Tryz.underlying24 rfl Tryz.sizeOrg (.int .i64 0) rfl
  have q : (s.toList == [110, 117, 108, 108]) = false := lit_no hn
  by_cases hbig : 65536 < s.size
  · have HRN : Hid (R = none) := Lib.hid (by
      have hu : urlP s.data.toList = none := by unfold urlP; rw [if_neg (by rw [size_data]; omega)]
      rw [hR]
      unfold parseO
      rw [if_neg hn, hu]
      rfl)
    have hbz : (65536 : Int) < (s.size : Int) := by omega
    have c0 := Rw.cell HZ0.out (j := 0) rfl
    have c1 := Rw.cell HZ0.out (j := 1) rfl
    have c2 := Rw.cell HZ0.out (j := 2) rfl
    have f0 := Rw.free HZ0.out 0
    have f1 := Rw.free HZ0.out 1
    have f2 := Rw.free HZ0.out 2
    clear hR hn hbig
    go_enter Tryz.func11, Tryz.ntmps11
    go_wp2_with fail
    refine bodyPost_ret (v := .tuple #[orgV orgZ, .int .i64 8]) ?_ rfl ?_
    case refine_2 => rw [HRN.out]; exact ⟨rfl, HB0.out⟩
    exact results_row_tmp rfl _ _ w.heap.size 0 24 [.string ⟨#[]⟩, .string ⟨#[]⟩, .int .i64 0] _ rfl HZ0.out Tryz.underlying24 rfl Tryz.sizeOrg (.int .i64 8) rfl
  have hbz : ¬ (65536 : Int) < (s.size : Int) := by omega
  have HP := Lib.hid (rurl_any s hs (w.alloc (.cells #[.string ⟨#[]⟩, .string ⟨#[]⟩, .int .i64 0] 24)))
  obtain ⟨o, ho⟩ : ∃ o, o = urlP s.data.toList := ⟨_, rfl⟩
  rw [← ho] at HP
  cases o with
  | none =>
    have HRN : Hid (R = none) := Lib.hid (by rw [hR]; unfold parseO; rw [if_neg hn, ← ho]; rfl)
    have HP2 : Hid (Calls Tryz.prog 19 #[.string s] (w.alloc (.cells #[.string ⟨#[]⟩, .string ⟨#[]⟩, .int .i64 0] 24)) fun e w' => e = .returned (.tuple #[.agg #[.string ⟨#[]⟩, .string ⟨#[]⟩, .string ⟨#[]⟩, .string ⟨#[]⟩, .int .i64 0, .string ⟨#[]⟩, .bool false, .string ⟨#[]⟩, .bool false, .string ⟨#[]⟩], .int .i64 8]) ∧ Below (w.alloc (.cells #[.string ⟨#[]⟩, .string ⟨#[]⟩, .int .i64 0] 24)).heap.size (w.alloc (.cells #[.string ⟨#[]⟩, .string ⟨#[]⟩, .int .i64 0] 24)) w') := HP
    clear hR hn HP ho hbig
    go_enter Tryz.func11, Tryz.ntmps11
    go_wp2_with fail
    refine HP2.out.mono ?_
    rintro e w1 ⟨rfl, hb1⟩
    have HB1 := Lib.hid (below_more (below_then HB0.out hb1) (.cells #[.string ⟨#[]⟩, .string ⟨#[]⟩, .string ⟨#[]⟩, .string ⟨#[]⟩, .int .i64 0, .string ⟨#[]⟩, .bool false, .string ⟨#[]⟩, .bool false, .string ⟨#[]⟩] 32))
    have HZ1 := Lib.hid (Rw.more (Rw.below HZ0.out hb1) (.cells #[.string ⟨#[]⟩, .string ⟨#[]⟩, .string ⟨#[]⟩, .string ⟨#[]⟩, .int .i64 0, .string ⟨#[]⟩, .bool false, .string ⟨#[]⟩, .bool false, .string ⟨#[]⟩] 32))
    clear hb1
    have c0 := Rw.cell HZ1.out (j := 0) rfl
    have c1 := Rw.cell HZ1.out (j := 1) rfl
    have c2 := Rw.cell HZ1.out (j := 2) rfl
    have f0 := Rw.free HZ1.out 0
    have f1 := Rw.free HZ1.out 1
    have f2 := Rw.free HZ1.out 2
    go_wp2_with fail
    have HW := Rw.storedAll HZ1.out [.string ⟨#[]⟩, .string ⟨#[]⟩, .int .i64 0] rfl
    refine bodyPost_ret (v := .tuple #[.agg ([.string ⟨#[]⟩, .string ⟨#[]⟩, .int .i64 0] : List Value).toArray, .int .i64 8]) ?_ rfl ?_
    case refine_2 => rw [HRN.out]; exact ⟨rfl, below_stores HB1.out (Nat.le_refl _) [.string ⟨#[]⟩, .string ⟨#[]⟩, .int .i64 0]⟩
    exact results_row_tmp rfl _ _ w.heap.size 0 24 [.string ⟨#[]⟩, .string ⟨#[]⟩, .int .i64 0] _ rfl HW Tryz.underlying24 rfl Tryz.sizeOrg (.int .i64 8) rfl
  | some u =>
    have hsh := org_shape ho.symm
    have hsl : s.data.toList.length ≤ 1073741824 := by rw [size_data]; exact hs
    have HP2 : Hid (Calls Tryz.prog 19 #[.string s] (w.alloc (.cells #[.string ⟨#[]⟩, .string ⟨#[]⟩, .int .i64 0] 24)) fun e w' => e = .returned (parsedV u 0) ∧ Below (w.alloc (.cells #[.string ⟨#[]⟩, .string ⟨#[]⟩, .int .i64 0] 24)).heap.size (w.alloc (.cells #[.string ⟨#[]⟩, .string ⟨#[]⟩, .int .i64 0] 24)) w') := HP
    have hR2 : R = if textO (ofU u) = s.data.toList then some (ofU u) else none := by rw [hR]; unfold parseO; rw [if_neg hn, ← ho]; rfl
    have hofs : ofU u = ⟨u.sch, u.hos, pU u.sch u.prt⟩ := rfl
    have hpb : -9223372036854775808 ≤ pU u.sch u.prt ∧ pU u.sch u.prt ≤ 9223372036854775807 := by
      have := def_bd u.sch
      unfold pU
      rcases hsh.oprt with hp | ⟨h1, h2, _⟩
      · rw [if_pos hp]; omega
      · rw [if_neg (by omega)]; omega
    have hsz : u.sch.length ≤ 1073741824 ∧ u.hos.length ≤ 1073741824 + 16 := by
      obtain ⟨_, _, _, s4⟩ := scheme_fact hsh.osch
      have := hsh.ohos.2.2.2.2
      omega
    have hsz2 : u.hos.length ≤ 65552 := by
      have h1 := hsh.ohos.2.2.2.2
      have h2 := url_short ho.symm
      omega
    obtain ⟨pt, hpt⟩ : ∃ pt, pt = u.prt := ⟨_, rfl⟩
    obtain ⟨hq, hhq⟩ : ∃ hq, hq = u.hq := ⟨_, rfl⟩
    obtain ⟨hf, hhf⟩ : ∃ hf, hf = u.hf := ⟨_, rfl⟩
    obtain ⟨S, hS⟩ : ∃ S : ByteArray, S = ⟨u.sch.toArray⟩ := ⟨_, rfl⟩
    obtain ⟨U, hU⟩ : ∃ U : ByteArray, U = ⟨u.usr.toArray⟩ := ⟨_, rfl⟩
    obtain ⟨P, hP⟩ : ∃ P : ByteArray, P = ⟨u.pas.toArray⟩ := ⟨_, rfl⟩
    obtain ⟨H, hH⟩ : ∃ H : ByteArray, H = ⟨u.hos.toArray⟩ := ⟨_, rfl⟩
    obtain ⟨T, hT⟩ : ∃ T : ByteArray, T = ⟨u.pth.toArray⟩ := ⟨_, rfl⟩
    obtain ⟨Q, hQ⟩ : ∃ Q : ByteArray, Q = ⟨u.qry.toArray⟩ := ⟨_, rfl⟩
    obtain ⟨F, hF⟩ : ∃ F : ByteArray, F = ⟨u.frg.toArray⟩ := ⟨_, rfl⟩
    have HO : Hid (∀ W, Calls Tryz.prog 17 #[.agg #[.string S, .string U, .string P, .string H, .int .i64 pt, .string T, .bool hq, .string Q, .bool hf, .string F]] W fun e w' => e = .returned (.agg #[.string S, .string H, .int .i64 (pU S.data.toList pt)]) ∧ Below W.heap.size W w') := Lib.hid (fun W => roOf_any S U P H T Q F pt hq hf W)
    obtain ⟨p, hp⟩ : ∃ p, p = pU S.data.toList pt := ⟨_, rfl⟩
    rw [← hp] at HO
    have hp2 : p = pU u.sch u.prt := by rw [hp, hS, hpt]
    obtain ⟨X, hX⟩ : ∃ X : ByteArray, X = ⟨(textO (ofU u)).toArray⟩ := ⟨_, rfl⟩
    have hpb2 : 0 ≤ pU u.sch u.prt ∧ pU u.sch u.prt ≤ 65535 := by
      have := def_bd u.sch
      unfold pU
      rcases hsh.oprt with hp | ⟨h1, h2, _⟩
      · rw [if_pos hp]; omega
      · rw [if_neg (by omega)]; omega
    have HTX : Hid (∀ W, Calls Tryz.prog 15 #[.agg #[.string S, .string H, .int .i64 p]] W fun e w' => e = .returned (.string X) ∧ Below W.heap.size W w') := Lib.hid (by
      intro W
      rw [hX, hofs, hp2, hS, hH]
      exact rotext_any ⟨u.sch.toArray⟩ ⟨u.hos.toArray⟩ (pU u.sch u.prt) hsz.1 (by rw [mk_size]; omega) hpb2 W)
    obtain ⟨b, hb⟩ : ∃ b, b = decide (textO (ofU u) = s.data.toList) := ⟨_, rfl⟩
    have qx : (X.toList == s.toList) = b := by
      rw [hb, ByteArray.toList_eq, ByteArray.toList_eq, hX, Bool.eq_iff_iff]
      simp
    have HRb : Hid ((b = true → R = some ⟨S.data.toList, H.data.toList, p⟩) ∧ (b = false → R = none)) := Lib.hid (by
      rw [hR2, hb]
      refine ⟨fun h => ?_, fun h => ?_⟩
      · rw [if_pos (of_decide_eq_true h), hofs, hS, hH, hp2]
      · rw [if_neg (of_decide_eq_false h)])
    unfold parsedV at HP2
    rw [← hS, ← hU, ← hP, ← hH, ← hT, ← hQ, ← hF, ← hpt, ← hhq, ← hhf] at HP2
    clear hpt hhq hhf hS hU hP hH hT hQ hF hp hp2 hX hb hR hR2 hofs hpb hsz hsz2 hsl hsh ho hn HP hpb2 hbig
    cases b
    · skip
      go_enter Tryz.func11, Tryz.ntmps11
      go_wp2_with fail
      refine HP2.out.mono ?_
      rintro e w1 ⟨rfl, hb1⟩
      have HB1 := Lib.hid (below_more (below_then HB0.out hb1) (.cells #[.string S, .string U, .string P, .string H, .int .i64 pt, .string T, .bool hq, .string Q, .bool hf, .string F] 32))
      have HZ1 := Lib.hid (Rw.more (Rw.below HZ0.out hb1) (.cells #[.string S, .string U, .string P, .string H, .int .i64 pt, .string T, .bool hq, .string Q, .bool hf, .string F] 32))
      have HU1 : Hid (Rw (w1.alloc (.cells #[.string S, .string U, .string P, .string H, .int .i64 pt, .string T, .bool hq, .string Q, .bool hf, .string F] 32)) 0 w1.heap.size 32 [.string S, .string U, .string P, .string H, .int .i64 pt, .string T, .bool hq, .string Q, .bool hf, .string F]) := Lib.hid (Rw.alloc w1 _ _ (Nat.zero_le _))
      clear hb1
      have k0 := Rw.cell HU1.out (j := 0) rfl
      have k1 := Rw.cell HU1.out (j := 1) rfl
      have k2 := Rw.cell HU1.out (j := 2) rfl
      have k3 := Rw.cell HU1.out (j := 3) rfl
      have k4 := Rw.cell HU1.out (j := 4) rfl
      have k5 := Rw.cell HU1.out (j := 5) rfl
      have k6 := Rw.cell HU1.out (j := 6) rfl
      have k7 := Rw.cell HU1.out (j := 7) rfl
      have k8 := Rw.cell HU1.out (j := 8) rfl
      have k9 := Rw.cell HU1.out (j := 9) rfl
      go_wp2_with fail
      refine (HO.out _).mono ?_
      rintro e w2 ⟨rfl, hb2⟩
      have HB2 := Lib.hid (below_then HB1.out hb2)
      have HZ2 := Lib.hid (Rw.below HZ1.out hb2)
      have HU2 := Lib.hid (Rw.below HU1.out hb2)
      clear hb2 k0 k1 k2 k3 k4 k5 k6 k7 k8 k9
      go_wp2_with fail
      refine (HTX.out _).mono ?_
      rintro e w3 ⟨rfl, hb3⟩
      have HB3 := Lib.hid (below_then HB2.out hb3)
      have HZ3 := Lib.hid (Rw.below HZ2.out hb3)
      have HU3 := Lib.hid (Rw.below HU2.out hb3)
      clear hb3
      have c0 := Rw.cell HZ3.out (j := 0) rfl
      have f0 := Rw.free HZ3.out 0
      have c1 := Rw.cell HZ3.out (j := 1) rfl
      have f1 := Rw.free HZ3.out 1
      have c2 := Rw.cell HZ3.out (j := 2) rfl
      have f2 := Rw.free HZ3.out 2
      go_wp2_with fail
      have HW := Rw.storedAll HZ3.out [.string ⟨#[]⟩, .string ⟨#[]⟩, .int .i64 0] rfl
      refine bodyPost_ret (v := .tuple #[.agg ([.string ⟨#[]⟩, .string ⟨#[]⟩, .int .i64 0] : List Value).toArray, .int .i64 8]) ?_ rfl ?_
      case refine_2 => rw [HRb.out.2 (by simp)]; exact ⟨rfl, below_stores HB3.out (Nat.le_refl _) [.string ⟨#[]⟩, .string ⟨#[]⟩, .int .i64 0]⟩
      exact results_row_tmp rfl _ _ w.heap.size 0 24 [.string ⟨#[]⟩, .string ⟨#[]⟩, .int .i64 0] _ rfl HW Tryz.underlying24 rfl Tryz.sizeOrg (.int .i64 8) rfl
    · skip
      go_enter Tryz.func11, Tryz.ntmps11
      go_wp2_with fail
      refine HP2.out.mono ?_
      rintro e w1 ⟨rfl, hb1⟩
      have HB1 := Lib.hid (below_more (below_then HB0.out hb1) (.cells #[.string S, .string U, .string P, .string H, .int .i64 pt, .string T, .bool hq, .string Q, .bool hf, .string F] 32))
      have HZ1 := Lib.hid (Rw.more (Rw.below HZ0.out hb1) (.cells #[.string S, .string U, .string P, .string H, .int .i64 pt, .string T, .bool hq, .string Q, .bool hf, .string F] 32))
      have HU1 : Hid (Rw (w1.alloc (.cells #[.string S, .string U, .string P, .string H, .int .i64 pt, .string T, .bool hq, .string Q, .bool hf, .string F] 32)) 0 w1.heap.size 32 [.string S, .string U, .string P, .string H, .int .i64 pt, .string T, .bool hq, .string Q, .bool hf, .string F]) := Lib.hid (Rw.alloc w1 _ _ (Nat.zero_le _))
      clear hb1
      have k0 := Rw.cell HU1.out (j := 0) rfl
      have k1 := Rw.cell HU1.out (j := 1) rfl
      have k2 := Rw.cell HU1.out (j := 2) rfl
      have k3 := Rw.cell HU1.out (j := 3) rfl
      have k4 := Rw.cell HU1.out (j := 4) rfl
      have k5 := Rw.cell HU1.out (j := 5) rfl
      have k6 := Rw.cell HU1.out (j := 6) rfl
      have k7 := Rw.cell HU1.out (j := 7) rfl
      have k8 := Rw.cell HU1.out (j := 8) rfl
      have k9 := Rw.cell HU1.out (j := 9) rfl
      go_wp2_with fail
      refine (HO.out _).mono ?_
      rintro e w2 ⟨rfl, hb2⟩
      have HB2 := Lib.hid (below_then HB1.out hb2)
      have HZ2 := Lib.hid (Rw.below HZ1.out hb2)
      have HU2 := Lib.hid (Rw.below HU1.out hb2)
      clear hb2 k0 k1 k2 k3 k4 k5 k6 k7 k8 k9
      go_wp2_with fail
      refine (HTX.out _).mono ?_
      rintro e w3 ⟨rfl, hb3⟩
      have HB3 := Lib.hid (below_then HB2.out hb3)
      have HZ3 := Lib.hid (Rw.below HZ2.out hb3)
      have HU3 := Lib.hid (Rw.below HU2.out hb3)
      clear hb3
      have k0 := Rw.cell HU3.out (j := 0) rfl
      have k1 := Rw.cell HU3.out (j := 1) rfl
      have k2 := Rw.cell HU3.out (j := 2) rfl
      have k3 := Rw.cell HU3.out (j := 3) rfl
      have k4 := Rw.cell HU3.out (j := 4) rfl
      have k5 := Rw.cell HU3.out (j := 5) rfl
      have k6 := Rw.cell HU3.out (j := 6) rfl
      have k7 := Rw.cell HU3.out (j := 7) rfl
      have k8 := Rw.cell HU3.out (j := 8) rfl
      have k9 := Rw.cell HU3.out (j := 9) rfl
      go_wp2_with fail
      refine (HO.out _).mono ?_
      rintro e w4 ⟨rfl, hb4⟩
      have HB4 := Lib.hid (below_then HB3.out hb4)
      have HZ4 := Lib.hid (Rw.below HZ3.out hb4)
      clear hb4
      have c0 := Rw.cell HZ4.out (j := 0) rfl
      have f0 := Rw.free HZ4.out 0
      have c1 := Rw.cell HZ4.out (j := 1) rfl
      have f1 := Rw.free HZ4.out 1
      have c2 := Rw.cell HZ4.out (j := 2) rfl
      have f2 := Rw.free HZ4.out 2
      go_wp2_with fail
      have HW := Rw.storedAll HZ4.out [.string S, .string H, .int .i64 p] rfl
      refine bodyPost_ret (v := .tuple #[.agg ([.string S, .string H, .int .i64 p] : List Value).toArray, .int .i64 0]) ?_ rfl ?_
      case refine_2 => rw [HRb.out.1 (by simp)]; exact ⟨rfl, below_stores HB4.out (Nat.le_refl _) [.string S, .string H, .int .i64 p]⟩
      exact results_row_tmp rfl _ _ w.heap.size 0 24 [.string S, .string H, .int .i64 p] _ rfl HW Tryz.underlying24 rfl Tryz.sizeOrg (.int .i64 0) rfl

set_option maxHeartbeats 4000000 in
theorem originParses_any (s : ByteArray) (hs : s.size ≤ 140737488351232) (w : World) (hE : Env11 w) :
    Calls Tryz.prog 3 #[.string s] w fun e w' => e = .returned (.bool true) ∧ Below w.heap.size w w' := by
  have HE := Lib.hid hE
  have HAW := Lib.hid (fun W (hW : Env11 W) => oawake_any W hW)
  by_cases hbig : 3000 < s.size
  · have hbz : (3000 : Int) < (s.size : Int) := by omega
    clear hbig hE
    go_enter Tryz.func3, Tryz.ntmps3
    go_wp2_with fail
    refine (HAW.out _ HE.out).mono ?_
    rintro e w1 ⟨rfl, hb1⟩
    have HB1 := Lib.hid hb1
    clear hb1
    go_wp2_with fail
    go_ret
    exact ⟨rfl, HB1.out⟩
  have hbz : ¬ (3000 : Int) < (s.size : Int) := by omega
  have HP0 := Lib.hid (fun W (hW : Env11 W) => oparse_any s (by omega) W hW)
  have HR0 := Lib.hid (fun W => rorigin_any s (by omega) W)
  obtain ⟨o, ho⟩ : ∃ o, o = parseO s.data.toList := ⟨_, rfl⟩
  rw [← ho] at HP0 HR0
  obtain ⟨z, hz⟩ : ∃ z, z = o.getD orgZ := ⟨_, rfl⟩
  obtain ⟨n, hn⟩ : ∃ n, n = orgE o := ⟨_, rfl⟩
  unfold orgR orgV at HP0 HR0
  rw [← hz, ← hn] at HP0 HR0
  obtain ⟨S, hS⟩ : ∃ S : ByteArray, S = ⟨z.osc.toArray⟩ := ⟨_, rfl⟩
  obtain ⟨H, hH⟩ : ∃ H : ByteArray, H = ⟨z.oho.toArray⟩ := ⟨_, rfl⟩
  obtain ⟨p, hp⟩ : ∃ p, p = z.opo := ⟨_, rfl⟩
  have HP : Hid (∀ W, Env11 W → Calls Tryz.prog 10 #[.string s] W fun e w' => e = .returned (.tuple #[.agg #[.string S, .string H, .int .i64 p], .int .i64 n]) ∧ Below W.heap.size W w') := Lib.hid (by rw [hS, hH, hp]; exact HP0.out)
  have HR : Hid (∀ W, Calls Tryz.prog 11 #[.string s] W fun e w' => e = .returned (.tuple #[.agg #[.string S, .string H, .int .i64 p], .int .i64 n]) ∧ Below W.heap.size W w') := Lib.hid (by rw [hS, hH, hp]; exact HR0.out)
  obtain ⟨B, hB⟩ : ∃ B, B = decide (S.data.toList = S.data.toList ∧ H.data.toList = H.data.toList ∧ p = p) := ⟨_, rfl⟩
  have HBT : Hid (B = true) := Lib.hid (by rw [hB]; exact decide_eq_true ⟨rfl, rfl, rfl⟩)
  have EQ : ∀ W, (binOp .eql 24 (.agg #[.string S, .string H, .int .i64 p]) (.agg #[.string S, .string H, .int .i64 p])).run Tryz.prog W = .ok (.bool true) W := fun W => by rw [orgEq, ← hB, HBT.out]
  clear hB hbig hE HP0 HR0 ho hz hn hS hH hp
  go_enter Tryz.func3, Tryz.ntmps3
  go_wp2_with fail
  refine (HP.out _ HE.out).mono ?_
  rintro e w1 ⟨rfl, hb1⟩
  have HB1 := Lib.hid (below_more hb1 (.cells #[.string S, .string H, .int .i64 p] 24))
  have HO1 : Hid (Rw (w1.alloc (.cells #[.string S, .string H, .int .i64 p] 24)) 0 w1.heap.size 24 [.string S, .string H, .int .i64 p]) := Lib.hid (Rw.alloc w1 _ _ (Nat.zero_le _))
  clear hb1
  go_wp2_with fail
  refine (HR.out _).mono ?_
  rintro e w2 ⟨rfl, hb2⟩
  have HB2 := Lib.hid (below_more (below_then HB1.out hb2) (.cells #[.string S, .string H, .int .i64 p] 24))
  have HO2 := Lib.hid (Rw.more (Rw.below HO1.out hb2) (.cells #[.string S, .string H, .int .i64 p] 24))
  have HQ2 : Hid (Rw (w2.alloc (.cells #[.string S, .string H, .int .i64 p] 24)) 0 w2.heap.size 24 [.string S, .string H, .int .i64 p]) := Lib.hid (Rw.alloc w2 _ _ (Nat.zero_le _))
  clear hb2
  have k0 := Rw.cell HO2.out (j := 0) rfl
  have k1 := Rw.cell HO2.out (j := 1) rfl
  have k2 := Rw.cell HO2.out (j := 2) rfl
  have m0 := Rw.cell HQ2.out (j := 0) rfl
  have m1 := Rw.cell HQ2.out (j := 1) rfl
  have m2 := Rw.cell HQ2.out (j := 2) rfl
  go_wp2_with fail
  refine (HAW.out _ (env_below HE.out HB2.out)).mono ?_
  rintro e w3 ⟨rfl, hb3⟩
  have HB3 := Lib.hid (below_then HB2.out hb3)
  clear hb3
  go_wp2_with fail
  go_ret
  exact ⟨rfl, HB3.out⟩

end Go.Proofs.YtaopofjcbpefoaaGreatDoor
