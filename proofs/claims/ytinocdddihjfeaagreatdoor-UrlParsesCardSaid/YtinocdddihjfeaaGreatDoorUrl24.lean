/- UrlParses: its walk. -/
import Derived.Test.YtinocdddihjfeaaGreatDoorProg
import Derived.Test.YtinocdddihjfeaaGreatDoorKit
import Derived.Test.YtinocdddihjfeaaGreatDoorRow
import Derived.Test.YtinocdddihjfeaaGreatDoorUrl0
import Derived.Test.YtinocdddihjfeaaGreatDoorUrl6
import Derived.Test.YtinocdddihjfeaaGreatDoorUrl9
import Derived.Test.YtinocdddihjfeaaGreatDoorUrl12
import Derived.Test.YtinocdddihjfeaaGreatDoorUrr3
namespace Go.Proofs.YtinocdddihjfeaaGreatDoor
open Go.RowKit Go.Proofs
set_option maxRecDepth 100000

set_option maxHeartbeats 8000000 in
theorem urlParses_any (s : ByteArray) (hs : s.size ≤ 140737488351232) (w : World) (hE : Env11 w) :
    Calls Tryz.prog 3 #[.string s] w fun e w' => e = .returned (.bool true) ∧ Below w.heap.size w w' := by
  have HE := Lib.hid hE
  have HAW := Lib.hid (fun W (hW : Env11 W) => uawake_any W hW)
  by_cases hbig : 3000 < s.size
  · have hbz : (3000 : Int) < (s.size : Int) := by omega
    clear hbig hE
    go_enter Tryz.func3, Tryz.ntmps3
    go_wp2_with fail
    refine (HAW.out _ HE.out).mono ?_
    rintro e w1 ⟨rfl, hb1⟩
    have HB1 := Lib.hid hb1
    clear hb1
    go_wp2_with fail
    go_ret
    exact ⟨rfl, HB1.out⟩
  have hbz : ¬ (3000 : Int) < (s.size : Int) := by omega
  obtain ⟨o, ho⟩ : ∃ o, o = urlP s.data.toList := ⟨_, rfl⟩
  have HPU0 := fun W (hW : Env11 W) => uparse_any s (by omega) W hW
  have HPR0 := fun W => rurl_any s (by omega) W
  rw [← ho] at HPU0 HPR0
  obtain ⟨u, hu⟩ : ∃ u, u = o.getD urlZ := ⟨_, rfl⟩
  obtain ⟨n, hn⟩ : ∃ n, n = urlE o := ⟨_, rfl⟩
  have HPU1 : Hid (∀ W, Env11 W → Calls Tryz.prog 6 #[.string s] W fun e w' => e = .returned (parsedV u n) ∧ Below W.heap.size W w') := Lib.hid (by rw [hu, hn]; exact HPU0)
  have HPR1 : Hid (∀ W, Calls Tryz.prog 7 #[.string s] W fun e w' => e = .returned (parsedV u n) ∧ Below W.heap.size W w') := Lib.hid (by rw [hu, hn]; exact HPR0)
  obtain ⟨pt, hpt⟩ : ∃ y, y = u.prt := ⟨_, rfl⟩
  obtain ⟨hq, hhq⟩ : ∃ y, y = u.hq := ⟨_, rfl⟩
  obtain ⟨hf, hhf⟩ : ∃ y, y = u.hf := ⟨_, rfl⟩
  obtain ⟨S, hS⟩ : ∃ y : ByteArray, y = ⟨u.sch.toArray⟩ := ⟨_, rfl⟩
  obtain ⟨U, hU⟩ : ∃ y : ByteArray, y = ⟨u.usr.toArray⟩ := ⟨_, rfl⟩
  obtain ⟨P, hP⟩ : ∃ y : ByteArray, y = ⟨u.pas.toArray⟩ := ⟨_, rfl⟩
  obtain ⟨H, hH⟩ : ∃ y : ByteArray, y = ⟨u.hos.toArray⟩ := ⟨_, rfl⟩
  obtain ⟨T, hT⟩ : ∃ y : ByteArray, y = ⟨u.pth.toArray⟩ := ⟨_, rfl⟩
  obtain ⟨Q, hQ⟩ : ∃ y : ByteArray, y = ⟨u.qry.toArray⟩ := ⟨_, rfl⟩
  obtain ⟨F, hF⟩ : ∃ y : ByteArray, y = ⟨u.frg.toArray⟩ := ⟨_, rfl⟩
  unfold parsedV at HPU1 HPR1
  rw [← hS, ← hU, ← hP, ← hH, ← hT, ← hQ, ← hF, ← hpt, ← hhq, ← hhf] at HPU1 HPR1
  clear hS hU hP hH hT hQ hF hpt hhq hhf HPU0 HPR0 hu hn ho hbig hE
  go_enter Tryz.func3, Tryz.ntmps3
  go_wp2_with fail
  refine (HPU1.out _ HE.out).mono ?_
  rintro e w1 ⟨rfl, hb1⟩
  have HB1 := Lib.hid (below_more hb1 (.cells #[.string S, .string U, .string P, .string H, .int .i64 pt, .string T, .bool hq, .string Q, .bool hf, .string F] 24))
  have HU1 : Hid (Rw (w1.alloc (.cells #[.string S, .string U, .string P, .string H, .int .i64 pt, .string T, .bool hq, .string Q, .bool hf, .string F] 24)) 0 w1.heap.size 24 [.string S, .string U, .string P, .string H, .int .i64 pt, .string T, .bool hq, .string Q, .bool hf, .string F]) := Lib.hid (Rw.alloc w1 _ _ (Nat.zero_le _))
  clear hb1
  go_wp2_with fail
  refine (HPR1.out _).mono ?_
  rintro e w2 ⟨rfl, hb2⟩
  have HB2 := Lib.hid (below_more (below_then HB1.out hb2) (.cells #[.string S, .string U, .string P, .string H, .int .i64 pt, .string T, .bool hq, .string Q, .bool hf, .string F] 24))
  have HU2 := Lib.hid (Rw.more (Rw.below HU1.out hb2) (.cells #[.string S, .string U, .string P, .string H, .int .i64 pt, .string T, .bool hq, .string Q, .bool hf, .string F] 24))
  have HV2 : Hid (Rw (w2.alloc (.cells #[.string S, .string U, .string P, .string H, .int .i64 pt, .string T, .bool hq, .string Q, .bool hf, .string F] 24)) 0 w2.heap.size 24 [.string S, .string U, .string P, .string H, .int .i64 pt, .string T, .bool hq, .string Q, .bool hf, .string F]) := Lib.hid (Rw.alloc w2 _ _ (Nat.zero_le _))
  clear hb2
  have k0 := Rw.cell HU2.out (j := 0) rfl
  have k1 := Rw.cell HU2.out (j := 1) rfl
  have k2 := Rw.cell HU2.out (j := 2) rfl
  have k3 := Rw.cell HU2.out (j := 3) rfl
  have k4 := Rw.cell HU2.out (j := 4) rfl
  have k5 := Rw.cell HU2.out (j := 5) rfl
  have k6 := Rw.cell HU2.out (j := 6) rfl
  have k7 := Rw.cell HU2.out (j := 7) rfl
  have k8 := Rw.cell HU2.out (j := 8) rfl
  have k9 := Rw.cell HU2.out (j := 9) rfl
  have m0 := Rw.cell HV2.out (j := 0) rfl
  have m1 := Rw.cell HV2.out (j := 1) rfl
  have m2 := Rw.cell HV2.out (j := 2) rfl
  have m3 := Rw.cell HV2.out (j := 3) rfl
  have m4 := Rw.cell HV2.out (j := 4) rfl
  have m5 := Rw.cell HV2.out (j := 5) rfl
  have m6 := Rw.cell HV2.out (j := 6) rfl
  have m7 := Rw.cell HV2.out (j := 7) rfl
  have m8 := Rw.cell HV2.out (j := 8) rfl
  have m9 := Rw.cell HV2.out (j := 9) rfl
  go_wp2_with fail
  refine (HAW.out _ (env_below HE.out HB2.out)).mono ?_
  rintro e w3 ⟨rfl, hb3⟩
  have HB3 := Lib.hid (below_then HB2.out hb3)
  clear hb3
  go_wp2_with fail
  go_ret
  exact ⟨rfl, HB3.out⟩

end Go.Proofs.YtinocdddihjfeaaGreatDoor
