/- OriginTrusts: its walk. -/
import Derived.Test.YtdgmcpdphifmbaaGreatDoorProg
import Derived.Test.YtdgmcpdphifmbaaGreatDoorKit
import Derived.Test.YtdgmcpdphifmbaaGreatDoorRow
import Derived.Test.YtdgmcpdphifmbaaGreatDoorRow2
import Derived.Test.YtdgmcpdphifmbaaGreatDoorHst1
import Derived.Test.YtdgmcpdphifmbaaGreatDoorUrl0
import Derived.Test.YtdgmcpdphifmbaaGreatDoorUrl6
import Derived.Test.YtdgmcpdphifmbaaGreatDoorUrl9
import Derived.Test.YtdgmcpdphifmbaaGreatDoorUrl12
import Derived.Test.YtdgmcpdphifmbaaGreatDoorUrr3
import Derived.Test.YtdgmcpdphifmbaaGreatDoorOrg0
import Derived.Test.YtdgmcpdphifmbaaGreatDoorOrg3
import Derived.Test.YtdgmcpdphifmbaaGreatDoorOrg9
import Derived.Test.YtdgmcpdphifmbaaGreatDoorOrg10
namespace Go.Proofs.YtdgmcpdphifmbaaGreatDoor
open Go.RowKit Go.Proofs
set_option maxRecDepth 100000

theorem oop_at {l m : List Oper} {i : Nat} {o : Oper} (h : l.drop i = o :: m) : l.toArray[i]? = some o := by
  have h1 : (l.drop i)[0]? = some o := by rw [h]; rfl
  rw [List.getElem?_drop] at h1
  simpa using h1

theorem otake_op {P : Program} {Q : Exit → Act → World → Prop} {md : Region.Mode} {S : World → Prop} {l m : List Oper} (i : Nat) {oi : Oper} {v : Value} {d : Tmp} {fuel : Nat} {listed : Array Bool} {a : Act} {w : World} (hi : l.drop i = oi :: m) (hd : oi.dst = some d)
    (hs : Region.noSelect l.toArray = true) (hf : Region.free md l.toArray listed i = true) (hr : (Region.ready md l.toArray listed).contains i = true)
    (hQ : ∀ c a w, Q (.panic c) (a.put oi.dst v) w → Q (.panic c) a w) (hy : YieldsIf P l.toArray S oi v a) (hS : S w)
    (h : wpAnyH P md l.toArray Q S fuel (listed.setIfInBounds i true) { a with tmps := a.tmps.setIfInBounds d v } w) : wpAnyH P md l.toArray Q S (fuel + 1) listed a w :=
  wpAnyH_take (oop_at hi) hs hf hr hQ hy hS (by rw [hd]; exact h)

set_option maxHeartbeats 16000000 in
theorem originTrusts_any (S H : ByteArray) (p : Int) (hS : S.size ≤ 140737488351232) (hH : H.size ≤ 140737488351232) (_hp : -9223372036854775808 ≤ p ∧ p ≤ 9223372036854775807) (S2 H2 : ByteArray) (p2 : Int) (hS2 : S2.size ≤ 140737488351232) (hH2 : H2.size ≤ 140737488351232) (_hp2 : -9223372036854775808 ≤ p2 ∧ p2 ≤ 9223372036854775807) (s : ByteArray) (hs : s.size ≤ 140737488351232) (w : World) (hE : Env11 w) :
    Calls Tryz.prog 3 #[.agg #[.string S, .string H, .int .i64 p], .agg #[.string S2, .string H2, .int .i64 p2], .string s] w fun e w' => e = .returned (.bool true) ∧ Below w.heap.size w w' := by
  have HE := Lib.hid hE
  have HAW := Lib.hid (fun W (hW : Env11 W) => oawake_any W hW)
  have HAO := Lib.hid (fun W => aorigin_any S H p (by omega) (by omega) W)
  have HAP := Lib.hid (fun W => aorigin_any S2 H2 p2 (by omega) (by omega) W)
  have HB0 := Lib.hid (below_more (below_more (Below.refl _ w) (.cells #[.string S, .string H, .int .i64 p] 23)) (.cells #[.string S2, .string H2, .int .i64 p2] 23))
  have HX0 : Hid (Rw ((w.alloc (.cells #[.string S, .string H, .int .i64 p] 23)).alloc (.cells #[.string S2, .string H2, .int .i64 p2] 23)) 0 w.heap.size 23 [.string S, .string H, .int .i64 p]) := Lib.hid (Rw.more (Rw.alloc w _ _ (Nat.zero_le _)) _)
  have HY0 : Hid (Rw ((w.alloc (.cells #[.string S, .string H, .int .i64 p] 23)).alloc (.cells #[.string S2, .string H2, .int .i64 p2] 23)) 0 (w.heap.size + 1) 23 [.string S2, .string H2, .int .i64 p2]) := Lib.hid (by
    have h : Rw ((w.alloc (.cells #[.string S, .string H, .int .i64 p] 23)).alloc (.cells #[.string S2, .string H2, .int .i64 p2] 23)) 0 (w.alloc (.cells #[.string S, .string H, .int .i64 p] 23)).heap.size 23 [.string S2, .string H2, .int .i64 p2] := Rw.alloc _ _ _ (Nat.zero_le _)
    have hs : (w.alloc (.cells #[.string S, .string H, .int .i64 p] 23)).heap.size = w.heap.size + 1 := Array.size_push ..
    rw [hs] at h
    exact h)
  obtain ⟨d1, hd1⟩ : ∃ d1, d1 = decide (0 ≤ p ∧ p ≤ 65535 ∧ S.size + H.size ≤ 1000) := ⟨_, rfl⟩
  rw [← hd1] at HAO
  obtain ⟨d2, hd2⟩ : ∃ d2, d2 = decide (0 ≤ p2 ∧ p2 ≤ 65535 ∧ S2.size + H2.size ≤ 1000) := ⟨_, rfl⟩
  rw [← hd2] at HAP
  clear hS2 hH2 hS hd2
  cases d1
  · clear hd1 hH hE HAP
    go_enter Tryz.func3, Tryz.ntmps3
    go_wp2_with fail
    refine (HAO.out _).mono ?_
    rintro e w1 ⟨rfl, hb1⟩
    have HB1 := Lib.hid (below_then HB0.out hb1)
    have HX1 := Lib.hid (Rw.below HX0.out hb1)
    have HY1 := Lib.hid (Rw.below HY0.out hb1)
    clear hb1
    have b0 := Rw.cell HY1.out (j := 0) rfl
    have b1 := Rw.cell HY1.out (j := 1) rfl
    have b2 := Rw.cell HY1.out (j := 2) rfl
    go_wp2_with fail
    refine (HAW.out _ (env_below HE.out HB1.out)).mono ?_
    rintro e w6 ⟨rfl, hb6⟩
    have HB6 := Lib.hid (below_then HB1.out hb6)
    clear hb6
    go_wp2_with fail
    go_ret
    exact ⟨rfl, HB6.out⟩
  have hsz := (of_decide_eq_true hd1.symm).2.2
  have hH0 : H.size ≤ 1073741824 := by omega
  clear hd1 hsz hH
  cases d2
  · clear hE hH0
    go_enter Tryz.func3, Tryz.ntmps3
    go_wp2_with fail
    refine (HAO.out _).mono ?_
    rintro e w1 ⟨rfl, hb1⟩
    have HB1 := Lib.hid (below_then HB0.out hb1)
    have HX1 := Lib.hid (Rw.below HX0.out hb1)
    have HY1 := Lib.hid (Rw.below HY0.out hb1)
    clear hb1
    have b0 := Rw.cell HY1.out (j := 0) rfl
    have b1 := Rw.cell HY1.out (j := 1) rfl
    have b2 := Rw.cell HY1.out (j := 2) rfl
    go_wp2_with fail
    refine (HAP.out _).mono ?_
    rintro e w2 ⟨rfl, hb2⟩
    have HB2 := Lib.hid (below_then HB1.out hb2)
    have HX2 := Lib.hid (Rw.below HX1.out hb2)
    have HY2 := Lib.hid (Rw.below HY1.out hb2)
    clear hb2 b0 b1 b2
    go_wp2_with fail
    refine (HAW.out _ (env_below HE.out HB2.out)).mono ?_
    rintro e w6 ⟨rfl, hb6⟩
    have HB6 := Lib.hid (below_then HB2.out hb6)
    clear hb6
    go_wp2_with fail
    go_ret
    exact ⟨rfl, HB6.out⟩
  by_cases hbig : 3000 < s.size
  · have hbz : (3000 : Int) < (s.size : Int) := by omega
    clear hbig hE hH0
    go_enter Tryz.func3, Tryz.ntmps3
    go_wp2_with fail
    refine (HAO.out _).mono ?_
    rintro e w1 ⟨rfl, hb1⟩
    have HB1 := Lib.hid (below_then HB0.out hb1)
    have HX1 := Lib.hid (Rw.below HX0.out hb1)
    have HY1 := Lib.hid (Rw.below HY0.out hb1)
    clear hb1
    have b0 := Rw.cell HY1.out (j := 0) rfl
    have b1 := Rw.cell HY1.out (j := 1) rfl
    have b2 := Rw.cell HY1.out (j := 2) rfl
    go_wp2_with fail
    refine (HAP.out _).mono ?_
    rintro e w2 ⟨rfl, hb2⟩
    have HB2 := Lib.hid (below_then HB1.out hb2)
    have HX2 := Lib.hid (Rw.below HX1.out hb2)
    have HY2 := Lib.hid (Rw.below HY1.out hb2)
    clear hb2 b0 b1 b2
    go_wp2_with fail
    refine (HAW.out _ (env_below HE.out HB2.out)).mono ?_
    rintro e w6 ⟨rfl, hb6⟩
    have HB6 := Lib.hid (below_then HB2.out hb6)
    clear hb6
    go_wp2_with fail
    go_ret
    exact ⟨rfl, HB6.out⟩
  have hbz : ¬ (3000 : Int) < (s.size : Int) := by omega
  obtain ⟨o, ho⟩ : ∃ o, o = urlP s.data.toList := ⟨_, rfl⟩
  have HPU0 := fun W (hW : Env11 W) => uparse_any s (by omega) W hW
  have HPR0 := fun W => rurl_any s (by omega) W
  rw [← ho] at HPU0 HPR0
  have hhs : (o.getD urlZ).hos.length ≤ 10000 := by
    cases o with
    | none => exact Nat.zero_le _
    | some u =>
      have := (org_shape ho.symm).ohos.2.2.2.2
      rw [size_data] at this
      show u.hos.length ≤ _
      omega
  obtain ⟨u, hu⟩ : ∃ u, u = o.getD urlZ := ⟨_, rfl⟩
  have hev : urlE o = 0 ∨ urlE o = 8 := by unfold urlE; split <;> simp
  obtain ⟨n, hn⟩ : ∃ n, n = urlE o := ⟨_, rfl⟩
  have HPU1 : Hid (∀ W, Env11 W → Calls Tryz.prog 6 #[.string s] W fun e w' => e = .returned (parsedV u n) ∧ Below W.heap.size W w') := Lib.hid (by rw [hu, hn]; exact HPU0)
  have HPR1 : Hid (∀ W, Calls Tryz.prog 7 #[.string s] W fun e w' => e = .returned (parsedV u n) ∧ Below W.heap.size W w') := Lib.hid (by rw [hu, hn]; exact HPR0)
  rw [← hu] at hhs
  rw [← hn] at hev
  obtain ⟨pt, hpt⟩ : ∃ pt, pt = u.prt := ⟨_, rfl⟩
  obtain ⟨hq, hhq⟩ : ∃ hq, hq = u.hq := ⟨_, rfl⟩
  obtain ⟨hf, hhf⟩ : ∃ hf, hf = u.hf := ⟨_, rfl⟩
  obtain ⟨S3, hS3⟩ : ∃ S : ByteArray, S = ⟨u.sch.toArray⟩ := ⟨_, rfl⟩
  obtain ⟨U, hU⟩ : ∃ U : ByteArray, U = ⟨u.usr.toArray⟩ := ⟨_, rfl⟩
  obtain ⟨P, hP⟩ : ∃ P : ByteArray, P = ⟨u.pas.toArray⟩ := ⟨_, rfl⟩
  obtain ⟨H3, hH3⟩ : ∃ H : ByteArray, H = ⟨u.hos.toArray⟩ := ⟨_, rfl⟩
  obtain ⟨T, hT⟩ : ∃ T : ByteArray, T = ⟨u.pth.toArray⟩ := ⟨_, rfl⟩
  obtain ⟨Q, hQ⟩ : ∃ Q : ByteArray, Q = ⟨u.qry.toArray⟩ := ⟨_, rfl⟩
  obtain ⟨F, hF⟩ : ∃ F : ByteArray, F = ⟨u.frg.toArray⟩ := ⟨_, rfl⟩
  have hH3s : H3.size ≤ 1073741824 := by rw [hH3, mk_size]; omega
  unfold parsedV at HPU1 HPR1
  rw [← hS3, ← hU, ← hP, ← hH3, ← hT, ← hQ, ← hF, ← hpt, ← hhq, ← hhf] at HPU1 HPR1
  have HPU := Lib.hid HPU1.out
  have HPR := Lib.hid HPR1.out
  have HSA := Lib.hid (fun W => osame_any S H S2 H2 p p2 W)
  have HSR := Lib.hid (fun W => rosame_any S H S2 H2 p p2 W)
  obtain ⟨B1, hB1⟩ : ∃ B1, B1 = sameO ⟨S.data.toList, H.data.toList, p⟩ ⟨S2.data.toList, H2.data.toList, p2⟩ := ⟨_, rfl⟩
  rw [← hB1] at HSA HSR
  have HTA := Lib.hid (fun W (hW : Env11 W) => otrusted_any S H p hH0 W hW.2.1)
  have HTR := Lib.hid (fun W => rotrusted_any S H p hH0 W)
  obtain ⟨B2, hB2⟩ : ∃ B2, B2 = trustO ⟨S.data.toList, H.data.toList, p⟩ := ⟨_, rfl⟩
  rw [← hB2] at HTA HTR
  have HCA := Lib.hid (fun W (hW : Env11 W) => osecure_any S3 U P H3 T Q F pt hq hf hH3s W hW.2.1)
  have HCR := Lib.hid (fun W => rosecure_any S3 U P H3 T Q F pt hq hf hH3s W)
  obtain ⟨B3, hB3⟩ : ∃ B3, B3 = trustO ⟨S3.data.toList, H3.data.toList, pU S3.data.toList pt⟩ := ⟨_, rfl⟩
  rw [← hB3] at HCA HCR
  clear hB1 hB2 hB3 hpt hhq hhf hS3 hU hP hH3 hT hQ hF hH3s HPU1 HPR1 hhs hn hu ho HPU0 HPR0 hbig hH0 hE
  rcases hev with rfl | rfl
  · go_enter Tryz.func3, Tryz.ntmps3
    go_wp2_with fail
    refine (HAO.out _).mono ?_
    rintro e w1 ⟨rfl, hb1⟩
    have HB1 := Lib.hid (below_then HB0.out hb1)
    have HX1 := Lib.hid (Rw.below HX0.out hb1)
    have HY1 := Lib.hid (Rw.below HY0.out hb1)
    clear hb1
    have b0 := Rw.cell HY1.out (j := 0) rfl
    have b1 := Rw.cell HY1.out (j := 1) rfl
    have b2 := Rw.cell HY1.out (j := 2) rfl
    go_wp2_with fail
    refine (HAP.out _).mono ?_
    rintro e w2 ⟨rfl, hb2⟩
    have HB2 := Lib.hid (below_then HB1.out hb2)
    have HX2 := Lib.hid (Rw.below HX1.out hb2)
    have HY2 := Lib.hid (Rw.below HY1.out hb2)
    clear hb2 b0 b1 b2
    go_wp2_with fail
    refine (HPU.out _ (env_below HE.out HB2.out)).mono ?_
    rintro e w3 ⟨rfl, hb3⟩
    have HB3 := Lib.hid (below_more (below_then HB2.out hb3) (.cells #[.string S3, .string U, .string P, .string H3, .int .i64 pt, .string T, .bool hq, .string Q, .bool hf, .string F] 27))
    have HX3 := Lib.hid (Rw.more (Rw.below HX2.out hb3) (.cells #[.string S3, .string U, .string P, .string H3, .int .i64 pt, .string T, .bool hq, .string Q, .bool hf, .string F] 27))
    have HY3 := Lib.hid (Rw.more (Rw.below HY2.out hb3) (.cells #[.string S3, .string U, .string P, .string H3, .int .i64 pt, .string T, .bool hq, .string Q, .bool hf, .string F] 27))
    have HU3 : Hid (Rw (w3.alloc (.cells #[.string S3, .string U, .string P, .string H3, .int .i64 pt, .string T, .bool hq, .string Q, .bool hf, .string F] 27)) 0 w3.heap.size 27 [.string S3, .string U, .string P, .string H3, .int .i64 pt, .string T, .bool hq, .string Q, .bool hf, .string F]) := Lib.hid (Rw.alloc w3 _ _ (Nat.zero_le _))
    clear hb3
    go_wp2_with fail
    refine (HPR.out _).mono ?_
    rintro e w4 ⟨rfl, hb4⟩
    have HB4 := Lib.hid (below_more (below_then HB3.out hb4) (.cells #[.string S3, .string U, .string P, .string H3, .int .i64 pt, .string T, .bool hq, .string Q, .bool hf, .string F] 27))
    have HX4 := Lib.hid (Rw.more (Rw.below HX3.out hb4) (.cells #[.string S3, .string U, .string P, .string H3, .int .i64 pt, .string T, .bool hq, .string Q, .bool hf, .string F] 27))
    have HY4 := Lib.hid (Rw.more (Rw.below HY3.out hb4) (.cells #[.string S3, .string U, .string P, .string H3, .int .i64 pt, .string T, .bool hq, .string Q, .bool hf, .string F] 27))
    have HU4 := Lib.hid (Rw.more (Rw.below HU3.out hb4) (.cells #[.string S3, .string U, .string P, .string H3, .int .i64 pt, .string T, .bool hq, .string Q, .bool hf, .string F] 27))
    have HV4 : Hid (Rw (w4.alloc (.cells #[.string S3, .string U, .string P, .string H3, .int .i64 pt, .string T, .bool hq, .string Q, .bool hf, .string F] 27)) 0 w4.heap.size 27 [.string S3, .string U, .string P, .string H3, .int .i64 pt, .string T, .bool hq, .string Q, .bool hf, .string F]) := Lib.hid (Rw.alloc w4 _ _ (Nat.zero_le _))
    clear hb4
    have HST : Hid (∀ W W', (Below w.heap.size w W ∧ (W).cell? ⟨w.heap.size, 0, none⟩ = some (.string S) ∧ (W).cell? ⟨w.heap.size, 1, none⟩ = some (.string H) ∧ (W).cell? ⟨w.heap.size, 2, none⟩ = some (.int .i64 p) ∧ (W).cell? ⟨w.heap.size + 1, 0, none⟩ = some (.string S2) ∧ (W).cell? ⟨w.heap.size + 1, 1, none⟩ = some (.string H2) ∧ (W).cell? ⟨w.heap.size + 1, 2, none⟩ = some (.int .i64 p2) ∧ (W).cell? ⟨w3.heap.size, 0, none⟩ = some (.string S3) ∧ (W).cell? ⟨w3.heap.size, 1, none⟩ = some (.string U) ∧ (W).cell? ⟨w3.heap.size, 2, none⟩ = some (.string P) ∧ (W).cell? ⟨w3.heap.size, 3, none⟩ = some (.string H3) ∧ (W).cell? ⟨w3.heap.size, 4, none⟩ = some (.int .i64 pt) ∧ (W).cell? ⟨w3.heap.size, 5, none⟩ = some (.string T) ∧ (W).cell? ⟨w3.heap.size, 6, none⟩ = some (.bool hq) ∧ (W).cell? ⟨w3.heap.size, 7, none⟩ = some (.string Q) ∧ (W).cell? ⟨w3.heap.size, 8, none⟩ = some (.bool hf) ∧ (W).cell? ⟨w3.heap.size, 9, none⟩ = some (.string F) ∧ (W).cell? ⟨w4.heap.size, 0, none⟩ = some (.string S3) ∧ (W).cell? ⟨w4.heap.size, 1, none⟩ = some (.string U) ∧ (W).cell? ⟨w4.heap.size, 2, none⟩ = some (.string P) ∧ (W).cell? ⟨w4.heap.size, 3, none⟩ = some (.string H3) ∧ (W).cell? ⟨w4.heap.size, 4, none⟩ = some (.int .i64 pt) ∧ (W).cell? ⟨w4.heap.size, 5, none⟩ = some (.string T) ∧ (W).cell? ⟨w4.heap.size, 6, none⟩ = some (.bool hq) ∧ (W).cell? ⟨w4.heap.size, 7, none⟩ = some (.string Q) ∧ (W).cell? ⟨w4.heap.size, 8, none⟩ = some (.bool hf) ∧ (W).cell? ⟨w4.heap.size, 9, none⟩ = some (.string F)) → Below W.heap.size W W' → (Below w.heap.size w W' ∧ (W').cell? ⟨w.heap.size, 0, none⟩ = some (.string S) ∧ (W').cell? ⟨w.heap.size, 1, none⟩ = some (.string H) ∧ (W').cell? ⟨w.heap.size, 2, none⟩ = some (.int .i64 p) ∧ (W').cell? ⟨w.heap.size + 1, 0, none⟩ = some (.string S2) ∧ (W').cell? ⟨w.heap.size + 1, 1, none⟩ = some (.string H2) ∧ (W').cell? ⟨w.heap.size + 1, 2, none⟩ = some (.int .i64 p2) ∧ (W').cell? ⟨w3.heap.size, 0, none⟩ = some (.string S3) ∧ (W').cell? ⟨w3.heap.size, 1, none⟩ = some (.string U) ∧ (W').cell? ⟨w3.heap.size, 2, none⟩ = some (.string P) ∧ (W').cell? ⟨w3.heap.size, 3, none⟩ = some (.string H3) ∧ (W').cell? ⟨w3.heap.size, 4, none⟩ = some (.int .i64 pt) ∧ (W').cell? ⟨w3.heap.size, 5, none⟩ = some (.string T) ∧ (W').cell? ⟨w3.heap.size, 6, none⟩ = some (.bool hq) ∧ (W').cell? ⟨w3.heap.size, 7, none⟩ = some (.string Q) ∧ (W').cell? ⟨w3.heap.size, 8, none⟩ = some (.bool hf) ∧ (W').cell? ⟨w3.heap.size, 9, none⟩ = some (.string F) ∧ (W').cell? ⟨w4.heap.size, 0, none⟩ = some (.string S3) ∧ (W').cell? ⟨w4.heap.size, 1, none⟩ = some (.string U) ∧ (W').cell? ⟨w4.heap.size, 2, none⟩ = some (.string P) ∧ (W').cell? ⟨w4.heap.size, 3, none⟩ = some (.string H3) ∧ (W').cell? ⟨w4.heap.size, 4, none⟩ = some (.int .i64 pt) ∧ (W').cell? ⟨w4.heap.size, 5, none⟩ = some (.string T) ∧ (W').cell? ⟨w4.heap.size, 6, none⟩ = some (.bool hq) ∧ (W').cell? ⟨w4.heap.size, 7, none⟩ = some (.string Q) ∧ (W').cell? ⟨w4.heap.size, 8, none⟩ = some (.bool hf) ∧ (W').cell? ⟨w4.heap.size, 9, none⟩ = some (.string F))) := Lib.hid (by
      intro W W' h hb
      obtain ⟨h0, h1, h2, h3, h4, h5, h6, h7, h8, h9, h10, h11, h12, h13, h14, h15, h16, h17, h18, h19, h20, h21, h22, h23, h24, h25, h26⟩ := h
      exact ⟨h0.trans (hb.mono h0.size), cell_stays h1 hb, cell_stays h2 hb, cell_stays h3 hb, cell_stays h4 hb, cell_stays h5 hb, cell_stays h6 hb, cell_stays h7 hb, cell_stays h8 hb, cell_stays h9 hb, cell_stays h10 hb, cell_stays h11 hb, cell_stays h12 hb, cell_stays h13 hb, cell_stays h14 hb, cell_stays h15 hb, cell_stays h16 hb, cell_stays h17 hb, cell_stays h18 hb, cell_stays h19 hb, cell_stays h20 hb, cell_stays h21 hb, cell_stays h22 hb, cell_stays h23 hb, cell_stays h24 hb, cell_stays h25 hb, cell_stays h26 hb⟩)
    obtain ⟨wq, hwq⟩ : ∃ wq, wq = w4.alloc (.cells #[.string S3, .string U, .string P, .string H3, .int .i64 pt, .string T, .bool hq, .string Q, .bool hf, .string F] 27) := ⟨_, rfl⟩
    have HS0 : Hid (Below w.heap.size w wq ∧ (wq).cell? ⟨w.heap.size, 0, none⟩ = some (.string S) ∧ (wq).cell? ⟨w.heap.size, 1, none⟩ = some (.string H) ∧ (wq).cell? ⟨w.heap.size, 2, none⟩ = some (.int .i64 p) ∧ (wq).cell? ⟨w.heap.size + 1, 0, none⟩ = some (.string S2) ∧ (wq).cell? ⟨w.heap.size + 1, 1, none⟩ = some (.string H2) ∧ (wq).cell? ⟨w.heap.size + 1, 2, none⟩ = some (.int .i64 p2) ∧ (wq).cell? ⟨w3.heap.size, 0, none⟩ = some (.string S3) ∧ (wq).cell? ⟨w3.heap.size, 1, none⟩ = some (.string U) ∧ (wq).cell? ⟨w3.heap.size, 2, none⟩ = some (.string P) ∧ (wq).cell? ⟨w3.heap.size, 3, none⟩ = some (.string H3) ∧ (wq).cell? ⟨w3.heap.size, 4, none⟩ = some (.int .i64 pt) ∧ (wq).cell? ⟨w3.heap.size, 5, none⟩ = some (.string T) ∧ (wq).cell? ⟨w3.heap.size, 6, none⟩ = some (.bool hq) ∧ (wq).cell? ⟨w3.heap.size, 7, none⟩ = some (.string Q) ∧ (wq).cell? ⟨w3.heap.size, 8, none⟩ = some (.bool hf) ∧ (wq).cell? ⟨w3.heap.size, 9, none⟩ = some (.string F) ∧ (wq).cell? ⟨w4.heap.size, 0, none⟩ = some (.string S3) ∧ (wq).cell? ⟨w4.heap.size, 1, none⟩ = some (.string U) ∧ (wq).cell? ⟨w4.heap.size, 2, none⟩ = some (.string P) ∧ (wq).cell? ⟨w4.heap.size, 3, none⟩ = some (.string H3) ∧ (wq).cell? ⟨w4.heap.size, 4, none⟩ = some (.int .i64 pt) ∧ (wq).cell? ⟨w4.heap.size, 5, none⟩ = some (.string T) ∧ (wq).cell? ⟨w4.heap.size, 6, none⟩ = some (.bool hq) ∧ (wq).cell? ⟨w4.heap.size, 7, none⟩ = some (.string Q) ∧ (wq).cell? ⟨w4.heap.size, 8, none⟩ = some (.bool hf) ∧ (wq).cell? ⟨w4.heap.size, 9, none⟩ = some (.string F)) := Lib.hid (by
      rw [hwq]
      exact ⟨HB4.out, Rw.cell HX4.out (j := 0) rfl, Rw.cell HX4.out (j := 1) rfl, Rw.cell HX4.out (j := 2) rfl, Rw.cell HY4.out (j := 0) rfl, Rw.cell HY4.out (j := 1) rfl, Rw.cell HY4.out (j := 2) rfl, Rw.cell HU4.out (j := 0) rfl, Rw.cell HU4.out (j := 1) rfl, Rw.cell HU4.out (j := 2) rfl, Rw.cell HU4.out (j := 3) rfl, Rw.cell HU4.out (j := 4) rfl, Rw.cell HU4.out (j := 5) rfl, Rw.cell HU4.out (j := 6) rfl, Rw.cell HU4.out (j := 7) rfl, Rw.cell HU4.out (j := 8) rfl, Rw.cell HU4.out (j := 9) rfl, Rw.cell HV4.out (j := 0) rfl, Rw.cell HV4.out (j := 1) rfl, Rw.cell HV4.out (j := 2) rfl, Rw.cell HV4.out (j := 3) rfl, Rw.cell HV4.out (j := 4) rfl, Rw.cell HV4.out (j := 5) rfl, Rw.cell HV4.out (j := 6) rfl, Rw.cell HV4.out (j := 7) rfl, Rw.cell HV4.out (j := 8) rfl, Rw.cell HV4.out (j := 9) rfl⟩)
    have HS1 : Hid (Below w.heap.size w wq.drew ∧ (wq.drew).cell? ⟨w.heap.size, 0, none⟩ = some (.string S) ∧ (wq.drew).cell? ⟨w.heap.size, 1, none⟩ = some (.string H) ∧ (wq.drew).cell? ⟨w.heap.size, 2, none⟩ = some (.int .i64 p) ∧ (wq.drew).cell? ⟨w.heap.size + 1, 0, none⟩ = some (.string S2) ∧ (wq.drew).cell? ⟨w.heap.size + 1, 1, none⟩ = some (.string H2) ∧ (wq.drew).cell? ⟨w.heap.size + 1, 2, none⟩ = some (.int .i64 p2) ∧ (wq.drew).cell? ⟨w3.heap.size, 0, none⟩ = some (.string S3) ∧ (wq.drew).cell? ⟨w3.heap.size, 1, none⟩ = some (.string U) ∧ (wq.drew).cell? ⟨w3.heap.size, 2, none⟩ = some (.string P) ∧ (wq.drew).cell? ⟨w3.heap.size, 3, none⟩ = some (.string H3) ∧ (wq.drew).cell? ⟨w3.heap.size, 4, none⟩ = some (.int .i64 pt) ∧ (wq.drew).cell? ⟨w3.heap.size, 5, none⟩ = some (.string T) ∧ (wq.drew).cell? ⟨w3.heap.size, 6, none⟩ = some (.bool hq) ∧ (wq.drew).cell? ⟨w3.heap.size, 7, none⟩ = some (.string Q) ∧ (wq.drew).cell? ⟨w3.heap.size, 8, none⟩ = some (.bool hf) ∧ (wq.drew).cell? ⟨w3.heap.size, 9, none⟩ = some (.string F) ∧ (wq.drew).cell? ⟨w4.heap.size, 0, none⟩ = some (.string S3) ∧ (wq.drew).cell? ⟨w4.heap.size, 1, none⟩ = some (.string U) ∧ (wq.drew).cell? ⟨w4.heap.size, 2, none⟩ = some (.string P) ∧ (wq.drew).cell? ⟨w4.heap.size, 3, none⟩ = some (.string H3) ∧ (wq.drew).cell? ⟨w4.heap.size, 4, none⟩ = some (.int .i64 pt) ∧ (wq.drew).cell? ⟨w4.heap.size, 5, none⟩ = some (.string T) ∧ (wq.drew).cell? ⟨w4.heap.size, 6, none⟩ = some (.bool hq) ∧ (wq.drew).cell? ⟨w4.heap.size, 7, none⟩ = some (.string Q) ∧ (wq.drew).cell? ⟨w4.heap.size, 8, none⟩ = some (.bool hf) ∧ (wq.drew).cell? ⟨w4.heap.size, 9, none⟩ = some (.string F)) := Lib.hid (HST.out wq wq.drew HS0.out (below_draws (Below.refl _ _) ⟨1, rfl⟩))
    go_wp2_with fail
    rw [← hwq]
    clear hwq HX0 HX1 HX2 HX3 HX4 HY0 HY1 HY2 HY3 HY4 HU3 HU4 HV4 HB0 HB1 HB2 HB3 HB4 HAO HAP HPU HPR
    first
    | go_region_held3 (fun W => Below w.heap.size w W ∧ (W).cell? ⟨w.heap.size, 0, none⟩ = some (.string S) ∧ (W).cell? ⟨w.heap.size, 1, none⟩ = some (.string H) ∧ (W).cell? ⟨w.heap.size, 2, none⟩ = some (.int .i64 p) ∧ (W).cell? ⟨w.heap.size + 1, 0, none⟩ = some (.string S2) ∧ (W).cell? ⟨w.heap.size + 1, 1, none⟩ = some (.string H2) ∧ (W).cell? ⟨w.heap.size + 1, 2, none⟩ = some (.int .i64 p2) ∧ (W).cell? ⟨w3.heap.size, 0, none⟩ = some (.string S3) ∧ (W).cell? ⟨w3.heap.size, 1, none⟩ = some (.string U) ∧ (W).cell? ⟨w3.heap.size, 2, none⟩ = some (.string P) ∧ (W).cell? ⟨w3.heap.size, 3, none⟩ = some (.string H3) ∧ (W).cell? ⟨w3.heap.size, 4, none⟩ = some (.int .i64 pt) ∧ (W).cell? ⟨w3.heap.size, 5, none⟩ = some (.string T) ∧ (W).cell? ⟨w3.heap.size, 6, none⟩ = some (.bool hq) ∧ (W).cell? ⟨w3.heap.size, 7, none⟩ = some (.string Q) ∧ (W).cell? ⟨w3.heap.size, 8, none⟩ = some (.bool hf) ∧ (W).cell? ⟨w3.heap.size, 9, none⟩ = some (.string F) ∧ (W).cell? ⟨w4.heap.size, 0, none⟩ = some (.string S3) ∧ (W).cell? ⟨w4.heap.size, 1, none⟩ = some (.string U) ∧ (W).cell? ⟨w4.heap.size, 2, none⟩ = some (.string P) ∧ (W).cell? ⟨w4.heap.size, 3, none⟩ = some (.string H3) ∧ (W).cell? ⟨w4.heap.size, 4, none⟩ = some (.int .i64 pt) ∧ (W).cell? ⟨w4.heap.size, 5, none⟩ = some (.string T) ∧ (W).cell? ⟨w4.heap.size, 6, none⟩ = some (.bool hq) ∧ (W).cell? ⟨w4.heap.size, 7, none⟩ = some (.string Q) ∧ (W).cell? ⟨w4.heap.size, 8, none⟩ = some (.bool hf) ∧ (W).cell? ⟨w4.heap.size, 9, none⟩ = some (.string F))
        (first | exact HS1.out | assumption)
        (first
          | (go_at_call 8; refine (HSA.out _).mono ?_; rintro e w7 ⟨rfl, hb7⟩; have hS7 := HST.out _ w7 (by assumption) hb7; clear hb7)
          | (go_at_call 9; refine (HSR.out _).mono ?_; rintro e w8 ⟨rfl, hb8⟩; have hS8 := HST.out _ w8 (by assumption) hb8; clear hb8)
          | (go_at_call 10; refine (HTA.out _ (env_below HE.out (And.left (by assumption)))).mono ?_; rintro e w9 ⟨rfl, hb9⟩; have hS9 := HST.out _ w9 (by assumption) hb9; clear hb9)
          | (go_at_call 11; refine (HTR.out _).mono ?_; rintro e w10 ⟨rfl, hb10⟩; have hS10 := HST.out _ w10 (by assumption) hb10; clear hb10)
          | (go_at_call 12; refine (HCA.out _ (env_below HE.out (And.left (by assumption)))).mono ?_; rintro e w11 ⟨rfl, hb11⟩; have hS11 := HST.out _ w11 (by assumption) hb11; clear hb11)
          | (go_at_call 13; refine (HCR.out _).mono ?_; rintro e w12 ⟨rfl, hb12⟩; have hS12 := HST.out _ w12 (by assumption) hb12; clear hb12)
          | (go_at_call 5; refine (HAW.out _ (env_below HE.out (And.left (by assumption)))).mono ?_; rintro e w13 ⟨rfl, hb13⟩; have hS13 := HST.out _ w13 (by assumption) hb13; clear hb13))
    | fail
    all_goals
      go_wp2_with fail
      go_ret
      exact ⟨rfl, hS13.1⟩
  · go_enter Tryz.func3, Tryz.ntmps3
    go_wp2_with fail
    refine (HAO.out _).mono ?_
    rintro e w1 ⟨rfl, hb1⟩
    have HB1 := Lib.hid (below_then HB0.out hb1)
    have HX1 := Lib.hid (Rw.below HX0.out hb1)
    have HY1 := Lib.hid (Rw.below HY0.out hb1)
    clear hb1
    have b0 := Rw.cell HY1.out (j := 0) rfl
    have b1 := Rw.cell HY1.out (j := 1) rfl
    have b2 := Rw.cell HY1.out (j := 2) rfl
    go_wp2_with fail
    refine (HAP.out _).mono ?_
    rintro e w2 ⟨rfl, hb2⟩
    have HB2 := Lib.hid (below_then HB1.out hb2)
    have HX2 := Lib.hid (Rw.below HX1.out hb2)
    have HY2 := Lib.hid (Rw.below HY1.out hb2)
    clear hb2 b0 b1 b2
    go_wp2_with fail
    refine (HPU.out _ (env_below HE.out HB2.out)).mono ?_
    rintro e w3 ⟨rfl, hb3⟩
    have HB3 := Lib.hid (below_more (below_then HB2.out hb3) (.cells #[.string S3, .string U, .string P, .string H3, .int .i64 pt, .string T, .bool hq, .string Q, .bool hf, .string F] 27))
    have HX3 := Lib.hid (Rw.more (Rw.below HX2.out hb3) (.cells #[.string S3, .string U, .string P, .string H3, .int .i64 pt, .string T, .bool hq, .string Q, .bool hf, .string F] 27))
    have HY3 := Lib.hid (Rw.more (Rw.below HY2.out hb3) (.cells #[.string S3, .string U, .string P, .string H3, .int .i64 pt, .string T, .bool hq, .string Q, .bool hf, .string F] 27))
    have HU3 : Hid (Rw (w3.alloc (.cells #[.string S3, .string U, .string P, .string H3, .int .i64 pt, .string T, .bool hq, .string Q, .bool hf, .string F] 27)) 0 w3.heap.size 27 [.string S3, .string U, .string P, .string H3, .int .i64 pt, .string T, .bool hq, .string Q, .bool hf, .string F]) := Lib.hid (Rw.alloc w3 _ _ (Nat.zero_le _))
    clear hb3
    go_wp2_with fail
    refine (HPR.out _).mono ?_
    rintro e w4 ⟨rfl, hb4⟩
    have HB4 := Lib.hid (below_more (below_then HB3.out hb4) (.cells #[.string S3, .string U, .string P, .string H3, .int .i64 pt, .string T, .bool hq, .string Q, .bool hf, .string F] 27))
    have HX4 := Lib.hid (Rw.more (Rw.below HX3.out hb4) (.cells #[.string S3, .string U, .string P, .string H3, .int .i64 pt, .string T, .bool hq, .string Q, .bool hf, .string F] 27))
    have HY4 := Lib.hid (Rw.more (Rw.below HY3.out hb4) (.cells #[.string S3, .string U, .string P, .string H3, .int .i64 pt, .string T, .bool hq, .string Q, .bool hf, .string F] 27))
    have HU4 := Lib.hid (Rw.more (Rw.below HU3.out hb4) (.cells #[.string S3, .string U, .string P, .string H3, .int .i64 pt, .string T, .bool hq, .string Q, .bool hf, .string F] 27))
    have HV4 : Hid (Rw (w4.alloc (.cells #[.string S3, .string U, .string P, .string H3, .int .i64 pt, .string T, .bool hq, .string Q, .bool hf, .string F] 27)) 0 w4.heap.size 27 [.string S3, .string U, .string P, .string H3, .int .i64 pt, .string T, .bool hq, .string Q, .bool hf, .string F]) := Lib.hid (Rw.alloc w4 _ _ (Nat.zero_le _))
    clear hb4
    have HST : Hid (∀ W W', (Below w.heap.size w W ∧ (W).cell? ⟨w.heap.size, 0, none⟩ = some (.string S) ∧ (W).cell? ⟨w.heap.size, 1, none⟩ = some (.string H) ∧ (W).cell? ⟨w.heap.size, 2, none⟩ = some (.int .i64 p) ∧ (W).cell? ⟨w.heap.size + 1, 0, none⟩ = some (.string S2) ∧ (W).cell? ⟨w.heap.size + 1, 1, none⟩ = some (.string H2) ∧ (W).cell? ⟨w.heap.size + 1, 2, none⟩ = some (.int .i64 p2)) → Below W.heap.size W W' → (Below w.heap.size w W' ∧ (W').cell? ⟨w.heap.size, 0, none⟩ = some (.string S) ∧ (W').cell? ⟨w.heap.size, 1, none⟩ = some (.string H) ∧ (W').cell? ⟨w.heap.size, 2, none⟩ = some (.int .i64 p) ∧ (W').cell? ⟨w.heap.size + 1, 0, none⟩ = some (.string S2) ∧ (W').cell? ⟨w.heap.size + 1, 1, none⟩ = some (.string H2) ∧ (W').cell? ⟨w.heap.size + 1, 2, none⟩ = some (.int .i64 p2))) := Lib.hid (by
      intro W W' h hb
      obtain ⟨h0, h1, h2, h3, h4, h5, h6⟩ := h
      exact ⟨h0.trans (hb.mono h0.size), cell_stays h1 hb, cell_stays h2 hb, cell_stays h3 hb, cell_stays h4 hb, cell_stays h5 hb, cell_stays h6 hb⟩)
    obtain ⟨wq, hwq⟩ : ∃ wq, wq = w4.alloc (.cells #[.string S3, .string U, .string P, .string H3, .int .i64 pt, .string T, .bool hq, .string Q, .bool hf, .string F] 27) := ⟨_, rfl⟩
    have HS0 : Hid (Below w.heap.size w wq ∧ (wq).cell? ⟨w.heap.size, 0, none⟩ = some (.string S) ∧ (wq).cell? ⟨w.heap.size, 1, none⟩ = some (.string H) ∧ (wq).cell? ⟨w.heap.size, 2, none⟩ = some (.int .i64 p) ∧ (wq).cell? ⟨w.heap.size + 1, 0, none⟩ = some (.string S2) ∧ (wq).cell? ⟨w.heap.size + 1, 1, none⟩ = some (.string H2) ∧ (wq).cell? ⟨w.heap.size + 1, 2, none⟩ = some (.int .i64 p2)) := Lib.hid (by
      rw [hwq]
      exact ⟨HB4.out, Rw.cell HX4.out (j := 0) rfl, Rw.cell HX4.out (j := 1) rfl, Rw.cell HX4.out (j := 2) rfl, Rw.cell HY4.out (j := 0) rfl, Rw.cell HY4.out (j := 1) rfl, Rw.cell HY4.out (j := 2) rfl⟩)
    have HS1 : Hid (Below w.heap.size w wq.drew ∧ (wq.drew).cell? ⟨w.heap.size, 0, none⟩ = some (.string S) ∧ (wq.drew).cell? ⟨w.heap.size, 1, none⟩ = some (.string H) ∧ (wq.drew).cell? ⟨w.heap.size, 2, none⟩ = some (.int .i64 p) ∧ (wq.drew).cell? ⟨w.heap.size + 1, 0, none⟩ = some (.string S2) ∧ (wq.drew).cell? ⟨w.heap.size + 1, 1, none⟩ = some (.string H2) ∧ (wq.drew).cell? ⟨w.heap.size + 1, 2, none⟩ = some (.int .i64 p2)) := Lib.hid (HST.out wq wq.drew HS0.out (below_draws (Below.refl _ _) ⟨1, rfl⟩))
    go_wp2_with fail
    rw [← hwq]
    clear hwq HX0 HX1 HX2 HX3 HX4 HY0 HY1 HY2 HY3 HY4 HU3 HU4 HV4 HB0 HB1 HB2 HB3 HB4 HAO HAP HPU HPR
    refine wp_region_noPanic ?_
    refine wp_region_held_drew (S := fun W => Below w.heap.size w W ∧ (W).cell? ⟨w.heap.size, 0, none⟩ = some (.string S) ∧ (W).cell? ⟨w.heap.size, 1, none⟩ = some (.string H) ∧ (W).cell? ⟨w.heap.size, 2, none⟩ = some (.int .i64 p) ∧ (W).cell? ⟨w.heap.size + 1, 0, none⟩ = some (.string S2) ∧ (W).cell? ⟨w.heap.size + 1, 1, none⟩ = some (.string H2) ∧ (W).cell? ⟨w.heap.size + 1, 2, none⟩ = some (.int .i64 p2)) (by kernel_rfl) HS1.out (fun hH => ?_)
    refine otake_op 0 (v := ?v1) rfl rfl (by kernel_rfl) (by kernel_rfl) (by kernel_rfl) (fun _ _ _ h => h) (Or.inl ⟨by rfl, ?hy1⟩) (by assumption) ?rest1
    case hy1 => (intro w hSw; (try dsimp only at hSw); go_simp; try with_reducible rfl)
    try simp only [List.setIfInBounds_toArray, List.set_cons_zero, List.set_cons_succ]
    refine otake_op 1 (v := ?v2) rfl rfl (by kernel_rfl) (by kernel_rfl) (by kernel_rfl) (fun _ _ _ h => h) (Or.inl ⟨by rfl, ?hy2⟩) (by assumption) ?rest2
    case hy2 => (intro w hSw; (try dsimp only at hSw); go_simp; try with_reducible rfl)
    try simp only [List.setIfInBounds_toArray, List.set_cons_zero, List.set_cons_succ]
    refine otake_op 3 (v := ?v3) rfl rfl (by kernel_rfl) (by kernel_rfl) (by kernel_rfl) (fun _ _ _ h => h) (Or.inl ⟨by rfl, ?hy3⟩) (by assumption) ?rest3
    case hy3 => (intro w hSw; (try dsimp only at hSw); go_simp; try with_reducible rfl)
    try simp only [List.setIfInBounds_toArray, List.set_cons_zero, List.set_cons_succ]
    refine otake_op 4 (v := ?v4) rfl rfl (by kernel_rfl) (by kernel_rfl) (by kernel_rfl) (fun _ _ _ h => h) (Or.inl ⟨by rfl, ?hy4⟩) (by assumption) ?rest4
    case hy4 => (intro w hSw; (try dsimp only at hSw); go_simp; try with_reducible rfl)
    try simp only [List.setIfInBounds_toArray, List.set_cons_zero, List.set_cons_succ]
    refine wpAnyH_ready (rs := [2]) (by kernel_rfl) (by simp) ?_
    refine AllReadyH.cons (oop_at (o := _) rfl) (fun K hK => ?_) ?_
    · first | (go_at_call 8; refine (HSA.out _).mono ?_; rintro e w49 ⟨rfl, hb29⟩) | (go_simp; go_at_call 8; refine (HSA.out _).mono ?_; rintro e w49 ⟨rfl, hb29⟩)
      have hS29 := HST.out _ w49 (by assumption) hb29
      clear hb29
      refine hK.out _ _ hS29 (fun hHeld => ?_)
      clear hK K hHeld
      try simp only [Act.put, List.setIfInBounds_toArray, List.set_cons_zero, List.set_cons_succ]
      refine wpAnyH_ready (rs := [5]) (by kernel_rfl) (by simp) ?_
      refine AllReadyH.cons (oop_at (o := _) rfl) (fun K hK => ?_) ?_
      · first | (go_at_call 9; refine (HSR.out _).mono ?_; rintro e w48 ⟨rfl, hb28⟩) | (go_simp; go_at_call 9; refine (HSR.out _).mono ?_; rintro e w48 ⟨rfl, hb28⟩)
        have hS28 := HST.out _ w48 (by assumption) hb28
        clear hb28
        refine hK.out _ _ hS28 (fun hHeld => ?_)
        clear hK K hHeld
        try simp only [Act.put, List.setIfInBounds_toArray, List.set_cons_zero, List.set_cons_succ]
        refine otake_op 6 (v := ?v5) rfl rfl (by kernel_rfl) (by kernel_rfl) (by kernel_rfl) (fun _ _ _ h => h) (Or.inl ⟨by rfl, ?hy5⟩) (by assumption) ?rest5
        case hy5 => (intro w hSw; (try dsimp only at hSw); go_simp; try with_reducible rfl)
        try simp only [List.setIfInBounds_toArray, List.set_cons_zero, List.set_cons_succ]
        refine otake_op 7 (v := ?v6) rfl rfl (by kernel_rfl) (by kernel_rfl) (by kernel_rfl) (fun _ _ _ h => h) (Or.inl ⟨by rfl, ?hy6⟩) (by assumption) ?rest6
        case hy6 => (intro w hSw; (try dsimp only at hSw); go_simp; try with_reducible rfl)
        try simp only [List.setIfInBounds_toArray, List.set_cons_zero, List.set_cons_succ]
        refine otake_op 8 (v := ?v7) rfl rfl (by kernel_rfl) (by kernel_rfl) (by kernel_rfl) (fun _ _ _ h => h) (Or.inl ⟨by rfl, ?hy7⟩) (by assumption) ?rest7
        case hy7 => (intro w hSw; (try dsimp only at hSw); go_simp; try with_reducible rfl)
        try simp only [List.setIfInBounds_toArray, List.set_cons_zero, List.set_cons_succ]
        refine otake_op 10 (v := ?v8) rfl rfl (by kernel_rfl) (by kernel_rfl) (by kernel_rfl) (fun _ _ _ h => h) (Or.inl ⟨by rfl, ?hy8⟩) (by assumption) ?rest8
        case hy8 => (intro w hSw; (try dsimp only at hSw); go_simp; try with_reducible rfl)
        try simp only [List.setIfInBounds_toArray, List.set_cons_zero, List.set_cons_succ]
        refine wpAnyH_ready (rs := [9]) (by kernel_rfl) (by simp) ?_
        refine AllReadyH.cons (oop_at (o := _) rfl) (fun K hK => ?_) ?_
        · first | (go_at_call 10; refine (HTA.out _ (env_below HE.out (And.left (by assumption)))).mono ?_; rintro e w47 ⟨rfl, hb27⟩) | (go_simp; go_at_call 10; refine (HTA.out _ (env_below HE.out (And.left (by assumption)))).mono ?_; rintro e w47 ⟨rfl, hb27⟩)
          have hS27 := HST.out _ w47 (by assumption) hb27
          clear hb27
          refine hK.out _ _ hS27 (fun hHeld => ?_)
          clear hK K hHeld
          try simp only [Act.put, List.setIfInBounds_toArray, List.set_cons_zero, List.set_cons_succ]
          refine wpAnyH_ready (rs := [11]) (by kernel_rfl) (by simp) ?_
          refine AllReadyH.cons (oop_at (o := _) rfl) (fun K hK => ?_) ?_
          · first | (go_at_call 11; refine (HTR.out _).mono ?_; rintro e w46 ⟨rfl, hb26⟩) | (go_simp; go_at_call 11; refine (HTR.out _).mono ?_; rintro e w46 ⟨rfl, hb26⟩)
            have hS26 := HST.out _ w46 (by assumption) hb26
            clear hb26
            refine hK.out _ _ hS26 (fun hHeld => ?_)
            clear hK K hHeld
            try simp only [Act.put, List.setIfInBounds_toArray, List.set_cons_zero, List.set_cons_succ]
            refine otake_op 12 (v := ?v9) rfl rfl (by kernel_rfl) (by kernel_rfl) (by kernel_rfl) (fun _ _ _ h => h) (Or.inl ⟨by rfl, ?hy9⟩) (by assumption) ?rest9
            case hy9 => (intro w hSw; (try dsimp only at hSw); go_simp; try with_reducible rfl)
            try simp only [List.setIfInBounds_toArray, List.set_cons_zero, List.set_cons_succ]
            refine otake_op 13 (v := ?v10) rfl rfl (by kernel_rfl) (by kernel_rfl) (by kernel_rfl) (fun _ _ _ h => h) (Or.inl ⟨by rfl, ?hy10⟩) (by assumption) ?rest10
            case hy10 => (intro w hSw; (try dsimp only at hSw); go_simp; try with_reducible rfl)
            try simp only [List.setIfInBounds_toArray, List.set_cons_zero, List.set_cons_succ]
            refine otake_op 14 (v := ?v11) rfl rfl (by kernel_rfl) (by kernel_rfl) (by kernel_rfl) (fun _ _ _ h => h) (Or.inl ⟨by rfl, ?hy11⟩) (by assumption) ?rest11
            case hy11 => (intro w hSw; (try dsimp only at hSw); go_simp; try with_reducible rfl)
            try simp only [List.setIfInBounds_toArray, List.set_cons_zero, List.set_cons_succ]
            refine otake_op 15 (v := ?v12) rfl rfl (by kernel_rfl) (by kernel_rfl) (by kernel_rfl) (fun _ _ _ h => h) (Or.inl ⟨by rfl, ?hy12⟩) (by assumption) ?rest12
            case hy12 => (intro w hSw; (try dsimp only at hSw); go_simp; try with_reducible rfl)
            try simp only [List.setIfInBounds_toArray, List.set_cons_zero, List.set_cons_succ]
            refine otake_op 16 (v := ?v13) rfl rfl (by kernel_rfl) (by kernel_rfl) (by kernel_rfl) (fun _ _ _ h => h) (Or.inl ⟨by rfl, ?hy13⟩) (by assumption) ?rest13
            case hy13 => (intro w hSw; (try dsimp only at hSw); go_simp; try with_reducible rfl)
            try simp only [List.setIfInBounds_toArray, List.set_cons_zero, List.set_cons_succ]
            refine otake_op 17 (v := ?v14) rfl rfl (by kernel_rfl) (by kernel_rfl) (by kernel_rfl) (fun _ _ _ h => h) (Or.inl ⟨by rfl, ?hy14⟩) (by assumption) ?rest14
            case hy14 => (intro w hSw; (try dsimp only at hSw); go_simp; try with_reducible rfl)
            try simp only [List.setIfInBounds_toArray, List.set_cons_zero, List.set_cons_succ]
            refine otake_op 18 (v := undef) rfl rfl (by kernel_rfl) (by kernel_rfl) (by kernel_rfl) (fun _ _ _ h => h) (Or.inr ⟨by rfl, rfl⟩) (by assumption) ?_
            try simp only [List.setIfInBounds_toArray, List.set_cons_zero, List.set_cons_succ]
            refine otake_op 20 (v := undef) rfl rfl (by kernel_rfl) (by kernel_rfl) (by kernel_rfl) (fun _ _ _ h => h) (Or.inr ⟨by rfl, rfl⟩) (by assumption) ?_
            try simp only [List.setIfInBounds_toArray, List.set_cons_zero, List.set_cons_succ]
            refine otake_op 19 (v := undef) rfl rfl (by kernel_rfl) (by kernel_rfl) (by kernel_rfl) (fun _ _ _ h => h) (Or.inr ⟨by rfl, rfl⟩) (by assumption) ?_
            try simp only [List.setIfInBounds_toArray, List.set_cons_zero, List.set_cons_succ]
            refine otake_op 21 (v := undef) rfl rfl (by kernel_rfl) (by kernel_rfl) (by kernel_rfl) (fun _ _ _ h => h) (Or.inr ⟨by rfl, rfl⟩) (by assumption) ?_
            try simp only [List.setIfInBounds_toArray, List.set_cons_zero, List.set_cons_succ]
            refine otake_op 22 (v := undef) rfl rfl (by kernel_rfl) (by kernel_rfl) (by kernel_rfl) (fun _ _ _ h => h) (Or.inr ⟨by rfl, rfl⟩) (by assumption) ?_
            try simp only [List.setIfInBounds_toArray, List.set_cons_zero, List.set_cons_succ]
            refine otake_op 23 (v := ?v20) rfl rfl (by kernel_rfl) (by kernel_rfl) (by kernel_rfl) (fun _ _ _ h => h) (Or.inl ⟨by rfl, ?hy20⟩) (by assumption) ?rest20
            case hy20 => (intro w hSw; (try dsimp only at hSw); go_simp; try with_reducible rfl)
            try simp only [List.setIfInBounds_toArray, List.set_cons_zero, List.set_cons_succ]
            refine otake_op 24 (v := ?v21) rfl rfl (by kernel_rfl) (by kernel_rfl) (by kernel_rfl) (fun _ _ _ h => h) (Or.inl ⟨by rfl, ?hy21⟩) (by assumption) ?rest21
            case hy21 => (intro w hSw; (try dsimp only at hSw); go_simp; try with_reducible rfl)
            try simp only [List.setIfInBounds_toArray, List.set_cons_zero, List.set_cons_succ]
            refine otake_op 25 (v := ?v22) rfl rfl (by kernel_rfl) (by kernel_rfl) (by kernel_rfl) (fun _ _ _ h => h) (Or.inl ⟨by rfl, ?hy22⟩) (by assumption) ?rest22
            case hy22 => (intro w hSw; (try dsimp only at hSw); go_simp; try with_reducible rfl)
            try simp only [List.setIfInBounds_toArray, List.set_cons_zero, List.set_cons_succ]
            refine wpAnyH_ready (rs := [26]) (by kernel_rfl) (by simp) ?_
            refine AllReadyH.cons (oop_at (o := _) rfl) (fun K hK => ?_) ?_
            · first | (go_at_call 5; refine (HAW.out _ (env_below HE.out (And.left (by assumption)))).mono ?_; rintro e w45 ⟨rfl, hb25⟩) | (go_simp; go_at_call 5; refine (HAW.out _ (env_below HE.out (And.left (by assumption)))).mono ?_; rintro e w45 ⟨rfl, hb25⟩)
              have hS25 := HST.out _ w45 (by assumption) hb25
              clear hb25
              refine hK.out _ _ hS25 (fun hHeld => ?_)
              clear hK K hHeld
              try simp only [Act.put, List.setIfInBounds_toArray, List.set_cons_zero, List.set_cons_succ]
              refine otake_op 27 (v := ?v23) rfl rfl (by kernel_rfl) (by kernel_rfl) (by kernel_rfl) (fun _ _ _ h => h) (Or.inl ⟨by rfl, ?hy23⟩) (by assumption) ?rest23
              case hy23 => (intro w hSw; (try dsimp only at hSw); go_simp; try with_reducible rfl)
              try simp only [List.setIfInBounds_toArray, List.set_cons_zero, List.set_cons_succ]
              refine otake_op 28 (v := ?v24) rfl rfl (by kernel_rfl) (by kernel_rfl) (by kernel_rfl) (fun _ _ _ h => h) (Or.inl ⟨by rfl, ?hy24⟩) (by assumption) ?rest24
              case hy24 => (intro w hSw; (try dsimp only at hSw); go_simp; try with_reducible rfl)
              try simp only [List.setIfInBounds_toArray, List.set_cons_zero, List.set_cons_succ]
              refine wpAnyH_done (by kernel_rfl) ?_ _
              refine NoPanic.normal ?_
              go_wp2_with fail
              go_ret
              exact ⟨rfl, And.left (by assumption)⟩
            exact AllReadyH.nil
          exact AllReadyH.nil
        exact AllReadyH.nil
      exact AllReadyH.nil
    exact AllReadyH.nil

end Go.Proofs.YtdgmcpdphifmbaaGreatDoor
