/- UrlTexts: its walk. -/
import Derived.Test.YtinocdddihjfeaaGreatDoorProg
import Derived.Test.YtinocdddihjfeaaGreatDoorKit
import Derived.Test.YtinocdddihjfeaaGreatDoorRow
import Derived.Test.YtinocdddihjfeaaGreatDoorRow2
import Derived.Test.YtinocdddihjfeaaGreatDoorHst1
import Derived.Test.YtinocdddihjfeaaGreatDoorUrl0
import Derived.Test.YtinocdddihjfeaaGreatDoorUrl4
import Derived.Test.YtinocdddihjfeaaGreatDoorUrl6
import Derived.Test.YtinocdddihjfeaaGreatDoorUrl9
import Derived.Test.YtinocdddihjfeaaGreatDoorUrl12
import Derived.Test.YtinocdddihjfeaaGreatDoorUrr0
namespace Go.Proofs.YtinocdddihjfeaaGreatDoor
open Go.RowKit Go.Proofs
set_option maxRecDepth 100000

set_option maxHeartbeats 8000000 in
theorem urlTexts_any (S U P H : ByteArray) (pt : Int) (T : ByteArray) (hq : Bool) (Q : ByteArray) (hf : Bool) (F : ByteArray) (z0 : S.size ≤ 140737488351232) (z1 : U.size ≤ 140737488351232) (z2 : P.size ≤ 140737488351232) (z3 : H.size ≤ 140737488351232) (z4 : -9223372036854775808 ≤ pt ∧ pt ≤ 9223372036854775807) (z5 : T.size ≤ 140737488351232) (z7 : Q.size ≤ 140737488351232) (z9 : F.size ≤ 140737488351232) (w : World) (hE : Env11 w) :
    Calls Tryz.prog 4 #[.agg #[.string S, .string U, .string P, .string H, .int .i64 pt, .string T, .bool hq, .string Q, .bool hf, .string F]] w fun e w' => e = .returned (.bool true) ∧ Below w.heap.size w w' := by
  have HE := Lib.hid hE
  have HAW := Lib.hid (fun W (hW : Env11 W) => uawake_any W hW)
  have HAU := Lib.hid (fun W => aurl_any S U P H T Q F pt hq hf (by omega) (by omega) (by omega) (by omega) (by omega) (by omega) (by omega) W)
  have HB0 := Lib.hid (below_more (Below.refl _ w) (.cells #[.string S, .string U, .string P, .string H, .int .i64 pt, .string T, .bool hq, .string Q, .bool hf, .string F] 24))
  have HU0 : Hid (Rw (w.alloc (.cells #[.string S, .string U, .string P, .string H, .int .i64 pt, .string T, .bool hq, .string Q, .bool hf, .string F] 24)) 0 w.heap.size 24 [.string S, .string U, .string P, .string H, .int .i64 pt, .string T, .bool hq, .string Q, .bool hf, .string F]) := Lib.hid (Rw.alloc w _ _ (Nat.zero_le _))
  obtain ⟨b1, hb1⟩ : ∃ b1, b1 = decide ((-1 ≤ pt ∧ pt ≤ 65535) ∧ S.size + U.size + P.size + H.size + T.size + Q.size + F.size ≤ 3000) := ⟨_, rfl⟩
  rw [← hb1] at HAU
  cases b1
  · clear hb1 z0 z1 z2 z3 z4 z5 z7 z9 hE
    go_enter Tryz.func4, Tryz.ntmps4
    go_wp2_with fail
    refine (HAU.out _).mono ?_
    rintro e w1 ⟨rfl, hb1⟩
    have HB1 := Lib.hid (below_then HB0.out hb1)
    have HU1 := Lib.hid (Rw.below HU0.out hb1)
    clear hb1
    have u0 := Rw.cell HU1.out (j := 0) rfl
    have u1 := Rw.cell HU1.out (j := 1) rfl
    have u2 := Rw.cell HU1.out (j := 2) rfl
    have u3 := Rw.cell HU1.out (j := 3) rfl
    have u4 := Rw.cell HU1.out (j := 4) rfl
    have u5 := Rw.cell HU1.out (j := 5) rfl
    have u6 := Rw.cell HU1.out (j := 6) rfl
    have u7 := Rw.cell HU1.out (j := 7) rfl
    have u8 := Rw.cell HU1.out (j := 8) rfl
    have u9 := Rw.cell HU1.out (j := 9) rfl
    go_wp2_with fail
    refine (HAW.out _ (env_below HE.out HB1.out)).mono ?_
    rintro e w6 ⟨rfl, hb6⟩
    have HB6 := Lib.hid (below_then HB1.out hb6)
    clear hb6
    go_wp2_with fail
    go_ret
    exact ⟨rfl, HB6.out⟩
  have hsz := of_decide_eq_true hb1.symm
  have hT := hE.2.1
  obtain ⟨X, hX⟩ : ∃ X : ByteArray, X = ⟨(textU ⟨S.data.toList, U.data.toList, P.data.toList, H.data.toList, pt, T.data.toList, hq, Q.data.toList, hf, F.data.toList⟩).toArray⟩ := ⟨_, rfl⟩
  have HST : Hid (∀ W W', (Below w.heap.size w W ∧ (W).cell? ⟨w.heap.size, 0, none⟩ = some (.string S) ∧ (W).cell? ⟨w.heap.size, 1, none⟩ = some (.string U) ∧ (W).cell? ⟨w.heap.size, 2, none⟩ = some (.string P) ∧ (W).cell? ⟨w.heap.size, 3, none⟩ = some (.string H) ∧ (W).cell? ⟨w.heap.size, 4, none⟩ = some (.int .i64 pt) ∧ (W).cell? ⟨w.heap.size, 5, none⟩ = some (.string T) ∧ (W).cell? ⟨w.heap.size, 6, none⟩ = some (.bool hq) ∧ (W).cell? ⟨w.heap.size, 7, none⟩ = some (.string Q) ∧ (W).cell? ⟨w.heap.size, 8, none⟩ = some (.bool hf) ∧ (W).cell? ⟨w.heap.size, 9, none⟩ = some (.string F)) → Below W.heap.size W W' → (Below w.heap.size w W' ∧ (W').cell? ⟨w.heap.size, 0, none⟩ = some (.string S) ∧ (W').cell? ⟨w.heap.size, 1, none⟩ = some (.string U) ∧ (W').cell? ⟨w.heap.size, 2, none⟩ = some (.string P) ∧ (W').cell? ⟨w.heap.size, 3, none⟩ = some (.string H) ∧ (W').cell? ⟨w.heap.size, 4, none⟩ = some (.int .i64 pt) ∧ (W').cell? ⟨w.heap.size, 5, none⟩ = some (.string T) ∧ (W').cell? ⟨w.heap.size, 6, none⟩ = some (.bool hq) ∧ (W').cell? ⟨w.heap.size, 7, none⟩ = some (.string Q) ∧ (W').cell? ⟨w.heap.size, 8, none⟩ = some (.bool hf) ∧ (W').cell? ⟨w.heap.size, 9, none⟩ = some (.string F))) := Lib.hid (by
    intro W W' h hb
    obtain ⟨h0, h1, h2, h3, h4, h5, h6, h7, h8, h9, h10⟩ := h
    exact ⟨h0.trans (hb.mono h0.size), cell_stays h1 hb, cell_stays h2 hb, cell_stays h3 hb, cell_stays h4 hb, cell_stays h5 hb, cell_stays h6 hb, cell_stays h7 hb, cell_stays h8 hb, cell_stays h9 hb, cell_stays h10 hb⟩)
  have HTX : Hid (∀ W, (Below w.heap.size w W ∧ (W).cell? ⟨w.heap.size, 0, none⟩ = some (.string S) ∧ (W).cell? ⟨w.heap.size, 1, none⟩ = some (.string U) ∧ (W).cell? ⟨w.heap.size, 2, none⟩ = some (.string P) ∧ (W).cell? ⟨w.heap.size, 3, none⟩ = some (.string H) ∧ (W).cell? ⟨w.heap.size, 4, none⟩ = some (.int .i64 pt) ∧ (W).cell? ⟨w.heap.size, 5, none⟩ = some (.string T) ∧ (W).cell? ⟨w.heap.size, 6, none⟩ = some (.bool hq) ∧ (W).cell? ⟨w.heap.size, 7, none⟩ = some (.string Q) ∧ (W).cell? ⟨w.heap.size, 8, none⟩ = some (.bool hf) ∧ (W).cell? ⟨w.heap.size, 9, none⟩ = some (.string F)) → Calls Tryz.prog 11 #[.agg #[.string S, .string U, .string P, .string H, .int .i64 pt, .string T, .bool hq, .string Q, .bool hf, .string F]] W fun e w' => e = .returned (.string X) ∧ (Below w.heap.size w w' ∧ (w').cell? ⟨w.heap.size, 0, none⟩ = some (.string S) ∧ (w').cell? ⟨w.heap.size, 1, none⟩ = some (.string U) ∧ (w').cell? ⟨w.heap.size, 2, none⟩ = some (.string P) ∧ (w').cell? ⟨w.heap.size, 3, none⟩ = some (.string H) ∧ (w').cell? ⟨w.heap.size, 4, none⟩ = some (.int .i64 pt) ∧ (w').cell? ⟨w.heap.size, 5, none⟩ = some (.string T) ∧ (w').cell? ⟨w.heap.size, 6, none⟩ = some (.bool hq) ∧ (w').cell? ⟨w.heap.size, 7, none⟩ = some (.string Q) ∧ (w').cell? ⟨w.heap.size, 8, none⟩ = some (.bool hf) ∧ (w').cell? ⟨w.heap.size, 9, none⟩ = some (.string F))) := Lib.hid (fun W hW => by
    rw [hX]
    exact (utext_any S U P H T Q F pt hq hf (by omega) (by omega) (by omega) (by omega) (by omega) (by omega) (by omega) z4 W (tab10_below hT hW.1)).mono fun e w' h => ⟨h.1, HST.out W w' hW h.2⟩)
  have HRX : Hid (∀ W, (Below w.heap.size w W ∧ (W).cell? ⟨w.heap.size, 0, none⟩ = some (.string S) ∧ (W).cell? ⟨w.heap.size, 1, none⟩ = some (.string U) ∧ (W).cell? ⟨w.heap.size, 2, none⟩ = some (.string P) ∧ (W).cell? ⟨w.heap.size, 3, none⟩ = some (.string H) ∧ (W).cell? ⟨w.heap.size, 4, none⟩ = some (.int .i64 pt) ∧ (W).cell? ⟨w.heap.size, 5, none⟩ = some (.string T) ∧ (W).cell? ⟨w.heap.size, 6, none⟩ = some (.bool hq) ∧ (W).cell? ⟨w.heap.size, 7, none⟩ = some (.string Q) ∧ (W).cell? ⟨w.heap.size, 8, none⟩ = some (.bool hf) ∧ (W).cell? ⟨w.heap.size, 9, none⟩ = some (.string F)) → Calls Tryz.prog 12 #[.agg #[.string S, .string U, .string P, .string H, .int .i64 pt, .string T, .bool hq, .string Q, .bool hf, .string F]] W fun e w' => e = .returned (.string X) ∧ (Below w.heap.size w w' ∧ (w').cell? ⟨w.heap.size, 0, none⟩ = some (.string S) ∧ (w').cell? ⟨w.heap.size, 1, none⟩ = some (.string U) ∧ (w').cell? ⟨w.heap.size, 2, none⟩ = some (.string P) ∧ (w').cell? ⟨w.heap.size, 3, none⟩ = some (.string H) ∧ (w').cell? ⟨w.heap.size, 4, none⟩ = some (.int .i64 pt) ∧ (w').cell? ⟨w.heap.size, 5, none⟩ = some (.string T) ∧ (w').cell? ⟨w.heap.size, 6, none⟩ = some (.bool hq) ∧ (w').cell? ⟨w.heap.size, 7, none⟩ = some (.string Q) ∧ (w').cell? ⟨w.heap.size, 8, none⟩ = some (.bool hf) ∧ (w').cell? ⟨w.heap.size, 9, none⟩ = some (.string F))) := Lib.hid (fun W hW => by
    rw [hX]
    exact (rtext_any S U P H T Q F pt hq hf (by omega) (by omega) (by omega) (by omega) (by omega) (by omega) (by omega) z4 W).mono fun e w' h => ⟨h.1, HST.out W w' hW h.2⟩)
  obtain ⟨q, hqq⟩ : ∃ q, q = if pt = -1 then (defP S.data.toList).1 else pt := ⟨_, rfl⟩
  have HOF : Hid (∀ W, (Below w.heap.size w W ∧ (W).cell? ⟨w.heap.size, 0, none⟩ = some (.string S) ∧ (W).cell? ⟨w.heap.size, 1, none⟩ = some (.string U) ∧ (W).cell? ⟨w.heap.size, 2, none⟩ = some (.string P) ∧ (W).cell? ⟨w.heap.size, 3, none⟩ = some (.string H) ∧ (W).cell? ⟨w.heap.size, 4, none⟩ = some (.int .i64 pt) ∧ (W).cell? ⟨w.heap.size, 5, none⟩ = some (.string T) ∧ (W).cell? ⟨w.heap.size, 6, none⟩ = some (.bool hq) ∧ (W).cell? ⟨w.heap.size, 7, none⟩ = some (.string Q) ∧ (W).cell? ⟨w.heap.size, 8, none⟩ = some (.bool hf) ∧ (W).cell? ⟨w.heap.size, 9, none⟩ = some (.string F)) → Calls Tryz.prog 13 #[.agg #[.string S, .string U, .string P, .string H, .int .i64 pt, .string T, .bool hq, .string Q, .bool hf, .string F]] W fun e w' => e = .returned (.int .i64 q) ∧ (Below w.heap.size w w' ∧ (w').cell? ⟨w.heap.size, 0, none⟩ = some (.string S) ∧ (w').cell? ⟨w.heap.size, 1, none⟩ = some (.string U) ∧ (w').cell? ⟨w.heap.size, 2, none⟩ = some (.string P) ∧ (w').cell? ⟨w.heap.size, 3, none⟩ = some (.string H) ∧ (w').cell? ⟨w.heap.size, 4, none⟩ = some (.int .i64 pt) ∧ (w').cell? ⟨w.heap.size, 5, none⟩ = some (.string T) ∧ (w').cell? ⟨w.heap.size, 6, none⟩ = some (.bool hq) ∧ (w').cell? ⟨w.heap.size, 7, none⟩ = some (.string Q) ∧ (w').cell? ⟨w.heap.size, 8, none⟩ = some (.bool hf) ∧ (w').cell? ⟨w.heap.size, 9, none⟩ = some (.string F))) := Lib.hid (fun W hW => by
    rw [hqq]
    exact (uPortU_any S U P H T Q F pt hq hf W).mono fun e w' h => ⟨h.1, HST.out W w' hW h.2⟩)
  have HRO : Hid (∀ W, (Below w.heap.size w W ∧ (W).cell? ⟨w.heap.size, 0, none⟩ = some (.string S) ∧ (W).cell? ⟨w.heap.size, 1, none⟩ = some (.string U) ∧ (W).cell? ⟨w.heap.size, 2, none⟩ = some (.string P) ∧ (W).cell? ⟨w.heap.size, 3, none⟩ = some (.string H) ∧ (W).cell? ⟨w.heap.size, 4, none⟩ = some (.int .i64 pt) ∧ (W).cell? ⟨w.heap.size, 5, none⟩ = some (.string T) ∧ (W).cell? ⟨w.heap.size, 6, none⟩ = some (.bool hq) ∧ (W).cell? ⟨w.heap.size, 7, none⟩ = some (.string Q) ∧ (W).cell? ⟨w.heap.size, 8, none⟩ = some (.bool hf) ∧ (W).cell? ⟨w.heap.size, 9, none⟩ = some (.string F)) → Calls Tryz.prog 14 #[.agg #[.string S, .string U, .string P, .string H, .int .i64 pt, .string T, .bool hq, .string Q, .bool hf, .string F]] W fun e w' => e = .returned (.int .i64 q) ∧ (Below w.heap.size w w' ∧ (w').cell? ⟨w.heap.size, 0, none⟩ = some (.string S) ∧ (w').cell? ⟨w.heap.size, 1, none⟩ = some (.string U) ∧ (w').cell? ⟨w.heap.size, 2, none⟩ = some (.string P) ∧ (w').cell? ⟨w.heap.size, 3, none⟩ = some (.string H) ∧ (w').cell? ⟨w.heap.size, 4, none⟩ = some (.int .i64 pt) ∧ (w').cell? ⟨w.heap.size, 5, none⟩ = some (.string T) ∧ (w').cell? ⟨w.heap.size, 6, none⟩ = some (.bool hq) ∧ (w').cell? ⟨w.heap.size, 7, none⟩ = some (.string Q) ∧ (w').cell? ⟨w.heap.size, 8, none⟩ = some (.bool hf) ∧ (w').cell? ⟨w.heap.size, 9, none⟩ = some (.string F))) := Lib.hid (fun W hW => by
    rw [hqq]
    exact (rPortU_any S U P H T Q F pt hq hf W).mono fun e w' h => ⟨h.1, HST.out W w' hW h.2⟩)
  have HAK : Hid (∀ W, (Below w.heap.size w W ∧ (W).cell? ⟨w.heap.size, 0, none⟩ = some (.string S) ∧ (W).cell? ⟨w.heap.size, 1, none⟩ = some (.string U) ∧ (W).cell? ⟨w.heap.size, 2, none⟩ = some (.string P) ∧ (W).cell? ⟨w.heap.size, 3, none⟩ = some (.string H) ∧ (W).cell? ⟨w.heap.size, 4, none⟩ = some (.int .i64 pt) ∧ (W).cell? ⟨w.heap.size, 5, none⟩ = some (.string T) ∧ (W).cell? ⟨w.heap.size, 6, none⟩ = some (.bool hq) ∧ (W).cell? ⟨w.heap.size, 7, none⟩ = some (.string Q) ∧ (W).cell? ⟨w.heap.size, 8, none⟩ = some (.bool hf) ∧ (W).cell? ⟨w.heap.size, 9, none⟩ = some (.string F)) → Calls Tryz.prog 5 #[] W fun e w' => e = .returned (.bool true) ∧ (Below w.heap.size w w' ∧ (w').cell? ⟨w.heap.size, 0, none⟩ = some (.string S) ∧ (w').cell? ⟨w.heap.size, 1, none⟩ = some (.string U) ∧ (w').cell? ⟨w.heap.size, 2, none⟩ = some (.string P) ∧ (w').cell? ⟨w.heap.size, 3, none⟩ = some (.string H) ∧ (w').cell? ⟨w.heap.size, 4, none⟩ = some (.int .i64 pt) ∧ (w').cell? ⟨w.heap.size, 5, none⟩ = some (.string T) ∧ (w').cell? ⟨w.heap.size, 6, none⟩ = some (.bool hq) ∧ (w').cell? ⟨w.heap.size, 7, none⟩ = some (.string Q) ∧ (w').cell? ⟨w.heap.size, 8, none⟩ = some (.bool hf) ∧ (w').cell? ⟨w.heap.size, 9, none⟩ = some (.string F))) := Lib.hid (fun W hW => (uawake_any W (env_below HE.out hW.1)).mono fun e w' h => ⟨h.1, HST.out W w' hW h.2⟩)
  have HD := Lib.hid (fun W => udef_any S W)
  have HRD := Lib.hid (fun W => rdef_any S W)
  obtain ⟨D, hD⟩ : ∃ D, D = (defP S.data.toList).1 := ⟨_, rfl⟩
  obtain ⟨B, hB⟩ : ∃ B, B = (defP S.data.toList).2 := ⟨_, rfl⟩
  rw [← hD, ← hB] at HD HRD
  clear hD hB hqq hX hT hsz hb1 z0 z1 z2 z3 z4 z5 z7 z9 hE HAW
  go_enter Tryz.func4, Tryz.ntmps4
  go_wp2_with fail
  refine (HAU.out _).mono ?_
  rintro e w1 ⟨rfl, hb1⟩
  have HB1 := Lib.hid (below_then HB0.out hb1)
  have HU1 := Lib.hid (Rw.below HU0.out hb1)
  clear hb1
  have u0 := Rw.cell HU1.out (j := 0) rfl
  have u1 := Rw.cell HU1.out (j := 1) rfl
  have u2 := Rw.cell HU1.out (j := 2) rfl
  have u3 := Rw.cell HU1.out (j := 3) rfl
  have u4 := Rw.cell HU1.out (j := 4) rfl
  have u5 := Rw.cell HU1.out (j := 5) rfl
  have u6 := Rw.cell HU1.out (j := 6) rfl
  have u7 := Rw.cell HU1.out (j := 7) rfl
  have u8 := Rw.cell HU1.out (j := 8) rfl
  have u9 := Rw.cell HU1.out (j := 9) rfl
  go_wp2_with fail
  refine (HD.out _).mono ?_
  rintro e w2 ⟨rfl, rfl⟩
  go_wp2_with fail
  refine (HRD.out _).mono ?_
  rintro e w3 ⟨rfl, rfl⟩
  have HS0 : Hid (Below w.heap.size w w3 ∧ (w3).cell? ⟨w.heap.size, 0, none⟩ = some (.string S) ∧ (w3).cell? ⟨w.heap.size, 1, none⟩ = some (.string U) ∧ (w3).cell? ⟨w.heap.size, 2, none⟩ = some (.string P) ∧ (w3).cell? ⟨w.heap.size, 3, none⟩ = some (.string H) ∧ (w3).cell? ⟨w.heap.size, 4, none⟩ = some (.int .i64 pt) ∧ (w3).cell? ⟨w.heap.size, 5, none⟩ = some (.string T) ∧ (w3).cell? ⟨w.heap.size, 6, none⟩ = some (.bool hq) ∧ (w3).cell? ⟨w.heap.size, 7, none⟩ = some (.string Q) ∧ (w3).cell? ⟨w.heap.size, 8, none⟩ = some (.bool hf) ∧ (w3).cell? ⟨w.heap.size, 9, none⟩ = some (.string F)) := Lib.hid ⟨HB1.out, Rw.cell HU1.out (j := 0) rfl, Rw.cell HU1.out (j := 1) rfl, Rw.cell HU1.out (j := 2) rfl, Rw.cell HU1.out (j := 3) rfl, Rw.cell HU1.out (j := 4) rfl, Rw.cell HU1.out (j := 5) rfl, Rw.cell HU1.out (j := 6) rfl, Rw.cell HU1.out (j := 7) rfl, Rw.cell HU1.out (j := 8) rfl, Rw.cell HU1.out (j := 9) rfl⟩
  have HS1 : Hid (Below w.heap.size w w3.drew ∧ (w3.drew).cell? ⟨w.heap.size, 0, none⟩ = some (.string S) ∧ (w3.drew).cell? ⟨w.heap.size, 1, none⟩ = some (.string U) ∧ (w3.drew).cell? ⟨w.heap.size, 2, none⟩ = some (.string P) ∧ (w3.drew).cell? ⟨w.heap.size, 3, none⟩ = some (.string H) ∧ (w3.drew).cell? ⟨w.heap.size, 4, none⟩ = some (.int .i64 pt) ∧ (w3.drew).cell? ⟨w.heap.size, 5, none⟩ = some (.string T) ∧ (w3.drew).cell? ⟨w.heap.size, 6, none⟩ = some (.bool hq) ∧ (w3.drew).cell? ⟨w.heap.size, 7, none⟩ = some (.string Q) ∧ (w3.drew).cell? ⟨w.heap.size, 8, none⟩ = some (.bool hf) ∧ (w3.drew).cell? ⟨w.heap.size, 9, none⟩ = some (.string F)) := Lib.hid (HST.out _ _ HS0.out (below_draws (Below.refl _ _) ⟨1, rfl⟩))
  go_wp2_with fail
  clear HU0 HU1 HB0 HB1 HAU HD HRD
  go_region_held3 (fun W => Below w.heap.size w W ∧ (W).cell? ⟨w.heap.size, 0, none⟩ = some (.string S) ∧ (W).cell? ⟨w.heap.size, 1, none⟩ = some (.string U) ∧ (W).cell? ⟨w.heap.size, 2, none⟩ = some (.string P) ∧ (W).cell? ⟨w.heap.size, 3, none⟩ = some (.string H) ∧ (W).cell? ⟨w.heap.size, 4, none⟩ = some (.int .i64 pt) ∧ (W).cell? ⟨w.heap.size, 5, none⟩ = some (.string T) ∧ (W).cell? ⟨w.heap.size, 6, none⟩ = some (.bool hq) ∧ (W).cell? ⟨w.heap.size, 7, none⟩ = some (.string Q) ∧ (W).cell? ⟨w.heap.size, 8, none⟩ = some (.bool hf) ∧ (W).cell? ⟨w.heap.size, 9, none⟩ = some (.string F))
    (first | exact HS1.out | assumption)
    (first
      | (go_at_call 11; refine (HTX.out _ (by assumption)).mono ?_; rintro e w4 ⟨rfl, hS4⟩)
      | (go_at_call 12; refine (HRX.out _ (by assumption)).mono ?_; rintro e w5 ⟨rfl, hS5⟩)
      | (go_at_call 13; refine (HOF.out _ (by assumption)).mono ?_; rintro e w6 ⟨rfl, hS6⟩)
      | (go_at_call 14; refine (HRO.out _ (by assumption)).mono ?_; rintro e w7 ⟨rfl, hS7⟩)
      | (go_at_call 5; refine (HAK.out _ (by assumption)).mono ?_; rintro e w8 ⟨rfl, hS8⟩))
  go_wp2_with fail
  go_ret
  exact ⟨rfl, hS8.1⟩

end Go.Proofs.YtinocdddihjfeaaGreatDoor
