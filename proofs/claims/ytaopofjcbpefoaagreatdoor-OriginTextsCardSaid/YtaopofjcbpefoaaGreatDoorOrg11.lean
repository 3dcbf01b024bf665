/- OriginTexts: its walk. -/
import Derived.Test.YtaopofjcbpefoaaGreatDoorProg
import Derived.Test.YtaopofjcbpefoaaGreatDoorKit
import Derived.Test.YtaopofjcbpefoaaGreatDoorRow
import Derived.Test.YtaopofjcbpefoaaGreatDoorRow2
import Derived.Test.YtaopofjcbpefoaaGreatDoorHst1
import Derived.Test.YtaopofjcbpefoaaGreatDoorUrl6
import Derived.Test.YtaopofjcbpefoaaGreatDoorUrl9
import Derived.Test.YtaopofjcbpefoaaGreatDoorUrr0
import Derived.Test.YtaopofjcbpefoaaGreatDoorOrg0
import Derived.Test.YtaopofjcbpefoaaGreatDoorOrg3
import Derived.Test.YtaopofjcbpefoaaGreatDoorOrg9
import Derived.Test.YtaopofjcbpefoaaGreatDoorOrg10
namespace Go.Proofs.YtaopofjcbpefoaaGreatDoor
open Go.RowKit Go.Proofs
set_option maxRecDepth 100000

set_option maxHeartbeats 8000000 in
theorem originTexts_any (S H : ByteArray) (p : Int) (hS : S.size ≤ 140737488351232) (hH : H.size ≤ 140737488351232) (_hp : -9223372036854775808 ≤ p ∧ p ≤ 9223372036854775807) (S1 U P H1 : ByteArray) (pt : Int) (T : ByteArray) (hq : Bool) (Q : ByteArray) (hf : Bool) (F : ByteArray) (z0 : S1.size ≤ 140737488351232) (z1 : U.size ≤ 140737488351232) (z2 : P.size ≤ 140737488351232) (z3 : H1.size ≤ 140737488351232) (_z4 : -9223372036854775808 ≤ pt ∧ pt ≤ 9223372036854775807) (z5 : T.size ≤ 140737488351232) (z7 : Q.size ≤ 140737488351232) (z9 : F.size ≤ 140737488351232) (w : World) (hE : Env11 w) :
    Calls Tryz.prog 4 #[.agg #[.string S, .string H, .int .i64 p], .agg #[.string S1, .string U, .string P, .string H1, .int .i64 pt, .string T, .bool hq, .string Q, .bool hf, .string F]] w fun e w' => e = .returned (.bool true) ∧ Below w.heap.size w w' := by
  have HE := Lib.hid hE
  have HAW := Lib.hid (fun W (hW : Env11 W) => oawake_any W hW)
  have HAO := Lib.hid (fun W => aorigin_any S H p (by omega) (by omega) W)
  have HAU := Lib.hid (fun W => aurl_any S1 U P H1 T Q F pt hq hf (by omega) (by omega) (by omega) (by omega) (by omega) (by omega) (by omega) W)
  have HB0 := Lib.hid (below_more (below_more (Below.refl _ w) (.cells #[.string S, .string H, .int .i64 p] 24)) (.cells #[.string S1, .string U, .string P, .string H1, .int .i64 pt, .string T, .bool hq, .string Q, .bool hf, .string F] 32))
  have HO0 : Hid (Rw ((w.alloc (.cells #[.string S, .string H, .int .i64 p] 24)).alloc (.cells #[.string S1, .string U, .string P, .string H1, .int .i64 pt, .string T, .bool hq, .string Q, .bool hf, .string F] 32)) 0 w.heap.size 24 [.string S, .string H, .int .i64 p]) := Lib.hid (Rw.more (Rw.alloc w _ _ (Nat.zero_le _)) _)
  have HU0 : Hid (Rw ((w.alloc (.cells #[.string S, .string H, .int .i64 p] 24)).alloc (.cells #[.string S1, .string U, .string P, .string H1, .int .i64 pt, .string T, .bool hq, .string Q, .bool hf, .string F] 32)) 0 (w.heap.size + 1) 32 [.string S1, .string U, .string P, .string H1, .int .i64 pt, .string T, .bool hq, .string Q, .bool hf, .string F]) := Lib.hid (by
    have h : Rw ((w.alloc (.cells #[.string S, .string H, .int .i64 p] 24)).alloc (.cells #[.string S1, .string U, .string P, .string H1, .int .i64 pt, .string T, .bool hq, .string Q, .bool hf, .string F] 32)) 0 (w.alloc (.cells #[.string S, .string H, .int .i64 p] 24)).heap.size 32 [.string S1, .string U, .string P, .string H1, .int .i64 pt, .string T, .bool hq, .string Q, .bool hf, .string F] := Rw.alloc _ _ _ (Nat.zero_le _)
    have hs : (w.alloc (.cells #[.string S, .string H, .int .i64 p] 24)).heap.size = w.heap.size + 1 := Array.size_push ..
    rw [hs] at h
    exact h)
  obtain ⟨b0, hb0⟩ : ∃ b0, b0 = decide (0 ≤ p ∧ p ≤ 65535 ∧ S.size + H.size ≤ 1000) := ⟨_, rfl⟩
  rw [← hb0] at HAO
  obtain ⟨b1, hb1⟩ : ∃ b1, b1 = decide ((-1 ≤ pt ∧ pt ≤ 65535) ∧ S1.size + U.size + P.size + H1.size + T.size + Q.size + F.size ≤ 3000) := ⟨_, rfl⟩
  rw [← hb1] at HAU
  clear z0 z1 z2 z3 z5 z7 z9 hb1
  cases b0
  · clear hb0 hS hH HAU hE
    go_enter Tryz.func4, Tryz.ntmps4
    go_wp2_with fail
    refine (HAO.out _).mono ?_
    rintro e w1 ⟨rfl, hb1⟩
    have HB1 := Lib.hid (below_then HB0.out hb1)
    have HO1 := Lib.hid (Rw.below HO0.out hb1)
    have HU1 := Lib.hid (Rw.below HU0.out hb1)
    clear hb1
    have u0 := Rw.cell HU1.out (j := 0) rfl
    have u1 := Rw.cell HU1.out (j := 1) rfl
    have u2 := Rw.cell HU1.out (j := 2) rfl
    have u3 := Rw.cell HU1.out (j := 3) rfl
    have u4 := Rw.cell HU1.out (j := 4) rfl
    have u5 := Rw.cell HU1.out (j := 5) rfl
    have u6 := Rw.cell HU1.out (j := 6) rfl
    have u7 := Rw.cell HU1.out (j := 7) rfl
    have u8 := Rw.cell HU1.out (j := 8) rfl
    have u9 := Rw.cell HU1.out (j := 9) rfl
    go_wp2_with fail
    refine (HAW.out _ (env_below HE.out HB1.out)).mono ?_
    rintro e w6 ⟨rfl, hb6⟩
    have HB6 := Lib.hid (below_then HB1.out hb6)
    clear hb6
    go_wp2_with fail
    go_ret
    exact ⟨rfl, HB6.out⟩
  have hsz := of_decide_eq_true hb0.symm
  cases b1
  · clear hb0 hS hH hsz hE
    go_enter Tryz.func4, Tryz.ntmps4
    go_wp2_with fail
    refine (HAO.out _).mono ?_
    rintro e w1 ⟨rfl, hb1⟩
    have HB1 := Lib.hid (below_then HB0.out hb1)
    have HO1 := Lib.hid (Rw.below HO0.out hb1)
    have HU1 := Lib.hid (Rw.below HU0.out hb1)
    clear hb1
    have u0 := Rw.cell HU1.out (j := 0) rfl
    have u1 := Rw.cell HU1.out (j := 1) rfl
    have u2 := Rw.cell HU1.out (j := 2) rfl
    have u3 := Rw.cell HU1.out (j := 3) rfl
    have u4 := Rw.cell HU1.out (j := 4) rfl
    have u5 := Rw.cell HU1.out (j := 5) rfl
    have u6 := Rw.cell HU1.out (j := 6) rfl
    have u7 := Rw.cell HU1.out (j := 7) rfl
    have u8 := Rw.cell HU1.out (j := 8) rfl
    have u9 := Rw.cell HU1.out (j := 9) rfl
    go_wp2_with fail
    refine (HAU.out _).mono ?_
    rintro e w2 ⟨rfl, hb2⟩
    have HB2 := Lib.hid (below_then HB1.out hb2)
    have HO2 := Lib.hid (Rw.below HO1.out hb2)
    have HU2 := Lib.hid (Rw.below HU1.out hb2)
    clear hb2 u0 u1 u2 u3 u4 u5 u6 u7 u8 u9
    go_wp2_with fail
    refine (HAW.out _ (env_below HE.out HB2.out)).mono ?_
    rintro e w6 ⟨rfl, hb6⟩
    have HB6 := Lib.hid (below_then HB2.out hb6)
    clear hb6
    go_wp2_with fail
    go_ret
    exact ⟨rfl, HB6.out⟩
  have hT := hE.2.1
  obtain ⟨X, hX⟩ : ∃ X : ByteArray, X = ⟨(textO ⟨S.data.toList, H.data.toList, p⟩).toArray⟩ := ⟨_, rfl⟩
  have HST : Hid (∀ W W', (Below w.heap.size w W ∧ (W).cell? ⟨w.heap.size, 0, none⟩ = some (.string S) ∧ (W).cell? ⟨w.heap.size, 1, none⟩ = some (.string H) ∧ (W).cell? ⟨w.heap.size, 2, none⟩ = some (.int .i64 p) ∧ (W).cell? ⟨w.heap.size + 1, 0, none⟩ = some (.string S1) ∧ (W).cell? ⟨w.heap.size + 1, 1, none⟩ = some (.string U) ∧ (W).cell? ⟨w.heap.size + 1, 2, none⟩ = some (.string P) ∧ (W).cell? ⟨w.heap.size + 1, 3, none⟩ = some (.string H1) ∧ (W).cell? ⟨w.heap.size + 1, 4, none⟩ = some (.int .i64 pt) ∧ (W).cell? ⟨w.heap.size + 1, 5, none⟩ = some (.string T) ∧ (W).cell? ⟨w.heap.size + 1, 6, none⟩ = some (.bool hq) ∧ (W).cell? ⟨w.heap.size + 1, 7, none⟩ = some (.string Q) ∧ (W).cell? ⟨w.heap.size + 1, 8, none⟩ = some (.bool hf) ∧ (W).cell? ⟨w.heap.size + 1, 9, none⟩ = some (.string F)) → Below W.heap.size W W' → (Below w.heap.size w W' ∧ (W').cell? ⟨w.heap.size, 0, none⟩ = some (.string S) ∧ (W').cell? ⟨w.heap.size, 1, none⟩ = some (.string H) ∧ (W').cell? ⟨w.heap.size, 2, none⟩ = some (.int .i64 p) ∧ (W').cell? ⟨w.heap.size + 1, 0, none⟩ = some (.string S1) ∧ (W').cell? ⟨w.heap.size + 1, 1, none⟩ = some (.string U) ∧ (W').cell? ⟨w.heap.size + 1, 2, none⟩ = some (.string P) ∧ (W').cell? ⟨w.heap.size + 1, 3, none⟩ = some (.string H1) ∧ (W').cell? ⟨w.heap.size + 1, 4, none⟩ = some (.int .i64 pt) ∧ (W').cell? ⟨w.heap.size + 1, 5, none⟩ = some (.string T) ∧ (W').cell? ⟨w.heap.size + 1, 6, none⟩ = some (.bool hq) ∧ (W').cell? ⟨w.heap.size + 1, 7, none⟩ = some (.string Q) ∧ (W').cell? ⟨w.heap.size + 1, 8, none⟩ = some (.bool hf) ∧ (W').cell? ⟨w.heap.size + 1, 9, none⟩ = some (.string F))) := Lib.hid (by
    intro W W' h hb
    obtain ⟨h0, h1, h2, h3, h4, h5, h6, h7, h8, h9, h10, h11, h12, h13⟩ := h
    exact ⟨h0.trans (hb.mono h0.size), cell_stays h1 hb, cell_stays h2 hb, cell_stays h3 hb, cell_stays h4 hb, cell_stays h5 hb, cell_stays h6 hb, cell_stays h7 hb, cell_stays h8 hb, cell_stays h9 hb, cell_stays h10 hb, cell_stays h11 hb, cell_stays h12 hb, cell_stays h13 hb⟩)
  have HTX : Hid (∀ W, (Below w.heap.size w W ∧ (W).cell? ⟨w.heap.size, 0, none⟩ = some (.string S) ∧ (W).cell? ⟨w.heap.size, 1, none⟩ = some (.string H) ∧ (W).cell? ⟨w.heap.size, 2, none⟩ = some (.int .i64 p) ∧ (W).cell? ⟨w.heap.size + 1, 0, none⟩ = some (.string S1) ∧ (W).cell? ⟨w.heap.size + 1, 1, none⟩ = some (.string U) ∧ (W).cell? ⟨w.heap.size + 1, 2, none⟩ = some (.string P) ∧ (W).cell? ⟨w.heap.size + 1, 3, none⟩ = some (.string H1) ∧ (W).cell? ⟨w.heap.size + 1, 4, none⟩ = some (.int .i64 pt) ∧ (W).cell? ⟨w.heap.size + 1, 5, none⟩ = some (.string T) ∧ (W).cell? ⟨w.heap.size + 1, 6, none⟩ = some (.bool hq) ∧ (W).cell? ⟨w.heap.size + 1, 7, none⟩ = some (.string Q) ∧ (W).cell? ⟨w.heap.size + 1, 8, none⟩ = some (.bool hf) ∧ (W).cell? ⟨w.heap.size + 1, 9, none⟩ = some (.string F)) → Calls Tryz.prog 14 #[.agg #[.string S, .string H, .int .i64 p]] W fun e w' => e = .returned (.string X) ∧ (Below w.heap.size w w' ∧ (w').cell? ⟨w.heap.size, 0, none⟩ = some (.string S) ∧ (w').cell? ⟨w.heap.size, 1, none⟩ = some (.string H) ∧ (w').cell? ⟨w.heap.size, 2, none⟩ = some (.int .i64 p) ∧ (w').cell? ⟨w.heap.size + 1, 0, none⟩ = some (.string S1) ∧ (w').cell? ⟨w.heap.size + 1, 1, none⟩ = some (.string U) ∧ (w').cell? ⟨w.heap.size + 1, 2, none⟩ = some (.string P) ∧ (w').cell? ⟨w.heap.size + 1, 3, none⟩ = some (.string H1) ∧ (w').cell? ⟨w.heap.size + 1, 4, none⟩ = some (.int .i64 pt) ∧ (w').cell? ⟨w.heap.size + 1, 5, none⟩ = some (.string T) ∧ (w').cell? ⟨w.heap.size + 1, 6, none⟩ = some (.bool hq) ∧ (w').cell? ⟨w.heap.size + 1, 7, none⟩ = some (.string Q) ∧ (w').cell? ⟨w.heap.size + 1, 8, none⟩ = some (.bool hf) ∧ (w').cell? ⟨w.heap.size + 1, 9, none⟩ = some (.string F))) := Lib.hid (fun W hW => by
    rw [hX]
    exact (otext_any S H p (by omega) (by omega) (by omega) W (tab10_below hT hW.1)).mono fun e w' h => ⟨h.1, HST.out W w' hW h.2⟩)
  have HRX : Hid (∀ W, (Below w.heap.size w W ∧ (W).cell? ⟨w.heap.size, 0, none⟩ = some (.string S) ∧ (W).cell? ⟨w.heap.size, 1, none⟩ = some (.string H) ∧ (W).cell? ⟨w.heap.size, 2, none⟩ = some (.int .i64 p) ∧ (W).cell? ⟨w.heap.size + 1, 0, none⟩ = some (.string S1) ∧ (W).cell? ⟨w.heap.size + 1, 1, none⟩ = some (.string U) ∧ (W).cell? ⟨w.heap.size + 1, 2, none⟩ = some (.string P) ∧ (W).cell? ⟨w.heap.size + 1, 3, none⟩ = some (.string H1) ∧ (W).cell? ⟨w.heap.size + 1, 4, none⟩ = some (.int .i64 pt) ∧ (W).cell? ⟨w.heap.size + 1, 5, none⟩ = some (.string T) ∧ (W).cell? ⟨w.heap.size + 1, 6, none⟩ = some (.bool hq) ∧ (W).cell? ⟨w.heap.size + 1, 7, none⟩ = some (.string Q) ∧ (W).cell? ⟨w.heap.size + 1, 8, none⟩ = some (.bool hf) ∧ (W).cell? ⟨w.heap.size + 1, 9, none⟩ = some (.string F)) → Calls Tryz.prog 15 #[.agg #[.string S, .string H, .int .i64 p]] W fun e w' => e = .returned (.string X) ∧ (Below w.heap.size w w' ∧ (w').cell? ⟨w.heap.size, 0, none⟩ = some (.string S) ∧ (w').cell? ⟨w.heap.size, 1, none⟩ = some (.string H) ∧ (w').cell? ⟨w.heap.size, 2, none⟩ = some (.int .i64 p) ∧ (w').cell? ⟨w.heap.size + 1, 0, none⟩ = some (.string S1) ∧ (w').cell? ⟨w.heap.size + 1, 1, none⟩ = some (.string U) ∧ (w').cell? ⟨w.heap.size + 1, 2, none⟩ = some (.string P) ∧ (w').cell? ⟨w.heap.size + 1, 3, none⟩ = some (.string H1) ∧ (w').cell? ⟨w.heap.size + 1, 4, none⟩ = some (.int .i64 pt) ∧ (w').cell? ⟨w.heap.size + 1, 5, none⟩ = some (.string T) ∧ (w').cell? ⟨w.heap.size + 1, 6, none⟩ = some (.bool hq) ∧ (w').cell? ⟨w.heap.size + 1, 7, none⟩ = some (.string Q) ∧ (w').cell? ⟨w.heap.size + 1, 8, none⟩ = some (.bool hf) ∧ (w').cell? ⟨w.heap.size + 1, 9, none⟩ = some (.string F))) := Lib.hid (fun W hW => by
    rw [hX]
    exact (rotext_any S H p (by omega) (by omega) ⟨hsz.1, hsz.2.1⟩ W).mono fun e w' h => ⟨h.1, HST.out W w' hW h.2⟩)
  obtain ⟨q, hqq⟩ : ∃ q, q = pU S1.data.toList pt := ⟨_, rfl⟩
  have HOF : Hid (∀ W, (Below w.heap.size w W ∧ (W).cell? ⟨w.heap.size, 0, none⟩ = some (.string S) ∧ (W).cell? ⟨w.heap.size, 1, none⟩ = some (.string H) ∧ (W).cell? ⟨w.heap.size, 2, none⟩ = some (.int .i64 p) ∧ (W).cell? ⟨w.heap.size + 1, 0, none⟩ = some (.string S1) ∧ (W).cell? ⟨w.heap.size + 1, 1, none⟩ = some (.string U) ∧ (W).cell? ⟨w.heap.size + 1, 2, none⟩ = some (.string P) ∧ (W).cell? ⟨w.heap.size + 1, 3, none⟩ = some (.string H1) ∧ (W).cell? ⟨w.heap.size + 1, 4, none⟩ = some (.int .i64 pt) ∧ (W).cell? ⟨w.heap.size + 1, 5, none⟩ = some (.string T) ∧ (W).cell? ⟨w.heap.size + 1, 6, none⟩ = some (.bool hq) ∧ (W).cell? ⟨w.heap.size + 1, 7, none⟩ = some (.string Q) ∧ (W).cell? ⟨w.heap.size + 1, 8, none⟩ = some (.bool hf) ∧ (W).cell? ⟨w.heap.size + 1, 9, none⟩ = some (.string F)) → Calls Tryz.prog 16 #[.agg #[.string S1, .string U, .string P, .string H1, .int .i64 pt, .string T, .bool hq, .string Q, .bool hf, .string F]] W fun e w' => e = .returned (.agg #[.string S1, .string H1, .int .i64 q]) ∧ (Below w.heap.size w w' ∧ (w').cell? ⟨w.heap.size, 0, none⟩ = some (.string S) ∧ (w').cell? ⟨w.heap.size, 1, none⟩ = some (.string H) ∧ (w').cell? ⟨w.heap.size, 2, none⟩ = some (.int .i64 p) ∧ (w').cell? ⟨w.heap.size + 1, 0, none⟩ = some (.string S1) ∧ (w').cell? ⟨w.heap.size + 1, 1, none⟩ = some (.string U) ∧ (w').cell? ⟨w.heap.size + 1, 2, none⟩ = some (.string P) ∧ (w').cell? ⟨w.heap.size + 1, 3, none⟩ = some (.string H1) ∧ (w').cell? ⟨w.heap.size + 1, 4, none⟩ = some (.int .i64 pt) ∧ (w').cell? ⟨w.heap.size + 1, 5, none⟩ = some (.string T) ∧ (w').cell? ⟨w.heap.size + 1, 6, none⟩ = some (.bool hq) ∧ (w').cell? ⟨w.heap.size + 1, 7, none⟩ = some (.string Q) ∧ (w').cell? ⟨w.heap.size + 1, 8, none⟩ = some (.bool hf) ∧ (w').cell? ⟨w.heap.size + 1, 9, none⟩ = some (.string F))) := Lib.hid (fun W hW => by
    rw [hqq]
    exact (oOf_any S1 U P H1 T Q F pt hq hf W).mono fun e w' h => ⟨h.1, HST.out W w' hW h.2⟩)
  have HRO : Hid (∀ W, (Below w.heap.size w W ∧ (W).cell? ⟨w.heap.size, 0, none⟩ = some (.string S) ∧ (W).cell? ⟨w.heap.size, 1, none⟩ = some (.string H) ∧ (W).cell? ⟨w.heap.size, 2, none⟩ = some (.int .i64 p) ∧ (W).cell? ⟨w.heap.size + 1, 0, none⟩ = some (.string S1) ∧ (W).cell? ⟨w.heap.size + 1, 1, none⟩ = some (.string U) ∧ (W).cell? ⟨w.heap.size + 1, 2, none⟩ = some (.string P) ∧ (W).cell? ⟨w.heap.size + 1, 3, none⟩ = some (.string H1) ∧ (W).cell? ⟨w.heap.size + 1, 4, none⟩ = some (.int .i64 pt) ∧ (W).cell? ⟨w.heap.size + 1, 5, none⟩ = some (.string T) ∧ (W).cell? ⟨w.heap.size + 1, 6, none⟩ = some (.bool hq) ∧ (W).cell? ⟨w.heap.size + 1, 7, none⟩ = some (.string Q) ∧ (W).cell? ⟨w.heap.size + 1, 8, none⟩ = some (.bool hf) ∧ (W).cell? ⟨w.heap.size + 1, 9, none⟩ = some (.string F)) → Calls Tryz.prog 17 #[.agg #[.string S1, .string U, .string P, .string H1, .int .i64 pt, .string T, .bool hq, .string Q, .bool hf, .string F]] W fun e w' => e = .returned (.agg #[.string S1, .string H1, .int .i64 q]) ∧ (Below w.heap.size w w' ∧ (w').cell? ⟨w.heap.size, 0, none⟩ = some (.string S) ∧ (w').cell? ⟨w.heap.size, 1, none⟩ = some (.string H) ∧ (w').cell? ⟨w.heap.size, 2, none⟩ = some (.int .i64 p) ∧ (w').cell? ⟨w.heap.size + 1, 0, none⟩ = some (.string S1) ∧ (w').cell? ⟨w.heap.size + 1, 1, none⟩ = some (.string U) ∧ (w').cell? ⟨w.heap.size + 1, 2, none⟩ = some (.string P) ∧ (w').cell? ⟨w.heap.size + 1, 3, none⟩ = some (.string H1) ∧ (w').cell? ⟨w.heap.size + 1, 4, none⟩ = some (.int .i64 pt) ∧ (w').cell? ⟨w.heap.size + 1, 5, none⟩ = some (.string T) ∧ (w').cell? ⟨w.heap.size + 1, 6, none⟩ = some (.bool hq) ∧ (w').cell? ⟨w.heap.size + 1, 7, none⟩ = some (.string Q) ∧ (w').cell? ⟨w.heap.size + 1, 8, none⟩ = some (.bool hf) ∧ (w').cell? ⟨w.heap.size + 1, 9, none⟩ = some (.string F))) := Lib.hid (fun W hW => by
    rw [hqq]
    exact (roOf_any S1 U P H1 T Q F pt hq hf W).mono fun e w' h => ⟨h.1, HST.out W w' hW h.2⟩)
  have HAK : Hid (∀ W, (Below w.heap.size w W ∧ (W).cell? ⟨w.heap.size, 0, none⟩ = some (.string S) ∧ (W).cell? ⟨w.heap.size, 1, none⟩ = some (.string H) ∧ (W).cell? ⟨w.heap.size, 2, none⟩ = some (.int .i64 p) ∧ (W).cell? ⟨w.heap.size + 1, 0, none⟩ = some (.string S1) ∧ (W).cell? ⟨w.heap.size + 1, 1, none⟩ = some (.string U) ∧ (W).cell? ⟨w.heap.size + 1, 2, none⟩ = some (.string P) ∧ (W).cell? ⟨w.heap.size + 1, 3, none⟩ = some (.string H1) ∧ (W).cell? ⟨w.heap.size + 1, 4, none⟩ = some (.int .i64 pt) ∧ (W).cell? ⟨w.heap.size + 1, 5, none⟩ = some (.string T) ∧ (W).cell? ⟨w.heap.size + 1, 6, none⟩ = some (.bool hq) ∧ (W).cell? ⟨w.heap.size + 1, 7, none⟩ = some (.string Q) ∧ (W).cell? ⟨w.heap.size + 1, 8, none⟩ = some (.bool hf) ∧ (W).cell? ⟨w.heap.size + 1, 9, none⟩ = some (.string F)) → Calls Tryz.prog 9 #[] W fun e w' => e = .returned (.bool true) ∧ (Below w.heap.size w w' ∧ (w').cell? ⟨w.heap.size, 0, none⟩ = some (.string S) ∧ (w').cell? ⟨w.heap.size, 1, none⟩ = some (.string H) ∧ (w').cell? ⟨w.heap.size, 2, none⟩ = some (.int .i64 p) ∧ (w').cell? ⟨w.heap.size + 1, 0, none⟩ = some (.string S1) ∧ (w').cell? ⟨w.heap.size + 1, 1, none⟩ = some (.string U) ∧ (w').cell? ⟨w.heap.size + 1, 2, none⟩ = some (.string P) ∧ (w').cell? ⟨w.heap.size + 1, 3, none⟩ = some (.string H1) ∧ (w').cell? ⟨w.heap.size + 1, 4, none⟩ = some (.int .i64 pt) ∧ (w').cell? ⟨w.heap.size + 1, 5, none⟩ = some (.string T) ∧ (w').cell? ⟨w.heap.size + 1, 6, none⟩ = some (.bool hq) ∧ (w').cell? ⟨w.heap.size + 1, 7, none⟩ = some (.string Q) ∧ (w').cell? ⟨w.heap.size + 1, 8, none⟩ = some (.bool hf) ∧ (w').cell? ⟨w.heap.size + 1, 9, none⟩ = some (.string F))) := Lib.hid (fun W hW => (oawake_any W (env_below HE.out hW.1)).mono fun e w' h => ⟨h.1, HST.out W w' hW h.2⟩)
  obtain ⟨B, hB⟩ : ∃ B, B = decide (S1.data.toList = S1.data.toList ∧ H1.data.toList = H1.data.toList ∧ q = q) := ⟨_, rfl⟩
  have HBT : Hid (B = true) := Lib.hid (by rw [hB]; exact decide_eq_true ⟨rfl, rfl, rfl⟩)
  have EQ : ∀ W, (binOp .eql 24 (.agg #[.string S1, .string H1, .int .i64 q]) (.agg #[.string S1, .string H1, .int .i64 q])).run Tryz.prog W = .ok (.bool true) W := fun W => by rw [orgEq, ← hB, HBT.out]
  clear hB hqq hX hT hsz hb0 hS hH hE HAW
  go_enter Tryz.func4, Tryz.ntmps4
  go_wp2_with fail
  refine (HAO.out _).mono ?_
  rintro e w1 ⟨rfl, hb1⟩
  have HB1 := Lib.hid (below_then HB0.out hb1)
  have HO1 := Lib.hid (Rw.below HO0.out hb1)
  have HU1 := Lib.hid (Rw.below HU0.out hb1)
  clear hb1
  have u0 := Rw.cell HU1.out (j := 0) rfl
  have u1 := Rw.cell HU1.out (j := 1) rfl
  have u2 := Rw.cell HU1.out (j := 2) rfl
  have u3 := Rw.cell HU1.out (j := 3) rfl
  have u4 := Rw.cell HU1.out (j := 4) rfl
  have u5 := Rw.cell HU1.out (j := 5) rfl
  have u6 := Rw.cell HU1.out (j := 6) rfl
  have u7 := Rw.cell HU1.out (j := 7) rfl
  have u8 := Rw.cell HU1.out (j := 8) rfl
  have u9 := Rw.cell HU1.out (j := 9) rfl
  go_wp2_with fail
  refine (HAU.out _).mono ?_
  rintro e w2 ⟨rfl, hb2⟩
  have HB2 := Lib.hid (below_then HB1.out hb2)
  have HO2 := Lib.hid (Rw.below HO1.out hb2)
  have HU2 := Lib.hid (Rw.below HU1.out hb2)
  clear hb2 u0 u1 u2 u3 u4 u5 u6 u7 u8 u9
  go_wp2_with fail
  have HS0 : Hid (Below w.heap.size w w2 ∧ (w2).cell? ⟨w.heap.size, 0, none⟩ = some (.string S) ∧ (w2).cell? ⟨w.heap.size, 1, none⟩ = some (.string H) ∧ (w2).cell? ⟨w.heap.size, 2, none⟩ = some (.int .i64 p) ∧ (w2).cell? ⟨w.heap.size + 1, 0, none⟩ = some (.string S1) ∧ (w2).cell? ⟨w.heap.size + 1, 1, none⟩ = some (.string U) ∧ (w2).cell? ⟨w.heap.size + 1, 2, none⟩ = some (.string P) ∧ (w2).cell? ⟨w.heap.size + 1, 3, none⟩ = some (.string H1) ∧ (w2).cell? ⟨w.heap.size + 1, 4, none⟩ = some (.int .i64 pt) ∧ (w2).cell? ⟨w.heap.size + 1, 5, none⟩ = some (.string T) ∧ (w2).cell? ⟨w.heap.size + 1, 6, none⟩ = some (.bool hq) ∧ (w2).cell? ⟨w.heap.size + 1, 7, none⟩ = some (.string Q) ∧ (w2).cell? ⟨w.heap.size + 1, 8, none⟩ = some (.bool hf) ∧ (w2).cell? ⟨w.heap.size + 1, 9, none⟩ = some (.string F)) := Lib.hid ⟨HB2.out, Rw.cell HO2.out (j := 0) rfl, Rw.cell HO2.out (j := 1) rfl, Rw.cell HO2.out (j := 2) rfl, Rw.cell HU2.out (j := 0) rfl, Rw.cell HU2.out (j := 1) rfl, Rw.cell HU2.out (j := 2) rfl, Rw.cell HU2.out (j := 3) rfl, Rw.cell HU2.out (j := 4) rfl, Rw.cell HU2.out (j := 5) rfl, Rw.cell HU2.out (j := 6) rfl, Rw.cell HU2.out (j := 7) rfl, Rw.cell HU2.out (j := 8) rfl, Rw.cell HU2.out (j := 9) rfl⟩
  have HS1 : Hid (Below w.heap.size w w2.drew ∧ (w2.drew).cell? ⟨w.heap.size, 0, none⟩ = some (.string S) ∧ (w2.drew).cell? ⟨w.heap.size, 1, none⟩ = some (.string H) ∧ (w2.drew).cell? ⟨w.heap.size, 2, none⟩ = some (.int .i64 p) ∧ (w2.drew).cell? ⟨w.heap.size + 1, 0, none⟩ = some (.string S1) ∧ (w2.drew).cell? ⟨w.heap.size + 1, 1, none⟩ = some (.string U) ∧ (w2.drew).cell? ⟨w.heap.size + 1, 2, none⟩ = some (.string P) ∧ (w2.drew).cell? ⟨w.heap.size + 1, 3, none⟩ = some (.string H1) ∧ (w2.drew).cell? ⟨w.heap.size + 1, 4, none⟩ = some (.int .i64 pt) ∧ (w2.drew).cell? ⟨w.heap.size + 1, 5, none⟩ = some (.string T) ∧ (w2.drew).cell? ⟨w.heap.size + 1, 6, none⟩ = some (.bool hq) ∧ (w2.drew).cell? ⟨w.heap.size + 1, 7, none⟩ = some (.string Q) ∧ (w2.drew).cell? ⟨w.heap.size + 1, 8, none⟩ = some (.bool hf) ∧ (w2.drew).cell? ⟨w.heap.size + 1, 9, none⟩ = some (.string F)) := Lib.hid (HST.out w2 w2.drew HS0.out (below_draws (Below.refl _ _) ⟨1, rfl⟩))
  clear HO0 HO1 HU0 HU1 HB0 HB1 HAO HAU HO2 HU2 HB2
  go_region_held3 (fun W => Below w.heap.size w W ∧ (W).cell? ⟨w.heap.size, 0, none⟩ = some (.string S) ∧ (W).cell? ⟨w.heap.size, 1, none⟩ = some (.string H) ∧ (W).cell? ⟨w.heap.size, 2, none⟩ = some (.int .i64 p) ∧ (W).cell? ⟨w.heap.size + 1, 0, none⟩ = some (.string S1) ∧ (W).cell? ⟨w.heap.size + 1, 1, none⟩ = some (.string U) ∧ (W).cell? ⟨w.heap.size + 1, 2, none⟩ = some (.string P) ∧ (W).cell? ⟨w.heap.size + 1, 3, none⟩ = some (.string H1) ∧ (W).cell? ⟨w.heap.size + 1, 4, none⟩ = some (.int .i64 pt) ∧ (W).cell? ⟨w.heap.size + 1, 5, none⟩ = some (.string T) ∧ (W).cell? ⟨w.heap.size + 1, 6, none⟩ = some (.bool hq) ∧ (W).cell? ⟨w.heap.size + 1, 7, none⟩ = some (.string Q) ∧ (W).cell? ⟨w.heap.size + 1, 8, none⟩ = some (.bool hf) ∧ (W).cell? ⟨w.heap.size + 1, 9, none⟩ = some (.string F))
    (first | exact HS1.out | assumption)
    (first
      | (go_at_call 14; refine (HTX.out _ (by assumption)).mono ?_; rintro e w3 ⟨rfl, hS3⟩)
      | (go_at_call 15; refine (HRX.out _ (by assumption)).mono ?_; rintro e w4 ⟨rfl, hS4⟩)
      | (go_at_call 16; refine (HOF.out _ (by assumption)).mono ?_; rintro e w5 ⟨rfl, hS5⟩)
      | (go_at_call 17; refine (HRO.out _ (by assumption)).mono ?_; rintro e w6 ⟨rfl, hS6⟩)
      | (go_at_call 9; refine (HAK.out _ (by assumption)).mono ?_; rintro e w7 ⟨rfl, hS7⟩))
  go_wp2_with fail
  go_ret
  exact ⟨rfl, hS7.1⟩

end Go.Proofs.YtaopofjcbpefoaaGreatDoor
