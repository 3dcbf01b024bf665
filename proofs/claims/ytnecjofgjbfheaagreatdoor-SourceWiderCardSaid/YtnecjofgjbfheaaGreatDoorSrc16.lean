/- source: Match, the code's. -/
import Derived.Test.YtnecjofgjbfheaaGreatDoorShelf
import Derived.BigQuiet
import Derived.BigRegion
import Derived.Deep.RegionHeld3
import Derived.Stop.LaidErr
import Derived.Deep.DeepHandedRow
import Derived.Test.YtnecjofgjbfheaaGreatDoorRows
import Derived.Test.YtnecjofgjbfheaaGreatDoorKit
import Derived.Test.YtnecjofgjbfheaaGreatDoorAsc4
import Derived.Test.YtnecjofgjbfheaaGreatDoorRow
import Derived.Test.YtnecjofgjbfheaaGreatDoorRow2
import Derived.Test.YtnecjofgjbfheaaGreatDoorJoin
import Derived.Test.YtnecjofgjbfheaaGreatDoorTxt2
import Derived.Test.YtnecjofgjbfheaaGreatDoorFp
import Derived.Test.YtnecjofgjbfheaaGreatDoorMd1
import Derived.Test.YtnecjofgjbfheaaGreatDoorHst1
import Derived.Test.YtnecjofgjbfheaaGreatDoorUrl0
import Derived.Test.YtnecjofgjbfheaaGreatDoorUrl9
import Derived.Test.YtnecjofgjbfheaaGreatDoorUrl12
import Derived.Test.YtnecjofgjbfheaaGreatDoorUrr3
import Derived.Test.YtnecjofgjbfheaaGreatDoorOrg0
import Derived.Test.YtnecjofgjbfheaaGreatDoorOrg10
import Derived.Test.YtnecjofgjbfheaaGreatDoorSrc0
import Derived.Test.YtnecjofgjbfheaaGreatDoorSrc4
import Derived.Test.YtnecjofgjbfheaaGreatDoorSrc8
import Derived.Test.YtnecjofgjbfheaaGreatDoorSrc10
import Derived.Test.YtnecjofgjbfheaaGreatDoorSrc13
namespace Go.Proofs.YtnecjofgjbfheaaGreatDoor
open Go.RowKit Go.Proofs
set_option maxRecDepth 100000

set_option maxRecDepth 100000 in
set_option maxHeartbeats 16000000 in
theorem smat_any (k : Int) (e1 e2 e3 e4 : ByteArray) (S U P H T Q F : ByteArray) (pt : Int) (hq hf : Bool) (S2 H2 : ByteArray) (p2 : Int) (red : Int) (h2 : e2.size ≤ 1048576) (h3 : e3.size ≤ 5) (h4 : e4.size ≤ 1048576) (hH : H.size ≤ 1048576) (hTT : T.size ≤ 1048576) (w : World) (hT : Tab10 w) :
    Calls Tryz.prog 25 #[.agg #[.int .i64 k, .string e1, .string e2, .string e3, .string e4], .agg #[.string S, .string U, .string P, .string H, .int .i64 pt, .string T, .bool hq, .string Q, .bool hf, .string F], .agg #[.string S2, .string H2, .int .i64 p2], .int .i64 red] w fun e w' => e = .returned (.bool (matB ⟨k, e1.data.toList, e2.data.toList, e3.data.toList, e4.data.toList⟩ ⟨S.data.toList, H.data.toList, pU S.data.toList pt, T.data.toList⟩ ⟨S2.data.toList, H2.data.toList, p2⟩ red)) ∧ Below w.heap.size w w' := by
  obtain ⟨R, hR⟩ : ∃ R, R = matB ⟨k, e1.data.toList, e2.data.toList, e3.data.toList, e4.data.toList⟩ ⟨S.data.toList, H.data.toList, pU S.data.toList pt, T.data.toList⟩ ⟨S2.data.toList, H2.data.toList, p2⟩ red := ⟨_, rfl⟩
  rw [← hR]
  unfold matB at hR
  dsimp only at hR
  have HT := Lib.hid hT
  obtain ⟨r0, r1, r2, r3⟩ := three_rows w [.int .i64 k, .string e1, .string e2, .string e3, .string e4] [.string S, .string U, .string P, .string H, .int .i64 pt, .string T, .bool hq, .string Q, .bool hf, .string F] [.string S2, .string H2, .int .i64 p2] 24 31 42
  obtain ⟨w2, hw2⟩ : ∃ w2, w2 = ((w.alloc (.cells #[.int .i64 k, .string e1, .string e2, .string e3, .string e4] 24)).alloc (.cells #[.string S, .string U, .string P, .string H, .int .i64 pt, .string T, .bool hq, .string Q, .bool hf, .string F] 31)).alloc (.cells #[.string S2, .string H2, .int .i64 p2] 42) := ⟨_, rfl⟩
  have HE2 : Hid (Rw w2 0 w.heap.size 24 [.int .i64 k, .string e1, .string e2, .string e3, .string e4]) := Lib.hid (by rw [hw2]; exact r0)
  have HU2 : Hid (Rw w2 0 (w.heap.size + 1) 31 [.string S, .string U, .string P, .string H, .int .i64 pt, .string T, .bool hq, .string Q, .bool hf, .string F]) := Lib.hid (by rw [hw2]; exact r1)
  have HO2 : Hid (Rw w2 0 (w.heap.size + 2) 42 [.string S2, .string H2, .int .i64 p2]) := Lib.hid (by rw [hw2]; exact r2)
  have HB2 : Hid (Below w.heap.size w w2) := Lib.hid (by rw [hw2]; exact r3)
  have d0 := Rw.cell r0 (j := 0) rfl
  have d1 := Rw.cell r0 (j := 1) rfl
  have d2 := Rw.cell r0 (j := 2) rfl
  have d3 := Rw.cell r0 (j := 3) rfl
  have d4 := Rw.cell r0 (j := 4) rfl
  have k0 := Rw.cell r1 (j := 0) rfl
  have k1 := Rw.cell r1 (j := 1) rfl
  have k2 := Rw.cell r1 (j := 2) rfl
  have k3 := Rw.cell r1 (j := 3) rfl
  have k4 := Rw.cell r1 (j := 4) rfl
  have k5 := Rw.cell r1 (j := 5) rfl
  have k6 := Rw.cell r1 (j := 6) rfl
  have k7 := Rw.cell r1 (j := 7) rfl
  have k8 := Rw.cell r1 (j := 8) rfl
  have k9 := Rw.cell r1 (j := 9) rfl
  have o0 := Rw.cell r2 (j := 0) rfl
  have o1 := Rw.cell r2 (j := 1) rfl
  have o2 := Rw.cell r2 (j := 2) rfl
  clear r0 r1 r2 r3 hT
  by_cases hk1 : k = 1
  · skip
    subst hk1
    rw [if_pos rfl] at hR
    have e5 : hasS [⟨#[104, 116, 116, 112]⟩, ⟨#[104, 116, 116, 112, 115]⟩, ⟨#[119, 115]⟩, ⟨#[119, 115, 115]⟩, S2] S = R := by
      rw [hR]
      unfold starM
      rw [has_cons, has_cons, has_cons, has_cons, has_cons, hasS_nil, Bool.or_false]
      simp only [Bool.or_assoc]
      rfl
    have HA : Hid (∀ v W, SliceAt W v ([⟨#[104, 116, 116, 112]⟩, ⟨#[104, 116, 116, 112, 115]⟩, ⟨#[119, 115]⟩, ⟨#[119, 115, 115]⟩, S2].map strV) → Calls Tryz.prog 47 #[.string S, v] W fun e w' => e = .returned (.bool R) ∧ w' = W) := Lib.hid (fun v W h => by
      rw [← e5]
      exact any_any v _ S W (by simp) h)
    have HSL : Hid (SliceAt (w2.alloc (.cells #[.string ⟨#[104, 116, 116, 112]⟩, .string ⟨#[104, 116, 116, 112, 115]⟩, .string ⟨#[119, 115]⟩, .string ⟨#[119, 115, 115]⟩, .string S2] 9)) (.slice (some ⟨w2.heap.size, 0, none⟩) 5 5) ([⟨#[104, 116, 116, 112]⟩, ⟨#[104, 116, 116, 112, 115]⟩, ⟨#[119, 115]⟩, ⟨#[119, 115, 115]⟩, S2].map strV)) := Lib.hid (SliceAt.lit w2 _ _ _ _ rfl)
    have hsz : w2.heap.size = w.heap.size + 3 := by
      rw [hw2]
      show (((w.heap.push _).push _).push _).size = _
      rw [Array.size_push, Array.size_push, Array.size_push]
    rw [hsz] at HSL
    have HB3 : Hid (Below w.heap.size w (w2.alloc (.cells #[.string ⟨#[104, 116, 116, 112]⟩, .string ⟨#[104, 116, 116, 112, 115]⟩, .string ⟨#[119, 115]⟩, .string ⟨#[119, 115, 115]⟩, .string S2] 9))) := Lib.hid (below_more HB2.out _)
    clear e5 hR hsz
    go_enter Tryz.func25, Tryz.ntmps25
    go_wp2_with fail
    rw [← hw2]
    clear hw2
    refine (HA.out _ _ HSL.out).mono ?_
    rintro e w6 ⟨rfl, rfl⟩
    go_wp2_with fail
    go_ret
    exact ⟨rfl, HB3.out⟩
  have q1 : (k == 1) = false := by rw [beq_eq_false_iff_ne]; exact hk1
  by_cases hk2 : k = 2
  · skip
    subst hk2
    rw [if_neg (by decide), if_pos rfl] at hR
    rw [self_sec] at hR
    have HST : Hid (∀ W W', (Below w.heap.size w W ∧ (W).cell? ⟨w.heap.size + 1, 0, none⟩ = some (.string S) ∧ (W).cell? ⟨w.heap.size + 1, 1, none⟩ = some (.string U) ∧ (W).cell? ⟨w.heap.size + 1, 2, none⟩ = some (.string P) ∧ (W).cell? ⟨w.heap.size + 1, 3, none⟩ = some (.string H) ∧ (W).cell? ⟨w.heap.size + 1, 4, none⟩ = some (.int .i64 pt) ∧ (W).cell? ⟨w.heap.size + 1, 5, none⟩ = some (.string T) ∧ (W).cell? ⟨w.heap.size + 1, 6, none⟩ = some (.bool hq) ∧ (W).cell? ⟨w.heap.size + 1, 7, none⟩ = some (.string Q) ∧ (W).cell? ⟨w.heap.size + 1, 8, none⟩ = some (.bool hf) ∧ (W).cell? ⟨w.heap.size + 1, 9, none⟩ = some (.string F) ∧ (W).cell? ⟨w.heap.size + 2, 0, none⟩ = some (.string S2) ∧ (W).cell? ⟨w.heap.size + 2, 1, none⟩ = some (.string H2) ∧ (W).cell? ⟨w.heap.size + 2, 2, none⟩ = some (.int .i64 p2)) → Below W.heap.size W W' → (Below w.heap.size w W' ∧ (W').cell? ⟨w.heap.size + 1, 0, none⟩ = some (.string S) ∧ (W').cell? ⟨w.heap.size + 1, 1, none⟩ = some (.string U) ∧ (W').cell? ⟨w.heap.size + 1, 2, none⟩ = some (.string P) ∧ (W').cell? ⟨w.heap.size + 1, 3, none⟩ = some (.string H) ∧ (W').cell? ⟨w.heap.size + 1, 4, none⟩ = some (.int .i64 pt) ∧ (W').cell? ⟨w.heap.size + 1, 5, none⟩ = some (.string T) ∧ (W').cell? ⟨w.heap.size + 1, 6, none⟩ = some (.bool hq) ∧ (W').cell? ⟨w.heap.size + 1, 7, none⟩ = some (.string Q) ∧ (W').cell? ⟨w.heap.size + 1, 8, none⟩ = some (.bool hf) ∧ (W').cell? ⟨w.heap.size + 1, 9, none⟩ = some (.string F) ∧ (W').cell? ⟨w.heap.size + 2, 0, none⟩ = some (.string S2) ∧ (W').cell? ⟨w.heap.size + 2, 1, none⟩ = some (.string H2) ∧ (W').cell? ⟨w.heap.size + 2, 2, none⟩ = some (.int .i64 p2))) := Lib.hid (fun W W' h hb => by
      obtain ⟨x0, a0, a1, a2, a3, a4, a5, a6, a7, a8, a9, b0, b1, b2⟩ := h
      exact ⟨below_then x0 hb, cell_stays a0 hb, cell_stays a1 hb, cell_stays a2 hb, cell_stays a3 hb, cell_stays a4 hb, cell_stays a5 hb, cell_stays a6 hb, cell_stays a7 hb, cell_stays a8 hb, cell_stays a9 hb, cell_stays b0 hb, cell_stays b1 hb, cell_stays b2 hb⟩)
    have HS2 : Hid (Below w.heap.size w w2.drew ∧ (w2.drew).cell? ⟨w.heap.size + 1, 0, none⟩ = some (.string S) ∧ (w2.drew).cell? ⟨w.heap.size + 1, 1, none⟩ = some (.string U) ∧ (w2.drew).cell? ⟨w.heap.size + 1, 2, none⟩ = some (.string P) ∧ (w2.drew).cell? ⟨w.heap.size + 1, 3, none⟩ = some (.string H) ∧ (w2.drew).cell? ⟨w.heap.size + 1, 4, none⟩ = some (.int .i64 pt) ∧ (w2.drew).cell? ⟨w.heap.size + 1, 5, none⟩ = some (.string T) ∧ (w2.drew).cell? ⟨w.heap.size + 1, 6, none⟩ = some (.bool hq) ∧ (w2.drew).cell? ⟨w.heap.size + 1, 7, none⟩ = some (.string Q) ∧ (w2.drew).cell? ⟨w.heap.size + 1, 8, none⟩ = some (.bool hf) ∧ (w2.drew).cell? ⟨w.heap.size + 1, 9, none⟩ = some (.string F) ∧ (w2.drew).cell? ⟨w.heap.size + 2, 0, none⟩ = some (.string S2) ∧ (w2.drew).cell? ⟨w.heap.size + 2, 1, none⟩ = some (.string H2) ∧ (w2.drew).cell? ⟨w.heap.size + 2, 2, none⟩ = some (.int .i64 p2)) := Lib.hid (by
      refine HST.out w2 w2.drew ⟨HB2.out, ?_, ?_, ?_, ?_, ?_, ?_, ?_, ?_, ?_, ?_, ?_, ?_, ?_⟩ (below_draws (Below.refl _ _) ⟨1, rfl⟩)
      · exact Rw.cell HU2.out (j := 0) rfl
      · exact Rw.cell HU2.out (j := 1) rfl
      · exact Rw.cell HU2.out (j := 2) rfl
      · exact Rw.cell HU2.out (j := 3) rfl
      · exact Rw.cell HU2.out (j := 4) rfl
      · exact Rw.cell HU2.out (j := 5) rfl
      · exact Rw.cell HU2.out (j := 6) rfl
      · exact Rw.cell HU2.out (j := 7) rfl
      · exact Rw.cell HU2.out (j := 8) rfl
      · exact Rw.cell HU2.out (j := 9) rfl
      · exact Rw.cell HO2.out (j := 0) rfl
      · exact Rw.cell HO2.out (j := 1) rfl
      · exact Rw.cell HO2.out (j := 2) rfl)
    obtain ⟨p, hp⟩ : ∃ p, p = pU S.data.toList pt := ⟨_, rfl⟩
    have HOF : Hid (∀ W, (Below w.heap.size w W ∧ (W).cell? ⟨w.heap.size + 1, 0, none⟩ = some (.string S) ∧ (W).cell? ⟨w.heap.size + 1, 1, none⟩ = some (.string U) ∧ (W).cell? ⟨w.heap.size + 1, 2, none⟩ = some (.string P) ∧ (W).cell? ⟨w.heap.size + 1, 3, none⟩ = some (.string H) ∧ (W).cell? ⟨w.heap.size + 1, 4, none⟩ = some (.int .i64 pt) ∧ (W).cell? ⟨w.heap.size + 1, 5, none⟩ = some (.string T) ∧ (W).cell? ⟨w.heap.size + 1, 6, none⟩ = some (.bool hq) ∧ (W).cell? ⟨w.heap.size + 1, 7, none⟩ = some (.string Q) ∧ (W).cell? ⟨w.heap.size + 1, 8, none⟩ = some (.bool hf) ∧ (W).cell? ⟨w.heap.size + 1, 9, none⟩ = some (.string F) ∧ (W).cell? ⟨w.heap.size + 2, 0, none⟩ = some (.string S2) ∧ (W).cell? ⟨w.heap.size + 2, 1, none⟩ = some (.string H2) ∧ (W).cell? ⟨w.heap.size + 2, 2, none⟩ = some (.int .i64 p2)) → Calls Tryz.prog 63 #[.agg #[.string S, .string U, .string P, .string H, .int .i64 pt, .string T, .bool hq, .string Q, .bool hf, .string F]] W fun e w' => e = .returned (.agg #[.string S, .string H, .int .i64 p]) ∧ (Below w.heap.size w w' ∧ (w').cell? ⟨w.heap.size + 1, 0, none⟩ = some (.string S) ∧ (w').cell? ⟨w.heap.size + 1, 1, none⟩ = some (.string U) ∧ (w').cell? ⟨w.heap.size + 1, 2, none⟩ = some (.string P) ∧ (w').cell? ⟨w.heap.size + 1, 3, none⟩ = some (.string H) ∧ (w').cell? ⟨w.heap.size + 1, 4, none⟩ = some (.int .i64 pt) ∧ (w').cell? ⟨w.heap.size + 1, 5, none⟩ = some (.string T) ∧ (w').cell? ⟨w.heap.size + 1, 6, none⟩ = some (.bool hq) ∧ (w').cell? ⟨w.heap.size + 1, 7, none⟩ = some (.string Q) ∧ (w').cell? ⟨w.heap.size + 1, 8, none⟩ = some (.bool hf) ∧ (w').cell? ⟨w.heap.size + 1, 9, none⟩ = some (.string F) ∧ (w').cell? ⟨w.heap.size + 2, 0, none⟩ = some (.string S2) ∧ (w').cell? ⟨w.heap.size + 2, 1, none⟩ = some (.string H2) ∧ (w').cell? ⟨w.heap.size + 2, 2, none⟩ = some (.int .i64 p2))) := Lib.hid (fun W hW => (oOf_any S U P H T Q F pt hq hf W).mono (by rintro e w' ⟨rfl, hb⟩; rw [hp]; exact ⟨rfl, HST.out W w' hW hb⟩))
    obtain ⟨sm, hsm⟩ : ∃ sm, sm = sameO ⟨S2.data.toList, H2.data.toList, p2⟩ ⟨S.data.toList, H.data.toList, p⟩ := ⟨_, rfl⟩
    have HSM : Hid (∀ W, (Below w.heap.size w W ∧ (W).cell? ⟨w.heap.size + 1, 0, none⟩ = some (.string S) ∧ (W).cell? ⟨w.heap.size + 1, 1, none⟩ = some (.string U) ∧ (W).cell? ⟨w.heap.size + 1, 2, none⟩ = some (.string P) ∧ (W).cell? ⟨w.heap.size + 1, 3, none⟩ = some (.string H) ∧ (W).cell? ⟨w.heap.size + 1, 4, none⟩ = some (.int .i64 pt) ∧ (W).cell? ⟨w.heap.size + 1, 5, none⟩ = some (.string T) ∧ (W).cell? ⟨w.heap.size + 1, 6, none⟩ = some (.bool hq) ∧ (W).cell? ⟨w.heap.size + 1, 7, none⟩ = some (.string Q) ∧ (W).cell? ⟨w.heap.size + 1, 8, none⟩ = some (.bool hf) ∧ (W).cell? ⟨w.heap.size + 1, 9, none⟩ = some (.string F) ∧ (W).cell? ⟨w.heap.size + 2, 0, none⟩ = some (.string S2) ∧ (W).cell? ⟨w.heap.size + 2, 1, none⟩ = some (.string H2) ∧ (W).cell? ⟨w.heap.size + 2, 2, none⟩ = some (.int .i64 p2)) → Calls Tryz.prog 62 #[.agg #[.string S2, .string H2, .int .i64 p2], .agg #[.string S, .string H, .int .i64 p]] W fun e w' => e = .returned (.bool sm) ∧ (Below w.heap.size w w' ∧ (w').cell? ⟨w.heap.size + 1, 0, none⟩ = some (.string S) ∧ (w').cell? ⟨w.heap.size + 1, 1, none⟩ = some (.string U) ∧ (w').cell? ⟨w.heap.size + 1, 2, none⟩ = some (.string P) ∧ (w').cell? ⟨w.heap.size + 1, 3, none⟩ = some (.string H) ∧ (w').cell? ⟨w.heap.size + 1, 4, none⟩ = some (.int .i64 pt) ∧ (w').cell? ⟨w.heap.size + 1, 5, none⟩ = some (.string T) ∧ (w').cell? ⟨w.heap.size + 1, 6, none⟩ = some (.bool hq) ∧ (w').cell? ⟨w.heap.size + 1, 7, none⟩ = some (.string Q) ∧ (w').cell? ⟨w.heap.size + 1, 8, none⟩ = some (.bool hf) ∧ (w').cell? ⟨w.heap.size + 1, 9, none⟩ = some (.string F) ∧ (w').cell? ⟨w.heap.size + 2, 0, none⟩ = some (.string S2) ∧ (w').cell? ⟨w.heap.size + 2, 1, none⟩ = some (.string H2) ∧ (w').cell? ⟨w.heap.size + 2, 2, none⟩ = some (.int .i64 p2))) := Lib.hid (fun W hW => (osame_any S2 H2 S H p2 p W).mono (by rintro e w' ⟨rfl, hb⟩; rw [hsm]; exact ⟨rfl, HST.out W w' hW hb⟩))
    obtain ⟨sc, hsc⟩ : ∃ sc, sc = secM ⟨S.data.toList, H.data.toList, pU S.data.toList pt, T.data.toList⟩ ⟨S2.data.toList, H2.data.toList, p2⟩ := ⟨_, rfl⟩
    have HSC : Hid (∀ W, (Below w.heap.size w W ∧ (W).cell? ⟨w.heap.size + 1, 0, none⟩ = some (.string S) ∧ (W).cell? ⟨w.heap.size + 1, 1, none⟩ = some (.string U) ∧ (W).cell? ⟨w.heap.size + 1, 2, none⟩ = some (.string P) ∧ (W).cell? ⟨w.heap.size + 1, 3, none⟩ = some (.string H) ∧ (W).cell? ⟨w.heap.size + 1, 4, none⟩ = some (.int .i64 pt) ∧ (W).cell? ⟨w.heap.size + 1, 5, none⟩ = some (.string T) ∧ (W).cell? ⟨w.heap.size + 1, 6, none⟩ = some (.bool hq) ∧ (W).cell? ⟨w.heap.size + 1, 7, none⟩ = some (.string Q) ∧ (W).cell? ⟨w.heap.size + 1, 8, none⟩ = some (.bool hf) ∧ (W).cell? ⟨w.heap.size + 1, 9, none⟩ = some (.string F) ∧ (W).cell? ⟨w.heap.size + 2, 0, none⟩ = some (.string S2) ∧ (W).cell? ⟨w.heap.size + 2, 1, none⟩ = some (.string H2) ∧ (W).cell? ⟨w.heap.size + 2, 2, none⟩ = some (.int .i64 p2)) → Calls Tryz.prog 64 #[.agg #[.string S, .string U, .string P, .string H, .int .i64 pt, .string T, .bool hq, .string Q, .bool hf, .string F], .agg #[.string S2, .string H2, .int .i64 p2]] W fun e w' => e = .returned (.bool sc) ∧ (Below w.heap.size w w' ∧ (w').cell? ⟨w.heap.size + 1, 0, none⟩ = some (.string S) ∧ (w').cell? ⟨w.heap.size + 1, 1, none⟩ = some (.string U) ∧ (w').cell? ⟨w.heap.size + 1, 2, none⟩ = some (.string P) ∧ (w').cell? ⟨w.heap.size + 1, 3, none⟩ = some (.string H) ∧ (w').cell? ⟨w.heap.size + 1, 4, none⟩ = some (.int .i64 pt) ∧ (w').cell? ⟨w.heap.size + 1, 5, none⟩ = some (.string T) ∧ (w').cell? ⟨w.heap.size + 1, 6, none⟩ = some (.bool hq) ∧ (w').cell? ⟨w.heap.size + 1, 7, none⟩ = some (.string Q) ∧ (w').cell? ⟨w.heap.size + 1, 8, none⟩ = some (.bool hf) ∧ (w').cell? ⟨w.heap.size + 1, 9, none⟩ = some (.string F) ∧ (w').cell? ⟨w.heap.size + 2, 0, none⟩ = some (.string S2) ∧ (w').cell? ⟨w.heap.size + 2, 1, none⟩ = some (.string H2) ∧ (w').cell? ⟨w.heap.size + 2, 2, none⟩ = some (.int .i64 p2))) := Lib.hid (fun W hW => (ssec_any S U P H T Q F pt hq hf S2 H2 p2 W).mono (by rintro e w' ⟨rfl, hb⟩; rw [hsc]; exact ⟨rfl, HST.out W w' hW hb⟩))
    have hR2 : R = (sm || sc) := by rw [hR, hsm, hsc, hp]; rfl
    have HST := Lib.hid hw2
    clear hR hp hsm hsc
    cases sm
    case false =>
      have HR : Hid (R = sc) := Lib.hid hR2
      clear hR2
      go_enter Tryz.func25, Tryz.ntmps25
      go_wp2_with fail
      rw [← hw2]
      clear hw2
      go_region_held3 (fun W => (Below w.heap.size w W ∧ (W).cell? ⟨w.heap.size + 1, 0, none⟩ = some (.string S) ∧ (W).cell? ⟨w.heap.size + 1, 1, none⟩ = some (.string U) ∧ (W).cell? ⟨w.heap.size + 1, 2, none⟩ = some (.string P) ∧ (W).cell? ⟨w.heap.size + 1, 3, none⟩ = some (.string H) ∧ (W).cell? ⟨w.heap.size + 1, 4, none⟩ = some (.int .i64 pt) ∧ (W).cell? ⟨w.heap.size + 1, 5, none⟩ = some (.string T) ∧ (W).cell? ⟨w.heap.size + 1, 6, none⟩ = some (.bool hq) ∧ (W).cell? ⟨w.heap.size + 1, 7, none⟩ = some (.string Q) ∧ (W).cell? ⟨w.heap.size + 1, 8, none⟩ = some (.bool hf) ∧ (W).cell? ⟨w.heap.size + 1, 9, none⟩ = some (.string F) ∧ (W).cell? ⟨w.heap.size + 2, 0, none⟩ = some (.string S2) ∧ (W).cell? ⟨w.heap.size + 2, 1, none⟩ = some (.string H2) ∧ (W).cell? ⟨w.heap.size + 2, 2, none⟩ = some (.int .i64 p2))) (first | exact HS2.out | assumption)
        (first
          | (go_at_call 63; with_reducible refine (HOF.out _ (by first | exact HS2.out | assumption)).mono ?_; rintro e w7 ⟨rfl, hS7⟩)
          | (go_at_call 62; with_reducible refine (HSM.out _ (by first | exact HS2.out | assumption)).mono ?_; rintro e w7 ⟨rfl, hS7⟩)
          | (go_at_call 64; with_reducible refine (HSC.out _ (by first | exact HS2.out | assumption)).mono ?_; rintro e w7 ⟨rfl, hS7⟩))
      go_wp2_with fail
      go_ret
      exact ⟨by rw [HR.out] <;> rfl, hS7.1⟩
    case true =>
      have HR : Hid (R = true) := Lib.hid hR2
      clear hR2
      go_enter Tryz.func25, Tryz.ntmps25
      go_wp2_with fail
      rw [← hw2]
      clear hw2
      have hS2 := HS2.out
      obtain ⟨x0, a0, a1, a2, a3, a4, a5, a6, a7, a8, a9, b0, b1, b2⟩ := hS2
      clear d0 d1 d2 d3 d4 k0 k1 k2 k3 k4 k5 k6 k7 k8 k9 o0 o1 o2
      go_region_with (first
        | (go_at_call 63; refine (HOF.out _ (by first | exact HS2.out | assumption)).mono ?_; rintro e w7 ⟨rfl, hS7⟩; obtain ⟨x1, c0, c1, c2, c3, c4, c5, c6, c7, c8, c9, g0, g1, g2⟩ := id hS7)
        | (go_at_call 62; refine (HSM.out _ (by first | exact HS2.out | assumption)).mono ?_; rintro e w8 ⟨rfl, hS8⟩))
      all_goals
        go_wp2_with fail
        go_ret
        exact ⟨by rw [HR.out] <;> rfl, hS8.1⟩
  have q2 : (k == 2) = false := by rw [beq_eq_false_iff_ne]; exact hk2
  by_cases hk3 : k = 3
  · skip
    subst hk3
    rw [if_neg (by decide), if_neg (by decide), if_pos rfl] at hR
    have HS := Lib.hid (fun W => sma_any e1 S W)
    have HR := Lib.hid hR
    clear hR
    go_enter Tryz.func25, Tryz.ntmps25
    go_wp2_with fail
    rw [← hw2]
    clear hw2
    refine (HS.out _).mono ?_
    rintro e w3 ⟨rfl, hb⟩
    have HB3 := Lib.hid (below_then HB2.out hb)
    clear hb
    go_wp2_with fail
    go_ret
    exact ⟨by rw [HR.out] <;> rfl, HB3.out⟩
  have q3 : (k == 3) = false := by rw [beq_eq_false_iff_ne]; exact hk3
  by_cases hk4 : k = 4
  · skip
    subst hk4
    rw [if_neg (by decide), if_neg (by decide), if_neg (by decide), if_pos rfl] at hR
    unfold hostM4 at hR
    dsimp only at hR
    have HF := Lib.hid (fun W => sfits_any 4 e1 e2 e3 e4 S U P H T Q F pt hq hf S2 H2 p2 W)
    have HHM := Lib.hid (fun W (hW : Tab10 W) => hma_any e2 H h2 hH W hW)
    have HPM := Lib.hid (fun W => spma_any e3 S U P H T Q F pt hq hf h3 W)
    have HTM := Lib.hid (fun W => tma_any e4 T h4 hTT W)
    obtain ⟨b1, hb1⟩ : ∃ b1, b1 = schM4 ⟨4, e1.data.toList, e2.data.toList, e3.data.toList, e4.data.toList⟩ ⟨S.data.toList, H.data.toList, pU S.data.toList pt, T.data.toList⟩ ⟨S2.data.toList, H2.data.toList, p2⟩ := ⟨_, rfl⟩
    rw [← hb1] at HF hR
    obtain ⟨b2, hb2⟩ : ∃ b2, b2 = hmaB e2.data.toList H.data.toList := ⟨_, rfl⟩
    rw [← hb2] at HHM hR
    obtain ⟨b3, hb3⟩ : ∃ b3, b3 = pmaB e3.data.toList S.data.toList (pU S.data.toList pt) := ⟨_, rfl⟩
    rw [← hb3] at HPM hR
    obtain ⟨b5, hb5⟩ : ∃ b5, b5 = tmaB e4.data.toList T.data.toList := ⟨_, rfl⟩
    rw [← hb5] at HTM hR
    clear hb1 hb2 hb3 hb5
    cases b1
    case false =>
      have HR : Hid (R = false) := Lib.hid hR
      clear hR
      go_enter Tryz.func25, Tryz.ntmps25
      go_wp2_with fail
      rw [← hw2]
      clear hw2
      refine (HF.out _).mono ?_
      rintro e w3 ⟨rfl, hb⟩
      have HB3 := Lib.hid (below_then HB2.out hb)
      have he3 := Rw.below HE2.out hb
      have hu3 := Rw.below HU2.out hb
      have ho3 := Rw.below HO2.out hb
      have HE3 := Lib.hid he3
      have HU3 := Lib.hid hu3
      have HO3 := Lib.hid ho3
      clear d0 d1 d2 d3 d4 k0 k1 k2 k3 k4 k5 k6 k7 k8 k9 o0 o1 o2 hb
      have d0 := Rw.cell he3 (j := 0) rfl
      have d1 := Rw.cell he3 (j := 1) rfl
      have d2 := Rw.cell he3 (j := 2) rfl
      have d3 := Rw.cell he3 (j := 3) rfl
      have d4 := Rw.cell he3 (j := 4) rfl
      have k0 := Rw.cell hu3 (j := 0) rfl
      have k1 := Rw.cell hu3 (j := 1) rfl
      have k2 := Rw.cell hu3 (j := 2) rfl
      have k3 := Rw.cell hu3 (j := 3) rfl
      have k4 := Rw.cell hu3 (j := 4) rfl
      have k5 := Rw.cell hu3 (j := 5) rfl
      have k6 := Rw.cell hu3 (j := 6) rfl
      have k7 := Rw.cell hu3 (j := 7) rfl
      have k8 := Rw.cell hu3 (j := 8) rfl
      have k9 := Rw.cell hu3 (j := 9) rfl
      have o0 := Rw.cell ho3 (j := 0) rfl
      have o1 := Rw.cell ho3 (j := 1) rfl
      have o2 := Rw.cell ho3 (j := 2) rfl
      clear he3 hu3 ho3
      go_wp2_with fail
      go_ret
      exact ⟨by rw [HR.out] <;> rfl, HB3.out⟩
    case true =>
      cases b2
      case false =>
        have HR : Hid (R = false) := Lib.hid hR
        clear hR
        go_enter Tryz.func25, Tryz.ntmps25
        go_wp2_with fail
        rw [← hw2]
        clear hw2
        refine (HF.out _).mono ?_
        rintro e w3 ⟨rfl, hb⟩
        have HB3 := Lib.hid (below_then HB2.out hb)
        have he3 := Rw.below HE2.out hb
        have hu3 := Rw.below HU2.out hb
        have ho3 := Rw.below HO2.out hb
        have HE3 := Lib.hid he3
        have HU3 := Lib.hid hu3
        have HO3 := Lib.hid ho3
        clear d0 d1 d2 d3 d4 k0 k1 k2 k3 k4 k5 k6 k7 k8 k9 o0 o1 o2 hb
        have d0 := Rw.cell he3 (j := 0) rfl
        have d1 := Rw.cell he3 (j := 1) rfl
        have d2 := Rw.cell he3 (j := 2) rfl
        have d3 := Rw.cell he3 (j := 3) rfl
        have d4 := Rw.cell he3 (j := 4) rfl
        have k0 := Rw.cell hu3 (j := 0) rfl
        have k1 := Rw.cell hu3 (j := 1) rfl
        have k2 := Rw.cell hu3 (j := 2) rfl
        have k3 := Rw.cell hu3 (j := 3) rfl
        have k4 := Rw.cell hu3 (j := 4) rfl
        have k5 := Rw.cell hu3 (j := 5) rfl
        have k6 := Rw.cell hu3 (j := 6) rfl
        have k7 := Rw.cell hu3 (j := 7) rfl
        have k8 := Rw.cell hu3 (j := 8) rfl
        have k9 := Rw.cell hu3 (j := 9) rfl
        have o0 := Rw.cell ho3 (j := 0) rfl
        have o1 := Rw.cell ho3 (j := 1) rfl
        have o2 := Rw.cell ho3 (j := 2) rfl
        clear he3 hu3 ho3
        go_wp2_with fail
        refine (HHM.out _ (tab10_below HT.out HB3.out)).mono ?_
        rintro e w4 ⟨rfl, hb⟩
        have HB4 := Lib.hid (below_then HB3.out hb)
        have he4 := Rw.below HE3.out hb
        have hu4 := Rw.below HU3.out hb
        have ho4 := Rw.below HO3.out hb
        have HE4 := Lib.hid he4
        have HU4 := Lib.hid hu4
        have HO4 := Lib.hid ho4
        clear d0 d1 d2 d3 d4 k0 k1 k2 k3 k4 k5 k6 k7 k8 k9 o0 o1 o2 hb
        have d0 := Rw.cell he4 (j := 0) rfl
        have d1 := Rw.cell he4 (j := 1) rfl
        have d2 := Rw.cell he4 (j := 2) rfl
        have d3 := Rw.cell he4 (j := 3) rfl
        have d4 := Rw.cell he4 (j := 4) rfl
        have k0 := Rw.cell hu4 (j := 0) rfl
        have k1 := Rw.cell hu4 (j := 1) rfl
        have k2 := Rw.cell hu4 (j := 2) rfl
        have k3 := Rw.cell hu4 (j := 3) rfl
        have k4 := Rw.cell hu4 (j := 4) rfl
        have k5 := Rw.cell hu4 (j := 5) rfl
        have k6 := Rw.cell hu4 (j := 6) rfl
        have k7 := Rw.cell hu4 (j := 7) rfl
        have k8 := Rw.cell hu4 (j := 8) rfl
        have k9 := Rw.cell hu4 (j := 9) rfl
        have o0 := Rw.cell ho4 (j := 0) rfl
        have o1 := Rw.cell ho4 (j := 1) rfl
        have o2 := Rw.cell ho4 (j := 2) rfl
        clear he4 hu4 ho4
        go_wp2_with fail
        go_ret
        exact ⟨by rw [HR.out] <;> rfl, HB4.out⟩
      case true =>
        cases b3
        case false =>
          have HR : Hid (R = false) := Lib.hid hR
          clear hR
          go_enter Tryz.func25, Tryz.ntmps25
          go_wp2_with fail
          rw [← hw2]
          clear hw2
          refine (HF.out _).mono ?_
          rintro e w3 ⟨rfl, hb⟩
          have HB3 := Lib.hid (below_then HB2.out hb)
          have he3 := Rw.below HE2.out hb
          have hu3 := Rw.below HU2.out hb
          have ho3 := Rw.below HO2.out hb
          have HE3 := Lib.hid he3
          have HU3 := Lib.hid hu3
          have HO3 := Lib.hid ho3
          clear d0 d1 d2 d3 d4 k0 k1 k2 k3 k4 k5 k6 k7 k8 k9 o0 o1 o2 hb
          have d0 := Rw.cell he3 (j := 0) rfl
          have d1 := Rw.cell he3 (j := 1) rfl
          have d2 := Rw.cell he3 (j := 2) rfl
          have d3 := Rw.cell he3 (j := 3) rfl
          have d4 := Rw.cell he3 (j := 4) rfl
          have k0 := Rw.cell hu3 (j := 0) rfl
          have k1 := Rw.cell hu3 (j := 1) rfl
          have k2 := Rw.cell hu3 (j := 2) rfl
          have k3 := Rw.cell hu3 (j := 3) rfl
          have k4 := Rw.cell hu3 (j := 4) rfl
          have k5 := Rw.cell hu3 (j := 5) rfl
          have k6 := Rw.cell hu3 (j := 6) rfl
          have k7 := Rw.cell hu3 (j := 7) rfl
          have k8 := Rw.cell hu3 (j := 8) rfl
          have k9 := Rw.cell hu3 (j := 9) rfl
          have o0 := Rw.cell ho3 (j := 0) rfl
          have o1 := Rw.cell ho3 (j := 1) rfl
          have o2 := Rw.cell ho3 (j := 2) rfl
          clear he3 hu3 ho3
          go_wp2_with fail
          refine (HHM.out _ (tab10_below HT.out HB3.out)).mono ?_
          rintro e w4 ⟨rfl, hb⟩
          have HB4 := Lib.hid (below_then HB3.out hb)
          have he4 := Rw.below HE3.out hb
          have hu4 := Rw.below HU3.out hb
          have ho4 := Rw.below HO3.out hb
          have HE4 := Lib.hid he4
          have HU4 := Lib.hid hu4
          have HO4 := Lib.hid ho4
          clear d0 d1 d2 d3 d4 k0 k1 k2 k3 k4 k5 k6 k7 k8 k9 o0 o1 o2 hb
          have d0 := Rw.cell he4 (j := 0) rfl
          have d1 := Rw.cell he4 (j := 1) rfl
          have d2 := Rw.cell he4 (j := 2) rfl
          have d3 := Rw.cell he4 (j := 3) rfl
          have d4 := Rw.cell he4 (j := 4) rfl
          have k0 := Rw.cell hu4 (j := 0) rfl
          have k1 := Rw.cell hu4 (j := 1) rfl
          have k2 := Rw.cell hu4 (j := 2) rfl
          have k3 := Rw.cell hu4 (j := 3) rfl
          have k4 := Rw.cell hu4 (j := 4) rfl
          have k5 := Rw.cell hu4 (j := 5) rfl
          have k6 := Rw.cell hu4 (j := 6) rfl
          have k7 := Rw.cell hu4 (j := 7) rfl
          have k8 := Rw.cell hu4 (j := 8) rfl
          have k9 := Rw.cell hu4 (j := 9) rfl
          have o0 := Rw.cell ho4 (j := 0) rfl
          have o1 := Rw.cell ho4 (j := 1) rfl
          have o2 := Rw.cell ho4 (j := 2) rfl
          clear he4 hu4 ho4
          go_wp2_with fail
          refine (HPM.out _).mono ?_
          rintro e w5 ⟨rfl, hb⟩
          have HB5 := Lib.hid (below_then HB4.out hb)
          have he5 := Rw.below HE4.out hb
          have hu5 := Rw.below HU4.out hb
          have ho5 := Rw.below HO4.out hb
          have HE5 := Lib.hid he5
          have HU5 := Lib.hid hu5
          have HO5 := Lib.hid ho5
          clear d0 d1 d2 d3 d4 k0 k1 k2 k3 k4 k5 k6 k7 k8 k9 o0 o1 o2 hb
          have d0 := Rw.cell he5 (j := 0) rfl
          have d1 := Rw.cell he5 (j := 1) rfl
          have d2 := Rw.cell he5 (j := 2) rfl
          have d3 := Rw.cell he5 (j := 3) rfl
          have d4 := Rw.cell he5 (j := 4) rfl
          have k0 := Rw.cell hu5 (j := 0) rfl
          have k1 := Rw.cell hu5 (j := 1) rfl
          have k2 := Rw.cell hu5 (j := 2) rfl
          have k3 := Rw.cell hu5 (j := 3) rfl
          have k4 := Rw.cell hu5 (j := 4) rfl
          have k5 := Rw.cell hu5 (j := 5) rfl
          have k6 := Rw.cell hu5 (j := 6) rfl
          have k7 := Rw.cell hu5 (j := 7) rfl
          have k8 := Rw.cell hu5 (j := 8) rfl
          have k9 := Rw.cell hu5 (j := 9) rfl
          have o0 := Rw.cell ho5 (j := 0) rfl
          have o1 := Rw.cell ho5 (j := 1) rfl
          have o2 := Rw.cell ho5 (j := 2) rfl
          clear he5 hu5 ho5
          go_wp2_with fail
          go_ret
          exact ⟨by rw [HR.out] <;> rfl, HB5.out⟩
        case true =>
          by_cases hr0 : red = 0
          case neg =>
            have qr : (red != 0) = true := by rw [bne_iff_ne]; exact hr0
            have qr2 : (red == 0) = false := by rw [beq_eq_false_iff_ne]; exact hr0
            have HR : Hid (R = true) := Lib.hid (by rw [hR, decide_eq_true hr0]; rfl)
            clear hR hr0
            go_enter Tryz.func25, Tryz.ntmps25
            go_wp2_with fail
            rw [← hw2]
            clear hw2
            refine (HF.out _).mono ?_
            rintro e w3 ⟨rfl, hb⟩
            have HB3 := Lib.hid (below_then HB2.out hb)
            have he3 := Rw.below HE2.out hb
            have hu3 := Rw.below HU2.out hb
            have ho3 := Rw.below HO2.out hb
            have HE3 := Lib.hid he3
            have HU3 := Lib.hid hu3
            have HO3 := Lib.hid ho3
            clear d0 d1 d2 d3 d4 k0 k1 k2 k3 k4 k5 k6 k7 k8 k9 o0 o1 o2 hb
            have d0 := Rw.cell he3 (j := 0) rfl
            have d1 := Rw.cell he3 (j := 1) rfl
            have d2 := Rw.cell he3 (j := 2) rfl
            have d3 := Rw.cell he3 (j := 3) rfl
            have d4 := Rw.cell he3 (j := 4) rfl
            have k0 := Rw.cell hu3 (j := 0) rfl
            have k1 := Rw.cell hu3 (j := 1) rfl
            have k2 := Rw.cell hu3 (j := 2) rfl
            have k3 := Rw.cell hu3 (j := 3) rfl
            have k4 := Rw.cell hu3 (j := 4) rfl
            have k5 := Rw.cell hu3 (j := 5) rfl
            have k6 := Rw.cell hu3 (j := 6) rfl
            have k7 := Rw.cell hu3 (j := 7) rfl
            have k8 := Rw.cell hu3 (j := 8) rfl
            have k9 := Rw.cell hu3 (j := 9) rfl
            have o0 := Rw.cell ho3 (j := 0) rfl
            have o1 := Rw.cell ho3 (j := 1) rfl
            have o2 := Rw.cell ho3 (j := 2) rfl
            clear he3 hu3 ho3
            go_wp2_with fail
            refine (HHM.out _ (tab10_below HT.out HB3.out)).mono ?_
            rintro e w4 ⟨rfl, hb⟩
            have HB4 := Lib.hid (below_then HB3.out hb)
            have he4 := Rw.below HE3.out hb
            have hu4 := Rw.below HU3.out hb
            have ho4 := Rw.below HO3.out hb
            have HE4 := Lib.hid he4
            have HU4 := Lib.hid hu4
            have HO4 := Lib.hid ho4
            clear d0 d1 d2 d3 d4 k0 k1 k2 k3 k4 k5 k6 k7 k8 k9 o0 o1 o2 hb
            have d0 := Rw.cell he4 (j := 0) rfl
            have d1 := Rw.cell he4 (j := 1) rfl
            have d2 := Rw.cell he4 (j := 2) rfl
            have d3 := Rw.cell he4 (j := 3) rfl
            have d4 := Rw.cell he4 (j := 4) rfl
            have k0 := Rw.cell hu4 (j := 0) rfl
            have k1 := Rw.cell hu4 (j := 1) rfl
            have k2 := Rw.cell hu4 (j := 2) rfl
            have k3 := Rw.cell hu4 (j := 3) rfl
            have k4 := Rw.cell hu4 (j := 4) rfl
            have k5 := Rw.cell hu4 (j := 5) rfl
            have k6 := Rw.cell hu4 (j := 6) rfl
            have k7 := Rw.cell hu4 (j := 7) rfl
            have k8 := Rw.cell hu4 (j := 8) rfl
            have k9 := Rw.cell hu4 (j := 9) rfl
            have o0 := Rw.cell ho4 (j := 0) rfl
            have o1 := Rw.cell ho4 (j := 1) rfl
            have o2 := Rw.cell ho4 (j := 2) rfl
            clear he4 hu4 ho4
            go_wp2_with fail
            refine (HPM.out _).mono ?_
            rintro e w5 ⟨rfl, hb⟩
            have HB5 := Lib.hid (below_then HB4.out hb)
            have he5 := Rw.below HE4.out hb
            have hu5 := Rw.below HU4.out hb
            have ho5 := Rw.below HO4.out hb
            have HE5 := Lib.hid he5
            have HU5 := Lib.hid hu5
            have HO5 := Lib.hid ho5
            clear d0 d1 d2 d3 d4 k0 k1 k2 k3 k4 k5 k6 k7 k8 k9 o0 o1 o2 hb
            have d0 := Rw.cell he5 (j := 0) rfl
            have d1 := Rw.cell he5 (j := 1) rfl
            have d2 := Rw.cell he5 (j := 2) rfl
            have d3 := Rw.cell he5 (j := 3) rfl
            have d4 := Rw.cell he5 (j := 4) rfl
            have k0 := Rw.cell hu5 (j := 0) rfl
            have k1 := Rw.cell hu5 (j := 1) rfl
            have k2 := Rw.cell hu5 (j := 2) rfl
            have k3 := Rw.cell hu5 (j := 3) rfl
            have k4 := Rw.cell hu5 (j := 4) rfl
            have k5 := Rw.cell hu5 (j := 5) rfl
            have k6 := Rw.cell hu5 (j := 6) rfl
            have k7 := Rw.cell hu5 (j := 7) rfl
            have k8 := Rw.cell hu5 (j := 8) rfl
            have k9 := Rw.cell hu5 (j := 9) rfl
            have o0 := Rw.cell ho5 (j := 0) rfl
            have o1 := Rw.cell ho5 (j := 1) rfl
            have o2 := Rw.cell ho5 (j := 2) rfl
            clear he5 hu5 ho5
            go_wp2_with fail
            go_ret
            exact ⟨by rw [HR.out] <;> rfl, HB5.out⟩
          case pos =>
            have HR : Hid (R = b5) := Lib.hid (by rw [hR, decide_eq_false (fun h => h hr0)]; rfl)
            subst hr0
            clear hR
            go_enter Tryz.func25, Tryz.ntmps25
            go_wp2_with fail
            rw [← hw2]
            clear hw2
            refine (HF.out _).mono ?_
            rintro e w3 ⟨rfl, hb⟩
            have HB3 := Lib.hid (below_then HB2.out hb)
            have he3 := Rw.below HE2.out hb
            have hu3 := Rw.below HU2.out hb
            have ho3 := Rw.below HO2.out hb
            have HE3 := Lib.hid he3
            have HU3 := Lib.hid hu3
            have HO3 := Lib.hid ho3
            clear d0 d1 d2 d3 d4 k0 k1 k2 k3 k4 k5 k6 k7 k8 k9 o0 o1 o2 hb
            have d0 := Rw.cell he3 (j := 0) rfl
            have d1 := Rw.cell he3 (j := 1) rfl
            have d2 := Rw.cell he3 (j := 2) rfl
            have d3 := Rw.cell he3 (j := 3) rfl
            have d4 := Rw.cell he3 (j := 4) rfl
            have k0 := Rw.cell hu3 (j := 0) rfl
            have k1 := Rw.cell hu3 (j := 1) rfl
            have k2 := Rw.cell hu3 (j := 2) rfl
            have k3 := Rw.cell hu3 (j := 3) rfl
            have k4 := Rw.cell hu3 (j := 4) rfl
            have k5 := Rw.cell hu3 (j := 5) rfl
            have k6 := Rw.cell hu3 (j := 6) rfl
            have k7 := Rw.cell hu3 (j := 7) rfl
            have k8 := Rw.cell hu3 (j := 8) rfl
            have k9 := Rw.cell hu3 (j := 9) rfl
            have o0 := Rw.cell ho3 (j := 0) rfl
            have o1 := Rw.cell ho3 (j := 1) rfl
            have o2 := Rw.cell ho3 (j := 2) rfl
            clear he3 hu3 ho3
            go_wp2_with fail
            refine (HHM.out _ (tab10_below HT.out HB3.out)).mono ?_
            rintro e w4 ⟨rfl, hb⟩
            have HB4 := Lib.hid (below_then HB3.out hb)
            have he4 := Rw.below HE3.out hb
            have hu4 := Rw.below HU3.out hb
            have ho4 := Rw.below HO3.out hb
            have HE4 := Lib.hid he4
            have HU4 := Lib.hid hu4
            have HO4 := Lib.hid ho4
            clear d0 d1 d2 d3 d4 k0 k1 k2 k3 k4 k5 k6 k7 k8 k9 o0 o1 o2 hb
            have d0 := Rw.cell he4 (j := 0) rfl
            have d1 := Rw.cell he4 (j := 1) rfl
            have d2 := Rw.cell he4 (j := 2) rfl
            have d3 := Rw.cell he4 (j := 3) rfl
            have d4 := Rw.cell he4 (j := 4) rfl
            have k0 := Rw.cell hu4 (j := 0) rfl
            have k1 := Rw.cell hu4 (j := 1) rfl
            have k2 := Rw.cell hu4 (j := 2) rfl
            have k3 := Rw.cell hu4 (j := 3) rfl
            have k4 := Rw.cell hu4 (j := 4) rfl
            have k5 := Rw.cell hu4 (j := 5) rfl
            have k6 := Rw.cell hu4 (j := 6) rfl
            have k7 := Rw.cell hu4 (j := 7) rfl
            have k8 := Rw.cell hu4 (j := 8) rfl
            have k9 := Rw.cell hu4 (j := 9) rfl
            have o0 := Rw.cell ho4 (j := 0) rfl
            have o1 := Rw.cell ho4 (j := 1) rfl
            have o2 := Rw.cell ho4 (j := 2) rfl
            clear he4 hu4 ho4
            go_wp2_with fail
            refine (HPM.out _).mono ?_
            rintro e w5 ⟨rfl, hb⟩
            have HB5 := Lib.hid (below_then HB4.out hb)
            have he5 := Rw.below HE4.out hb
            have hu5 := Rw.below HU4.out hb
            have ho5 := Rw.below HO4.out hb
            have HE5 := Lib.hid he5
            have HU5 := Lib.hid hu5
            have HO5 := Lib.hid ho5
            clear d0 d1 d2 d3 d4 k0 k1 k2 k3 k4 k5 k6 k7 k8 k9 o0 o1 o2 hb
            have d0 := Rw.cell he5 (j := 0) rfl
            have d1 := Rw.cell he5 (j := 1) rfl
            have d2 := Rw.cell he5 (j := 2) rfl
            have d3 := Rw.cell he5 (j := 3) rfl
            have d4 := Rw.cell he5 (j := 4) rfl
            have k0 := Rw.cell hu5 (j := 0) rfl
            have k1 := Rw.cell hu5 (j := 1) rfl
            have k2 := Rw.cell hu5 (j := 2) rfl
            have k3 := Rw.cell hu5 (j := 3) rfl
            have k4 := Rw.cell hu5 (j := 4) rfl
            have k5 := Rw.cell hu5 (j := 5) rfl
            have k6 := Rw.cell hu5 (j := 6) rfl
            have k7 := Rw.cell hu5 (j := 7) rfl
            have k8 := Rw.cell hu5 (j := 8) rfl
            have k9 := Rw.cell hu5 (j := 9) rfl
            have o0 := Rw.cell ho5 (j := 0) rfl
            have o1 := Rw.cell ho5 (j := 1) rfl
            have o2 := Rw.cell ho5 (j := 2) rfl
            clear he5 hu5 ho5
            go_wp2_with fail
            refine (HTM.out _).mono ?_
            rintro e w6 ⟨rfl, hb⟩
            have HB6 := Lib.hid (below_then HB5.out hb)
            have he6 := Rw.below HE5.out hb
            have hu6 := Rw.below HU5.out hb
            have ho6 := Rw.below HO5.out hb
            have HE6 := Lib.hid he6
            have HU6 := Lib.hid hu6
            have HO6 := Lib.hid ho6
            clear d0 d1 d2 d3 d4 k0 k1 k2 k3 k4 k5 k6 k7 k8 k9 o0 o1 o2 hb
            have d0 := Rw.cell he6 (j := 0) rfl
            have d1 := Rw.cell he6 (j := 1) rfl
            have d2 := Rw.cell he6 (j := 2) rfl
            have d3 := Rw.cell he6 (j := 3) rfl
            have d4 := Rw.cell he6 (j := 4) rfl
            have k0 := Rw.cell hu6 (j := 0) rfl
            have k1 := Rw.cell hu6 (j := 1) rfl
            have k2 := Rw.cell hu6 (j := 2) rfl
            have k3 := Rw.cell hu6 (j := 3) rfl
            have k4 := Rw.cell hu6 (j := 4) rfl
            have k5 := Rw.cell hu6 (j := 5) rfl
            have k6 := Rw.cell hu6 (j := 6) rfl
            have k7 := Rw.cell hu6 (j := 7) rfl
            have k8 := Rw.cell hu6 (j := 8) rfl
            have k9 := Rw.cell hu6 (j := 9) rfl
            have o0 := Rw.cell ho6 (j := 0) rfl
            have o1 := Rw.cell ho6 (j := 1) rfl
            have o2 := Rw.cell ho6 (j := 2) rfl
            clear he6 hu6 ho6
            go_wp2_with fail
            go_ret
            exact ⟨by rw [HR.out] <;> rfl, HB6.out⟩
  have q4 : (k == 4) = false := by rw [beq_eq_false_iff_ne]; exact hk4
  have HR : Hid (R = false) := Lib.hid (by rw [hR, if_neg hk1, if_neg hk2, if_neg hk3, if_neg hk4])
  clear hR hk1 hk2 hk3 hk4
  go_enter Tryz.func25, Tryz.ntmps25
  go_wp2_with fail
  go_ret
  refine ⟨by rw [HR.out] <;> rfl, ?_⟩
  rw [← hw2]
  exact HB2.out

def prsU (s : List UInt8) : UrlM := (urlP s).getD urlZ

def prsB (s : List UInt8) : Bool := (urlP s).isSome && decide (s.length ≤ 2000)

def selO (s : List UInt8) : OrgM := if prsB s = true then ofU (prsU s) else orgZ

theorem new_end {w w0 W : World} {Z : Array Value} {T : TypeId} (h0 : w0 = w.alloc (.cells Z T)) (hk : Kept (fun _ => False) w0 W) (ys : List Value) (hl : Z.toList.length = ys.length) :
    Rw (W.setCells w.heap.size 0 ys) 0 w.heap.size T ys ∧ Below w.heap.size w (W.setCells w.heap.size 0 ys) := by
  have hz : Rw w0 0 w.heap.size T Z.toList := by rw [h0]; exact Rw.alloc w _ _ (Nat.zero_le _)
  have hb : Below w.heap.size w w0 := by rw [h0]; exact below_more (Below.refl _ _) _
  exact ⟨Rw.storedAll (rw_kept hz hk (fun x => x)) _ hl, below_stores (below_then hb (below_kept hk)) (Nat.le_refl _) _⟩

theorem rurl_big (s : ByteArray) (hbig : 65536 < s.size) (w : World) :
    Calls Tryz.prog 46 #[.string s] w fun e w' => e = .returned (urlR (urlP s.data.toList)) ∧ Below w.heap.size w w' := by
  have hz := zero_cells Tryz.infoUrl
  obtain ⟨R, hR⟩ : ∃ R, R = urlP s.data.toList := ⟨_, rfl⟩
  rw [← hR]
  have HR0 : Hid (Rw (w.alloc (.cells #[.string ⟨#[]⟩, .string ⟨#[]⟩, .string ⟨#[]⟩, .string ⟨#[]⟩, .int .i64 0, .string ⟨#[]⟩, .bool false, .string ⟨#[]⟩, .bool false, .string ⟨#[]⟩] 31)) 0 w.heap.size 31 (urlCells urlZ)) := Lib.hid (Rw.alloc w _ _ (Nat.zero_le _))
  have HB0 : Hid (Below w.heap.size w (w.alloc (.cells #[.string ⟨#[]⟩, .string ⟨#[]⟩, .string ⟨#[]⟩, .string ⟨#[]⟩, .int .i64 0, .string ⟨#[]⟩, .bool false, .string ⟨#[]⟩, .bool false, .string ⟨#[]⟩] 31))) := Lib.hid (below_more (Below.refl _ _) _)
  have HRN : Hid (R = none) := Lib.hid (by rw [hR]; unfold urlP; rw [if_neg (by rw [size_data]; omega)])
  have hbz : (65536 : Int) < (s.size : Int) := by omega
  clear hR hbig
  go_enter Tryz.func46, Tryz.ntmps46
  go_wp2_with (first | (refine wpList_alloc_z rfl 31 rfl #[.string ⟨#[]⟩, .string ⟨#[]⟩, .string ⟨#[]⟩, .string ⟨#[]⟩, .int .i64 0, .string ⟨#[]⟩, .bool false, .string ⟨#[]⟩, .bool false, .string ⟨#[]⟩] hz ?_) | (refine wpList_store_mid rfl 31 _ _ rfl w.heap.size 0 (urlCells urlZ).toArray rfl rfl (Rw.there HR0.out 0 _ (by simp [urlCells])) Tryz.sizeUrl (url_one _) ?_) | fail)
  have HWZ := Rw.storedAll HR0.out (urlCells urlZ) rfl
  refine bodyPost_ret (v := .tuple #[urlV urlZ, .int .i64 8]) ?_ rfl ?_
  case refine_2 => rw [HRN.out]; exact ⟨rfl, below_stores HB0.out (Nat.le_refl _) _⟩
  exact results_row_tmp rfl _ _ w.heap.size 0 31 (urlCells urlZ) _ rfl HWZ Tryz.underlying31 rfl Tryz.sizeUrl (.int .i64 8) rfl

theorem rurl_all (s : ByteArray) (w : World) :
    Calls Tryz.prog 46 #[.string s] w fun e w' => e = .returned (urlR (urlP s.data.toList)) ∧ Below w.heap.size w w' := by
  by_cases h : 65536 < s.size
  · exact rurl_big s h w
  · exact rurl_any s (by omega) w

set_option maxHeartbeats 4000000 in
theorem sparsed_any (s : ByteArray) (_hs : s.size ≤ 140737488351232) (w : World) :
    Calls Tryz.prog 14 #[.string s] w fun e w' => e = .returned (.tuple #[urlV (prsU s.data.toList), .bool (prsB s.data.toList)]) ∧ Below w.heap.size w w' := by
  have hz := zero_cells Tryz.infoUrl
  obtain ⟨u, hu⟩ : ∃ u, u = prsU s.data.toList := ⟨_, rfl⟩
  obtain ⟨b, hb⟩ : ∃ b, b = (urlP s.data.toList).isSome := ⟨_, rfl⟩
  have hB : prsB s.data.toList = (b && decide (s.size ≤ 2000)) := by rw [hb]; unfold prsB; rw [size_data]
  rw [hB, ← hu]
  have HP0 := Lib.hid (fun W => rurl_all s W)
  obtain ⟨n, hn⟩ : ∃ n, n = urlE (urlP s.data.toList) := ⟨_, rfl⟩
  have hnb : (n == 0) = b := by
    rw [hn, hb]
    cases urlP s.data.toList <;> rfl
  obtain ⟨pt, hpt⟩ : ∃ pt, pt = u.prt := ⟨_, rfl⟩
  obtain ⟨hq, hhq⟩ : ∃ hq, hq = u.hq := ⟨_, rfl⟩
  obtain ⟨hf, hhf⟩ : ∃ hf, hf = u.hf := ⟨_, rfl⟩
  obtain ⟨S, hS⟩ : ∃ S : ByteArray, S = ⟨u.sch.toArray⟩ := ⟨_, rfl⟩
  obtain ⟨U, hU⟩ : ∃ U : ByteArray, U = ⟨u.usr.toArray⟩ := ⟨_, rfl⟩
  obtain ⟨P, hP⟩ : ∃ P : ByteArray, P = ⟨u.pas.toArray⟩ := ⟨_, rfl⟩
  obtain ⟨H, hH⟩ : ∃ H : ByteArray, H = ⟨u.hos.toArray⟩ := ⟨_, rfl⟩
  obtain ⟨T, hT⟩ : ∃ T : ByteArray, T = ⟨u.pth.toArray⟩ := ⟨_, rfl⟩
  obtain ⟨Q, hQ⟩ : ∃ Q : ByteArray, Q = ⟨u.qry.toArray⟩ := ⟨_, rfl⟩
  obtain ⟨F, hF⟩ : ∃ F : ByteArray, F = ⟨u.frg.toArray⟩ := ⟨_, rfl⟩
  have huv : urlV u = .agg #[.string S, .string U, .string P, .string H, .int .i64 pt, .string T, .bool hq, .string Q, .bool hf, .string F] := by rw [hpt, hhq, hhf, hS, hU, hP, hH, hT, hQ, hF]; rfl
  have hur : urlR (urlP s.data.toList) = .tuple #[.agg #[.string S, .string U, .string P, .string H, .int .i64 pt, .string T, .bool hq, .string Q, .bool hf, .string F], .int .i64 n] := by
    unfold urlR
    rw [← huv, hu, hn]
    rfl
  rw [hur] at HP0
  rw [huv]
  obtain ⟨w0, hw0⟩ : ∃ w0, w0 = w.alloc (.cells #[.string ⟨#[]⟩, .string ⟨#[]⟩, .string ⟨#[]⟩, .string ⟨#[]⟩, .int .i64 0, .string ⟨#[]⟩, .bool false, .string ⟨#[]⟩, .bool false, .string ⟨#[]⟩] 31) := ⟨_, rfl⟩
  have HW0 := Lib.hid hw0
  have HZ0 : Hid (Rw w0 0 w.heap.size 31 [.string ⟨#[]⟩, .string ⟨#[]⟩, .string ⟨#[]⟩, .string ⟨#[]⟩, .int .i64 0, .string ⟨#[]⟩, .bool false, .string ⟨#[]⟩, .bool false, .string ⟨#[]⟩]) := Lib.hid (by rw [hw0]; exact Rw.alloc w _ _ (Nat.zero_le _))
  clear hur huv hS hU hP hH hT hQ hF hpt hhq hhf hu hn hb hB
  cases b
  · skip
    go_enter Tryz.func14, Tryz.ntmps14
    go_wp2_with fail
    rw [← hw0]
    clear hw0
    refine (HP0.out _).mono ?_
    rintro e w1 ⟨rfl, hb1⟩
    have HK1 := Lib.hid (kept_below (F := fun _ => False) hb1)
    have HK2 : Hid (Kept (fun _ => False) w0 (w1.alloc (.cells #[.string S, .string U, .string P, .string H, .int .i64 pt, .string T, .bool hq, .string Q, .bool hf, .string F] 31))) := Lib.hid (below_keep HK1.out (below_more (Below.refl _ _) _))
    have hzr := rw_kept HZ0.out HK2.out (fun x => x)
    have z0 := Rw.cell hzr (j := 0) rfl
    have z1 := Rw.cell hzr (j := 1) rfl
    have z2 := Rw.cell hzr (j := 2) rfl
    have z3 := Rw.cell hzr (j := 3) rfl
    have z4 := Rw.cell hzr (j := 4) rfl
    have z5 := Rw.cell hzr (j := 5) rfl
    have z6 := Rw.cell hzr (j := 6) rfl
    have z7 := Rw.cell hzr (j := 7) rfl
    have z8 := Rw.cell hzr (j := 8) rfl
    have z9 := Rw.cell hzr (j := 9) rfl
    have y0 := Rw.free hzr 0
    have y1 := Rw.free hzr 1
    have y2 := Rw.free hzr 2
    have y3 := Rw.free hzr 3
    have y4 := Rw.free hzr 4
    have y5 := Rw.free hzr 5
    have y6 := Rw.free hzr 6
    have y7 := Rw.free hzr 7
    have y8 := Rw.free hzr 8
    have y9 := Rw.free hzr 9
    clear hzr hb1
    go_wp2_with fail
    obtain ⟨E1, E2⟩ := new_end HW0.out HK2.out [.string S, .string U, .string P, .string H, .int .i64 pt, .string T, .bool hq, .string Q, .bool hf, .string F] rfl
    refine bodyPost_ret (v := .tuple #[.agg ([.string S, .string U, .string P, .string H, .int .i64 pt, .string T, .bool hq, .string Q, .bool hf, .string F] : List Value).toArray, .bool false]) ?_ rfl ⟨by first | rfl | (congr 3; simp; done) | (simp; done), E2⟩
    exact results_row_tmp rfl _ _ w.heap.size 0 31 [.string S, .string U, .string P, .string H, .int .i64 pt, .string T, .bool hq, .string Q, .bool hf, .string F] _ rfl E1 Tryz.underlying31 rfl Tryz.sizeUrl (.bool false) (by first | rfl | exact congrArg Value.bool cd)
  · by_cases hl : s.size ≤ 2000
    · have c : (s.size : Int) ≤ 2000 := by omega
      have ce : decide (s.size ≤ 2000) = true := decide_eq_true hl
      have cd : decide ((s.size : Int) ≤ 2000) = true := decide_eq_true c
      rw [ce]
      clear hl ce
      go_enter Tryz.func14, Tryz.ntmps14
      go_wp2_with fail
      rw [← hw0]
      clear hw0
      refine (HP0.out _).mono ?_
      rintro e w1 ⟨rfl, hb1⟩
      have HK1 := Lib.hid (kept_below (F := fun _ => False) hb1)
      have HK2 : Hid (Kept (fun _ => False) w0 (w1.alloc (.cells #[.string S, .string U, .string P, .string H, .int .i64 pt, .string T, .bool hq, .string Q, .bool hf, .string F] 31))) := Lib.hid (below_keep HK1.out (below_more (Below.refl _ _) _))
      have hzr := rw_kept HZ0.out HK2.out (fun x => x)
      have z0 := Rw.cell hzr (j := 0) rfl
      have z1 := Rw.cell hzr (j := 1) rfl
      have z2 := Rw.cell hzr (j := 2) rfl
      have z3 := Rw.cell hzr (j := 3) rfl
      have z4 := Rw.cell hzr (j := 4) rfl
      have z5 := Rw.cell hzr (j := 5) rfl
      have z6 := Rw.cell hzr (j := 6) rfl
      have z7 := Rw.cell hzr (j := 7) rfl
      have z8 := Rw.cell hzr (j := 8) rfl
      have z9 := Rw.cell hzr (j := 9) rfl
      have y0 := Rw.free hzr 0
      have y1 := Rw.free hzr 1
      have y2 := Rw.free hzr 2
      have y3 := Rw.free hzr 3
      have y4 := Rw.free hzr 4
      have y5 := Rw.free hzr 5
      have y6 := Rw.free hzr 6
      have y7 := Rw.free hzr 7
      have y8 := Rw.free hzr 8
      have y9 := Rw.free hzr 9
      clear hzr hb1
      go_wp2_with fail
      obtain ⟨E1, E2⟩ := new_end HW0.out HK2.out [.string S, .string U, .string P, .string H, .int .i64 pt, .string T, .bool hq, .string Q, .bool hf, .string F] rfl
      refine bodyPost_ret (v := .tuple #[.agg ([.string S, .string U, .string P, .string H, .int .i64 pt, .string T, .bool hq, .string Q, .bool hf, .string F] : List Value).toArray, .bool true]) ?_ rfl ⟨by first | rfl | (congr 3; simp; done) | (simp; done), E2⟩
      exact results_row_tmp rfl _ _ w.heap.size 0 31 [.string S, .string U, .string P, .string H, .int .i64 pt, .string T, .bool hq, .string Q, .bool hf, .string F] _ rfl E1 Tryz.underlying31 rfl Tryz.sizeUrl (.bool true) (by first | rfl | exact congrArg Value.bool cd)
    · have c : ¬ (s.size : Int) ≤ 2000 := by omega
      have ce : decide (s.size ≤ 2000) = false := decide_eq_false hl
      have cd : decide ((s.size : Int) ≤ 2000) = false := decide_eq_false c
      rw [ce]
      clear hl ce
      go_enter Tryz.func14, Tryz.ntmps14
      go_wp2_with fail
      rw [← hw0]
      clear hw0
      refine (HP0.out _).mono ?_
      rintro e w1 ⟨rfl, hb1⟩
      have HK1 := Lib.hid (kept_below (F := fun _ => False) hb1)
      have HK2 : Hid (Kept (fun _ => False) w0 (w1.alloc (.cells #[.string S, .string U, .string P, .string H, .int .i64 pt, .string T, .bool hq, .string Q, .bool hf, .string F] 31))) := Lib.hid (below_keep HK1.out (below_more (Below.refl _ _) _))
      have hzr := rw_kept HZ0.out HK2.out (fun x => x)
      have z0 := Rw.cell hzr (j := 0) rfl
      have z1 := Rw.cell hzr (j := 1) rfl
      have z2 := Rw.cell hzr (j := 2) rfl
      have z3 := Rw.cell hzr (j := 3) rfl
      have z4 := Rw.cell hzr (j := 4) rfl
      have z5 := Rw.cell hzr (j := 5) rfl
      have z6 := Rw.cell hzr (j := 6) rfl
      have z7 := Rw.cell hzr (j := 7) rfl
      have z8 := Rw.cell hzr (j := 8) rfl
      have z9 := Rw.cell hzr (j := 9) rfl
      have y0 := Rw.free hzr 0
      have y1 := Rw.free hzr 1
      have y2 := Rw.free hzr 2
      have y3 := Rw.free hzr 3
      have y4 := Rw.free hzr 4
      have y5 := Rw.free hzr 5
      have y6 := Rw.free hzr 6
      have y7 := Rw.free hzr 7
      have y8 := Rw.free hzr 8
      have y9 := Rw.free hzr 9
      clear hzr hb1
      go_wp2_with fail
      obtain ⟨E1, E2⟩ := new_end HW0.out HK2.out [.string S, .string U, .string P, .string H, .int .i64 pt, .string T, .bool hq, .string Q, .bool hf, .string F] rfl
      refine bodyPost_ret (v := .tuple #[.agg ([.string S, .string U, .string P, .string H, .int .i64 pt, .string T, .bool hq, .string Q, .bool hf, .string F] : List Value).toArray, .bool false]) ?_ rfl ⟨by first | rfl | (congr 3; simp; done) | (simp; done), E2⟩
      exact results_row_tmp rfl _ _ w.heap.size 0 31 [.string S, .string U, .string P, .string H, .int .i64 pt, .string T, .bool hq, .string Q, .bool hf, .string F] _ rfl E1 Tryz.underlying31 rfl Tryz.sizeUrl (.bool false) (by first | rfl | exact congrArg Value.bool cd)

set_option maxHeartbeats 4000000 in
theorem sself_any (s : ByteArray) (hs : s.size ≤ 140737488351232) (w : World) :
    Calls Tryz.prog 26 #[.string s] w fun e w' => e = .returned (orgV (selO s.data.toList)) ∧ Below w.heap.size w w' := by
  have hz := zero_cells Tryz.infoOrg
  have HP0 := Lib.hid (fun W => sparsed_any s hs W)
  obtain ⟨R, hR⟩ : ∃ R, R = selO s.data.toList := ⟨_, rfl⟩
  rw [← hR]
  unfold selO at hR
  obtain ⟨u, hu⟩ : ∃ u, u = prsU s.data.toList := ⟨_, rfl⟩
  obtain ⟨b, hb⟩ : ∃ b, b = prsB s.data.toList := ⟨_, rfl⟩
  rw [← hu, ← hb] at HP0 hR
  obtain ⟨pt, hpt⟩ : ∃ pt, pt = u.prt := ⟨_, rfl⟩
  obtain ⟨hq, hhq⟩ : ∃ hq, hq = u.hq := ⟨_, rfl⟩
  obtain ⟨hf, hhf⟩ : ∃ hf, hf = u.hf := ⟨_, rfl⟩
  obtain ⟨S, hS⟩ : ∃ S : ByteArray, S = ⟨u.sch.toArray⟩ := ⟨_, rfl⟩
  obtain ⟨U, hU⟩ : ∃ U : ByteArray, U = ⟨u.usr.toArray⟩ := ⟨_, rfl⟩
  obtain ⟨P, hP⟩ : ∃ P : ByteArray, P = ⟨u.pas.toArray⟩ := ⟨_, rfl⟩
  obtain ⟨H, hH⟩ : ∃ H : ByteArray, H = ⟨u.hos.toArray⟩ := ⟨_, rfl⟩
  obtain ⟨T, hT⟩ : ∃ T : ByteArray, T = ⟨u.pth.toArray⟩ := ⟨_, rfl⟩
  obtain ⟨Q, hQ⟩ : ∃ Q : ByteArray, Q = ⟨u.qry.toArray⟩ := ⟨_, rfl⟩
  obtain ⟨F, hF⟩ : ∃ F : ByteArray, F = ⟨u.frg.toArray⟩ := ⟨_, rfl⟩
  have huv : urlV u = .agg #[.string S, .string U, .string P, .string H, .int .i64 pt, .string T, .bool hq, .string Q, .bool hf, .string F] := by rw [hpt, hhq, hhf, hS, hU, hP, hH, hT, hQ, hF]; rfl
  rw [huv] at HP0
  have hou : ofU u = ⟨S.data.toList, H.data.toList, pU S.data.toList pt⟩ := by rw [hS, hH, hpt]; rfl
  have HOF := Lib.hid (fun W => roOf_any S U P H T Q F pt hq hf W)
  obtain ⟨w0, hw0⟩ : ∃ w0, w0 = w.alloc (.cells #[.string ⟨#[]⟩, .string ⟨#[]⟩, .int .i64 0] 42) := ⟨_, rfl⟩
  have HW0 := Lib.hid hw0
  have HZ0 : Hid (Rw w0 0 w.heap.size 42 [.string ⟨#[]⟩, .string ⟨#[]⟩, .int .i64 0]) := Lib.hid (by rw [hw0]; exact Rw.alloc w _ _ (Nat.zero_le _))
  clear huv hS hU hP hH hT hQ hF hpt hhq hhf hu hb
  cases b
  · have HR : Hid (R = orgZ) := Lib.hid (by rw [hR, if_neg (by decide)])
    clear hR
    go_enter Tryz.func26, Tryz.ntmps26
    go_wp2_with fail
    rw [← hw0]
    clear hw0
    refine (HP0.out _).mono ?_
    rintro e w1 ⟨rfl, hb1⟩
    have HK1 := Lib.hid (kept_below (F := fun _ => False) hb1)
    have HK2 : Hid (Kept (fun _ => False) w0 (w1.alloc (.cells #[.string S, .string U, .string P, .string H, .int .i64 pt, .string T, .bool hq, .string Q, .bool hf, .string F] 31))) := Lib.hid (below_keep HK1.out (below_more (Below.refl _ _) _))
    have hzr := rw_kept HZ0.out HK2.out (fun x => x)
    have z0 := Rw.cell hzr (j := 0) rfl
    have z1 := Rw.cell hzr (j := 1) rfl
    have z2 := Rw.cell hzr (j := 2) rfl
    have y0 := Rw.free hzr 0
    have y1 := Rw.free hzr 1
    have y2 := Rw.free hzr 2
    clear hzr hb1
    go_wp2_with fail
    obtain ⟨E1, E2⟩ := new_end HW0.out HK2.out [.string ⟨#[]⟩, .string ⟨#[]⟩, .int .i64 0] rfl
    refine bodyPost_ret (v := .agg ([.string ⟨#[]⟩, .string ⟨#[]⟩, .int .i64 0] : List Value).toArray) ?_ rfl ⟨by rw [HR.out] <;> rfl, E2⟩
    exact results_row1 rfl _ _ w.heap.size 0 42 [.string ⟨#[]⟩, .string ⟨#[]⟩, .int .i64 0] _ rfl E1 Tryz.underlying42 rfl Tryz.sizeOrg
  · have HR : Hid (R = ⟨S.data.toList, H.data.toList, pU S.data.toList pt⟩) := Lib.hid (by rw [hR, if_pos rfl, hou])
    obtain ⟨p, hp⟩ : ∃ p, p = pU S.data.toList pt := ⟨_, rfl⟩
    rw [← hp] at HOF HR
    clear hR hou hp
    go_enter Tryz.func26, Tryz.ntmps26
    go_wp2_with fail
    rw [← hw0]
    clear hw0
    refine (HP0.out _).mono ?_
    rintro e w1 ⟨rfl, hb1⟩
    have HK1 := Lib.hid (kept_below (F := fun _ => False) hb1)
    have HK2 : Hid (Kept (fun _ => False) w0 (w1.alloc (.cells #[.string S, .string U, .string P, .string H, .int .i64 pt, .string T, .bool hq, .string Q, .bool hf, .string F] 31))) := Lib.hid (below_keep HK1.out (below_more (Below.refl _ _) _))
    have hzr := rw_kept HZ0.out HK2.out (fun x => x)
    have z0 := Rw.cell hzr (j := 0) rfl
    have z1 := Rw.cell hzr (j := 1) rfl
    have z2 := Rw.cell hzr (j := 2) rfl
    have y0 := Rw.free hzr 0
    have y1 := Rw.free hzr 1
    have y2 := Rw.free hzr 2
    clear hzr hb1
    go_wp2_with fail
    refine (HOF.out _).mono ?_
    rintro e w3 ⟨rfl, hb3⟩
    have HK3 := Lib.hid (below_keep HK2.out hb3)
    have hzr := rw_kept HZ0.out HK3.out (fun x => x)
    clear z0 z1 z2 y0 y1 y2
    have z0 := Rw.cell hzr (j := 0) rfl
    have z1 := Rw.cell hzr (j := 1) rfl
    have z2 := Rw.cell hzr (j := 2) rfl
    have y0 := Rw.free hzr 0
    have y1 := Rw.free hzr 1
    have y2 := Rw.free hzr 2
    clear hzr hb3
    go_wp2_with fail
    obtain ⟨E1, E2⟩ := new_end HW0.out HK3.out [.string S, .string H, .int .i64 p] rfl
    refine bodyPost_ret (v := .agg ([.string S, .string H, .int .i64 p] : List Value).toArray) ?_ rfl ⟨by rw [HR.out]; unfold orgV; rw [strL_data, strL_data], E2⟩
    exact results_row1 rfl _ _ w.heap.size 0 42 [.string S, .string H, .int .i64 p] _ rfl E1 Tryz.underlying42 rfl Tryz.sizeOrg

theorem sexprl_any (k : Int) (e1 e2 e3 e4 : ByteArray) (w : World) :
    Calls Tryz.prog 12 #[.agg #[.int .i64 k, .string e1, .string e2, .string e3, .string e4]] w fun e w' => e = .returned (.agg #[.int .i64 k, .string e1, .string e2, .string e3, .string e4]) ∧ Below w.heap.size w w' := by
  have hz := zero_cells Tryz.infoExp
  obtain ⟨r1, r2, r3⟩ := two_rows w [.int .i64 k, .string e1, .string e2, .string e3, .string e4] [.int .i64 k, .string e1, .string e2, .string e3, .string e4] 27 24
  have HX := Lib.hid r2
  have HB := Lib.hid r3
  clear r1 r2 r3
  go_enter Tryz.func12, Tryz.ntmps12
  go_wp2_with fail
  refine bodyPost_ret (v := .agg ([.int .i64 k, .string e1, .string e2, .string e3, .string e4] : List Value).toArray) ?_ rfl ⟨rfl, HB.out⟩
  exact results_row1 rfl _ _ (w.heap.size + 1) 0 24 [.int .i64 k, .string e1, .string e2, .string e3, .string e4] _ rfl HX.out Tryz.underlying24 rfl Tryz.sizeExp

theorem lst_snoc {xs : List (List UInt8)} {k : Nat} {x : List UInt8} (h : xs[k]? = some x) (a : AskM) (o : OrgM) (red : Int) (h0 : lstB (xs.take k) a o red = false) : lstB (xs.take (k + 1)) a o red = matB (srcP x) a o red := by
  unfold lstB at h0 ⊢
  rw [take_succ_of h, List.any_append, h0, Bool.false_or]
  simp

theorem lst_hit {xs : List (List UInt8)} {k : Nat} {x : List UInt8} (h : xs[k]? = some x) (a : AskM) (o : OrgM) (red : Int) (hm : matB (srcP x) a o red = true) : lstB xs a o red = true := by
  unfold lstB
  exact List.any_eq_true.2 ⟨x, List.mem_of_getElem? h, hm⟩

set_option maxRecDepth 100000 in
set_option maxHeartbeats 8000000 in
theorem slist_any {w : World} (v : Value) (xs : List (List UInt8)) (S U P H T Q F : ByteArray) (pt : Int) (hq hf : Bool) (S2 H2 : ByteArray) (p2 : Int) (red : Int) (hv : SliceAt w v (xs.map strL)) (hx : ∀ x ∈ xs, x.length ≤ 1048576) (hxl : xs.length ≤ 1048576) (hH : H.size ≤ 1048576) (hTT : T.size ≤ 1048576) (hT : Tab10 w) :
    Calls Tryz.prog 28 #[v, .agg #[.string S, .string U, .string P, .string H, .int .i64 pt, .string T, .bool hq, .string Q, .bool hf, .string F], .agg #[.string S2, .string H2, .int .i64 p2], .int .i64 red] w fun e w' => e = .returned (.bool (lstB xs ⟨S.data.toList, H.data.toList, pU S.data.toList pt, T.data.toList⟩ ⟨S2.data.toList, H2.data.toList, p2⟩ red)) ∧ Below w.heap.size w w' := by
  obtain ⟨R, hR⟩ : ∃ R, R = lstB xs ⟨S.data.toList, H.data.toList, pU S.data.toList pt, T.data.toList⟩ ⟨S2.data.toList, H2.data.toList, p2⟩ red := ⟨_, rfl⟩
  rw [← hR]
  have HR := Lib.hid hR
  have HT := Lib.hid hT
  have HX := Lib.hid hx
  obtain ⟨r1, r2, r3⟩ := two_rows w [.string S, .string U, .string P, .string H, .int .i64 pt, .string T, .bool hq, .string Q, .bool hf, .string F] [.string S2, .string H2, .int .i64 p2] 31 42
  obtain ⟨w2, hw2⟩ : ∃ w2, w2 = (w.alloc (.cells #[.string S, .string U, .string P, .string H, .int .i64 pt, .string T, .bool hq, .string Q, .bool hf, .string F] 31)).alloc (.cells #[.string S2, .string H2, .int .i64 p2] 42) := ⟨_, rfl⟩
  have HB2 : Hid (Below w.heap.size w w2) := Lib.hid (by rw [hw2]; exact r3)
  have HS0 : Hid (Below w.heap.size w w2 ∧ (w2).cell? ⟨w.heap.size, 0, none⟩ = some (.string S) ∧ (w2).cell? ⟨w.heap.size, 1, none⟩ = some (.string U) ∧ (w2).cell? ⟨w.heap.size, 2, none⟩ = some (.string P) ∧ (w2).cell? ⟨w.heap.size, 3, none⟩ = some (.string H) ∧ (w2).cell? ⟨w.heap.size, 4, none⟩ = some (.int .i64 pt) ∧ (w2).cell? ⟨w.heap.size, 5, none⟩ = some (.string T) ∧ (w2).cell? ⟨w.heap.size, 6, none⟩ = some (.bool hq) ∧ (w2).cell? ⟨w.heap.size, 7, none⟩ = some (.string Q) ∧ (w2).cell? ⟨w.heap.size, 8, none⟩ = some (.bool hf) ∧ (w2).cell? ⟨w.heap.size, 9, none⟩ = some (.string F) ∧ (w2).cell? ⟨w.heap.size + 1, 0, none⟩ = some (.string S2) ∧ (w2).cell? ⟨w.heap.size + 1, 1, none⟩ = some (.string H2) ∧ (w2).cell? ⟨w.heap.size + 1, 2, none⟩ = some (.int .i64 p2)) := Lib.hid (by
    rw [hw2]
    exact ⟨r3, Rw.cell r1 (j := 0) rfl, Rw.cell r1 (j := 1) rfl, Rw.cell r1 (j := 2) rfl, Rw.cell r1 (j := 3) rfl, Rw.cell r1 (j := 4) rfl, Rw.cell r1 (j := 5) rfl, Rw.cell r1 (j := 6) rfl, Rw.cell r1 (j := 7) rfl, Rw.cell r1 (j := 8) rfl, Rw.cell r1 (j := 9) rfl, Rw.cell r2 (j := 0) rfl, Rw.cell r2 (j := 1) rfl, Rw.cell r2 (j := 2) rfl⟩)
  have HST : Hid (∀ W W', (Below w.heap.size w W ∧ (W).cell? ⟨w.heap.size, 0, none⟩ = some (.string S) ∧ (W).cell? ⟨w.heap.size, 1, none⟩ = some (.string U) ∧ (W).cell? ⟨w.heap.size, 2, none⟩ = some (.string P) ∧ (W).cell? ⟨w.heap.size, 3, none⟩ = some (.string H) ∧ (W).cell? ⟨w.heap.size, 4, none⟩ = some (.int .i64 pt) ∧ (W).cell? ⟨w.heap.size, 5, none⟩ = some (.string T) ∧ (W).cell? ⟨w.heap.size, 6, none⟩ = some (.bool hq) ∧ (W).cell? ⟨w.heap.size, 7, none⟩ = some (.string Q) ∧ (W).cell? ⟨w.heap.size, 8, none⟩ = some (.bool hf) ∧ (W).cell? ⟨w.heap.size, 9, none⟩ = some (.string F) ∧ (W).cell? ⟨w.heap.size + 1, 0, none⟩ = some (.string S2) ∧ (W).cell? ⟨w.heap.size + 1, 1, none⟩ = some (.string H2) ∧ (W).cell? ⟨w.heap.size + 1, 2, none⟩ = some (.int .i64 p2)) → Below W.heap.size W W' → (Below w.heap.size w W' ∧ (W').cell? ⟨w.heap.size, 0, none⟩ = some (.string S) ∧ (W').cell? ⟨w.heap.size, 1, none⟩ = some (.string U) ∧ (W').cell? ⟨w.heap.size, 2, none⟩ = some (.string P) ∧ (W').cell? ⟨w.heap.size, 3, none⟩ = some (.string H) ∧ (W').cell? ⟨w.heap.size, 4, none⟩ = some (.int .i64 pt) ∧ (W').cell? ⟨w.heap.size, 5, none⟩ = some (.string T) ∧ (W').cell? ⟨w.heap.size, 6, none⟩ = some (.bool hq) ∧ (W').cell? ⟨w.heap.size, 7, none⟩ = some (.string Q) ∧ (W').cell? ⟨w.heap.size, 8, none⟩ = some (.bool hf) ∧ (W').cell? ⟨w.heap.size, 9, none⟩ = some (.string F) ∧ (W').cell? ⟨w.heap.size + 1, 0, none⟩ = some (.string S2) ∧ (W').cell? ⟨w.heap.size + 1, 1, none⟩ = some (.string H2) ∧ (W').cell? ⟨w.heap.size + 1, 2, none⟩ = some (.int .i64 p2))) := Lib.hid (fun W W' h hb => by
    obtain ⟨x0, a0, a1, a2, a3, a4, a5, a6, a7, a8, a9, b0, b1, b2⟩ := h
    exact ⟨below_then x0 hb, cell_stays a0 hb, cell_stays a1 hb, cell_stays a2 hb, cell_stays a3 hb, cell_stays a4 hb, cell_stays a5 hb, cell_stays a6 hb, cell_stays a7 hb, cell_stays a8 hb, cell_stays a9 hb, cell_stays b0 hb, cell_stays b1 hb, cell_stays b2 hb⟩)
  have HV := Lib.hid hv
  obtain ⟨va, vc, hv2⟩ := hv.len
  rw [List.length_map] at hv2
  subst hv2
  obtain ⟨n, hn⟩ : ∃ n, n = xs.length := ⟨_, rfl⟩
  have HNN := Lib.hid hn
  have HNB : Hid (n ≤ 1048576) := Lib.hid (by rw [hn]; exact hxl)
  rw [← hn] at HV ⊢
  clear hv hx hxl hT hR r1 r2 r3 hn
  go_enter Tryz.func28, Tryz.ntmps28
  go_wp2_with fail
  rw [← hw2]
  clear hw2
  go_loopw [13] (fun j wr => ∃ k : Nat, k ≤ n ∧ j = .int .i64 k ∧ Hid (lstB (xs.take k) ⟨S.data.toList, H.data.toList, pU S.data.toList pt, T.data.toList⟩ ⟨S2.data.toList, H2.data.toList, p2⟩ red = false) ∧ Hid (Below w.heap.size w wr ∧ (wr).cell? ⟨w.heap.size, 0, none⟩ = some (.string S) ∧ (wr).cell? ⟨w.heap.size, 1, none⟩ = some (.string U) ∧ (wr).cell? ⟨w.heap.size, 2, none⟩ = some (.string P) ∧ (wr).cell? ⟨w.heap.size, 3, none⟩ = some (.string H) ∧ (wr).cell? ⟨w.heap.size, 4, none⟩ = some (.int .i64 pt) ∧ (wr).cell? ⟨w.heap.size, 5, none⟩ = some (.string T) ∧ (wr).cell? ⟨w.heap.size, 6, none⟩ = some (.bool hq) ∧ (wr).cell? ⟨w.heap.size, 7, none⟩ = some (.string Q) ∧ (wr).cell? ⟨w.heap.size, 8, none⟩ = some (.bool hf) ∧ (wr).cell? ⟨w.heap.size, 9, none⟩ = some (.string F) ∧ (wr).cell? ⟨w.heap.size + 1, 0, none⟩ = some (.string S2) ∧ (wr).cell? ⟨w.heap.size + 1, 1, none⟩ = some (.string H2) ∧ (wr).cell? ⟨w.heap.size + 1, 2, none⟩ = some (.int .i64 p2))) (fun j _ => n - (intOf j).toNat)
  case atStart => exact ⟨0, Nat.zero_le _, rfl, Lib.hid rfl, HS0⟩
  case round =>
    obtain ⟨k, hk, rfl, HI, HS4⟩ := hrel
    obtain ⟨w4, hw4⟩ : ∃ w4 : World, w4 = wr := ⟨_, rfl⟩
    subst hw4
    by_cases hlt : k < n
    · obtain ⟨X, hX⟩ : ∃ X : ByteArray, xs[k]? = some X.data.toList := by
        obtain ⟨x, hx⟩ : ∃ x, xs[k]? = some x := ⟨_, List.getElem?_eq_getElem (by rw [← HNN.out]; exact hlt)⟩
        exact ⟨⟨x.toArray⟩, hx⟩
      obtain ⟨a, c, he, hcs⟩ := HV.out
      rcases hcs with hnil | ⟨b, off, hb, hat⟩
      · exact absurd (show xs.length = 0 by rw [List.map_eq_nil_iff.1 hnil]; rfl) (by have := HNN.out; omega)
      subst hb
      injection he with e1 e2 e3
      subst e1 e3
      clear e2
      have c0 : w4.cell? ⟨b, off + k, none⟩ = some (.string X) := cell_stays (hat k (.string X) (by rw [List.getElem?_map, hX]; show some (strL _) = _; rw [strL_data])) HS4.out.1
      have hki : (k : Int) < (n : Int) := by omega
      have hk6 : (k : Int) < 1048577 := by have := HNB.out; omega
      have hXs : X.size ≤ 1048576 := by have := HX.out _ (List.mem_of_getElem? hX); rw [size_data] at this; exact this
      have hS2 : (Below w.heap.size w w4.drew ∧ (w4.drew).cell? ⟨w.heap.size, 0, none⟩ = some (.string S) ∧ (w4.drew).cell? ⟨w.heap.size, 1, none⟩ = some (.string U) ∧ (w4.drew).cell? ⟨w.heap.size, 2, none⟩ = some (.string P) ∧ (w4.drew).cell? ⟨w.heap.size, 3, none⟩ = some (.string H) ∧ (w4.drew).cell? ⟨w.heap.size, 4, none⟩ = some (.int .i64 pt) ∧ (w4.drew).cell? ⟨w.heap.size, 5, none⟩ = some (.string T) ∧ (w4.drew).cell? ⟨w.heap.size, 6, none⟩ = some (.bool hq) ∧ (w4.drew).cell? ⟨w.heap.size, 7, none⟩ = some (.string Q) ∧ (w4.drew).cell? ⟨w.heap.size, 8, none⟩ = some (.bool hf) ∧ (w4.drew).cell? ⟨w.heap.size, 9, none⟩ = some (.string F) ∧ (w4.drew).cell? ⟨w.heap.size + 1, 0, none⟩ = some (.string S2) ∧ (w4.drew).cell? ⟨w.heap.size + 1, 1, none⟩ = some (.string H2) ∧ (w4.drew).cell? ⟨w.heap.size + 1, 2, none⟩ = some (.int .i64 p2)) := HST.out w4 w4.drew HS4.out (below_draws (Below.refl _ _) ⟨1, rfl⟩)
      have HS2 := Lib.hid hS2
      obtain ⟨g1, g2, g3, g4⟩ := src_size X.data.toList
      have g5 := src_port X.data.toList
      obtain ⟨E, hE⟩ : ∃ E, E = srcP X.data.toList := ⟨_, rfl⟩
      rw [← hE] at g1 g2 g3 g4 g5
      obtain ⟨B, hB⟩ : ∃ B, B = matB E ⟨S.data.toList, H.data.toList, pU S.data.toList pt, T.data.toList⟩ ⟨S2.data.toList, H2.data.toList, p2⟩ red := ⟨_, rfl⟩
      have HPS : Hid (∀ W, (Below w.heap.size w W ∧ (W).cell? ⟨w.heap.size, 0, none⟩ = some (.string S) ∧ (W).cell? ⟨w.heap.size, 1, none⟩ = some (.string U) ∧ (W).cell? ⟨w.heap.size, 2, none⟩ = some (.string P) ∧ (W).cell? ⟨w.heap.size, 3, none⟩ = some (.string H) ∧ (W).cell? ⟨w.heap.size, 4, none⟩ = some (.int .i64 pt) ∧ (W).cell? ⟨w.heap.size, 5, none⟩ = some (.string T) ∧ (W).cell? ⟨w.heap.size, 6, none⟩ = some (.bool hq) ∧ (W).cell? ⟨w.heap.size, 7, none⟩ = some (.string Q) ∧ (W).cell? ⟨w.heap.size, 8, none⟩ = some (.bool hf) ∧ (W).cell? ⟨w.heap.size, 9, none⟩ = some (.string F) ∧ (W).cell? ⟨w.heap.size + 1, 0, none⟩ = some (.string S2) ∧ (W).cell? ⟨w.heap.size + 1, 1, none⟩ = some (.string H2) ∧ (W).cell? ⟨w.heap.size + 1, 2, none⟩ = some (.int .i64 p2)) → Calls Tryz.prog 11 #[.string X] W fun e w' => e = .returned (.agg #[.int .i64 E.ek, .string ⟨E.esc.toArray⟩, .string ⟨E.eho.toArray⟩, .string ⟨E.epo.toArray⟩, .string ⟨E.epa.toArray⟩]) ∧ (Below w.heap.size w w' ∧ (w').cell? ⟨w.heap.size, 0, none⟩ = some (.string S) ∧ (w').cell? ⟨w.heap.size, 1, none⟩ = some (.string U) ∧ (w').cell? ⟨w.heap.size, 2, none⟩ = some (.string P) ∧ (w').cell? ⟨w.heap.size, 3, none⟩ = some (.string H) ∧ (w').cell? ⟨w.heap.size, 4, none⟩ = some (.int .i64 pt) ∧ (w').cell? ⟨w.heap.size, 5, none⟩ = some (.string T) ∧ (w').cell? ⟨w.heap.size, 6, none⟩ = some (.bool hq) ∧ (w').cell? ⟨w.heap.size, 7, none⟩ = some (.string Q) ∧ (w').cell? ⟨w.heap.size, 8, none⟩ = some (.bool hf) ∧ (w').cell? ⟨w.heap.size, 9, none⟩ = some (.string F) ∧ (w').cell? ⟨w.heap.size + 1, 0, none⟩ = some (.string S2) ∧ (w').cell? ⟨w.heap.size + 1, 1, none⟩ = some (.string H2) ∧ (w').cell? ⟨w.heap.size + 1, 2, none⟩ = some (.int .i64 p2))) := Lib.hid (fun W hW => (sparse_any X hXs W).mono (by rintro e w' ⟨rfl, hb⟩; rw [hE]; exact ⟨rfl, HST.out W w' hW hb⟩))
      have HMT : Hid (∀ W, (Below w.heap.size w W ∧ (W).cell? ⟨w.heap.size, 0, none⟩ = some (.string S) ∧ (W).cell? ⟨w.heap.size, 1, none⟩ = some (.string U) ∧ (W).cell? ⟨w.heap.size, 2, none⟩ = some (.string P) ∧ (W).cell? ⟨w.heap.size, 3, none⟩ = some (.string H) ∧ (W).cell? ⟨w.heap.size, 4, none⟩ = some (.int .i64 pt) ∧ (W).cell? ⟨w.heap.size, 5, none⟩ = some (.string T) ∧ (W).cell? ⟨w.heap.size, 6, none⟩ = some (.bool hq) ∧ (W).cell? ⟨w.heap.size, 7, none⟩ = some (.string Q) ∧ (W).cell? ⟨w.heap.size, 8, none⟩ = some (.bool hf) ∧ (W).cell? ⟨w.heap.size, 9, none⟩ = some (.string F) ∧ (W).cell? ⟨w.heap.size + 1, 0, none⟩ = some (.string S2) ∧ (W).cell? ⟨w.heap.size + 1, 1, none⟩ = some (.string H2) ∧ (W).cell? ⟨w.heap.size + 1, 2, none⟩ = some (.int .i64 p2)) → Calls Tryz.prog 25 #[.agg #[.int .i64 E.ek, .string ⟨E.esc.toArray⟩, .string ⟨E.eho.toArray⟩, .string ⟨E.epo.toArray⟩, .string ⟨E.epa.toArray⟩], .agg #[.string S, .string U, .string P, .string H, .int .i64 pt, .string T, .bool hq, .string Q, .bool hf, .string F], .agg #[.string S2, .string H2, .int .i64 p2], .int .i64 red] W fun e w' => e = .returned (.bool B) ∧ (Below w.heap.size w w' ∧ (w').cell? ⟨w.heap.size, 0, none⟩ = some (.string S) ∧ (w').cell? ⟨w.heap.size, 1, none⟩ = some (.string U) ∧ (w').cell? ⟨w.heap.size, 2, none⟩ = some (.string P) ∧ (w').cell? ⟨w.heap.size, 3, none⟩ = some (.string H) ∧ (w').cell? ⟨w.heap.size, 4, none⟩ = some (.int .i64 pt) ∧ (w').cell? ⟨w.heap.size, 5, none⟩ = some (.string T) ∧ (w').cell? ⟨w.heap.size, 6, none⟩ = some (.bool hq) ∧ (w').cell? ⟨w.heap.size, 7, none⟩ = some (.string Q) ∧ (w').cell? ⟨w.heap.size, 8, none⟩ = some (.bool hf) ∧ (w').cell? ⟨w.heap.size, 9, none⟩ = some (.string F) ∧ (w').cell? ⟨w.heap.size + 1, 0, none⟩ = some (.string S2) ∧ (w').cell? ⟨w.heap.size + 1, 1, none⟩ = some (.string H2) ∧ (w').cell? ⟨w.heap.size + 1, 2, none⟩ = some (.int .i64 p2))) := Lib.hid (fun W hW => (smat_any E.ek ⟨E.esc.toArray⟩ ⟨E.eho.toArray⟩ ⟨E.epo.toArray⟩ ⟨E.epa.toArray⟩ S U P H T Q F pt hq hf S2 H2 p2 red (by rw [mk_size]; rw [size_data] at g2; omega) (by rw [mk_size]; exact g5) (by rw [mk_size]; rw [size_data] at g4; omega) hH hTT W (tab10_below HT.out hW.1)).mono (by rintro e w' ⟨rfl, hb⟩; rw [hB]; exact ⟨rfl, HST.out W w' hW hb⟩))
      have HBX : Hid (matB (srcP X.data.toList) ⟨S.data.toList, H.data.toList, pU S.data.toList pt, T.data.toList⟩ ⟨S2.data.toList, H2.data.toList, p2⟩ red = B) := Lib.hid (by rw [hB, hE])
      have HXX := Lib.hid hX
      obtain ⟨Ek, hEk⟩ : ∃ Ek, Ek = E.ek := ⟨_, rfl⟩
      obtain ⟨E1, hE1⟩ : ∃ E1 : ByteArray, E1 = ⟨E.esc.toArray⟩ := ⟨_, rfl⟩
      obtain ⟨E2, hE2⟩ : ∃ E2 : ByteArray, E2 = ⟨E.eho.toArray⟩ := ⟨_, rfl⟩
      obtain ⟨E3, hE3⟩ : ∃ E3 : ByteArray, E3 = ⟨E.epo.toArray⟩ := ⟨_, rfl⟩
      obtain ⟨E4, hE4⟩ : ∃ E4 : ByteArray, E4 = ⟨E.epa.toArray⟩ := ⟨_, rfl⟩
      rw [← hEk, ← hE1, ← hE2, ← hE3, ← hE4] at HPS HMT
      clear hat hX hXs hE hB g1 g2 g3 g4 g5 hS2 hEk hE1 hE2 hE3 hE4
      cases B
      · have HI2 := Lib.hid ((lst_snoc HXX.out _ _ _ HI.out).trans HBX.out)
        go_wp2_with fail
        go_region_held3 (fun W => (Below w.heap.size w W ∧ (W).cell? ⟨w.heap.size, 0, none⟩ = some (.string S) ∧ (W).cell? ⟨w.heap.size, 1, none⟩ = some (.string U) ∧ (W).cell? ⟨w.heap.size, 2, none⟩ = some (.string P) ∧ (W).cell? ⟨w.heap.size, 3, none⟩ = some (.string H) ∧ (W).cell? ⟨w.heap.size, 4, none⟩ = some (.int .i64 pt) ∧ (W).cell? ⟨w.heap.size, 5, none⟩ = some (.string T) ∧ (W).cell? ⟨w.heap.size, 6, none⟩ = some (.bool hq) ∧ (W).cell? ⟨w.heap.size, 7, none⟩ = some (.string Q) ∧ (W).cell? ⟨w.heap.size, 8, none⟩ = some (.bool hf) ∧ (W).cell? ⟨w.heap.size, 9, none⟩ = some (.string F) ∧ (W).cell? ⟨w.heap.size + 1, 0, none⟩ = some (.string S2) ∧ (W).cell? ⟨w.heap.size + 1, 1, none⟩ = some (.string H2) ∧ (W).cell? ⟨w.heap.size + 1, 2, none⟩ = some (.int .i64 p2))) (first | exact HS2.out | assumption)
          (first
            | (go_at_call 11; with_reducible refine (HPS.out _ (by first | exact HS2.out | assumption)).mono ?_; rintro e w7 ⟨rfl, hS7⟩)
            | (go_at_call 25; with_reducible refine (HMT.out _ (by first | exact HS2.out | assumption)).mono ?_; rintro e w7 ⟨rfl, hS7⟩))
        have HB7 := Lib.hid hS7
        clear hS7
        go_wp2_with fail
        go_roundw
        case rel => exact ⟨k + 1, by omega, by go_num, HI2, HB7⟩
        case measure => simp [intOf]; omega
      · have HQ : Hid (R = true) := Lib.hid (HR.out.trans (lst_hit HXX.out _ _ _ HBX.out))
        go_wp2_with fail
        go_region_held3 (fun W => (Below w.heap.size w W ∧ (W).cell? ⟨w.heap.size, 0, none⟩ = some (.string S) ∧ (W).cell? ⟨w.heap.size, 1, none⟩ = some (.string U) ∧ (W).cell? ⟨w.heap.size, 2, none⟩ = some (.string P) ∧ (W).cell? ⟨w.heap.size, 3, none⟩ = some (.string H) ∧ (W).cell? ⟨w.heap.size, 4, none⟩ = some (.int .i64 pt) ∧ (W).cell? ⟨w.heap.size, 5, none⟩ = some (.string T) ∧ (W).cell? ⟨w.heap.size, 6, none⟩ = some (.bool hq) ∧ (W).cell? ⟨w.heap.size, 7, none⟩ = some (.string Q) ∧ (W).cell? ⟨w.heap.size, 8, none⟩ = some (.bool hf) ∧ (W).cell? ⟨w.heap.size, 9, none⟩ = some (.string F) ∧ (W).cell? ⟨w.heap.size + 1, 0, none⟩ = some (.string S2) ∧ (W).cell? ⟨w.heap.size + 1, 1, none⟩ = some (.string H2) ∧ (W).cell? ⟨w.heap.size + 1, 2, none⟩ = some (.int .i64 p2))) (first | exact HS2.out | assumption)
          (first
            | (go_at_call 11; with_reducible refine (HPS.out _ (by first | exact HS2.out | assumption)).mono ?_; rintro e w7 ⟨rfl, hS7⟩)
            | (go_at_call 25; with_reducible refine (HMT.out _ (by first | exact HS2.out | assumption)).mono ?_; rintro e w7 ⟨rfl, hS7⟩))
        have HB7 := Lib.hid hS7.1
        clear hS7
        go_wp2_with fail
        go_ret
        exact ⟨by rw [HQ.out] <;> rfl, HB7.out⟩
    · have HQ : Hid (R = false) := Lib.hid (by
        have h1 := HI.out
        rw [List.take_of_length_le (by rw [← HNN.out]; omega)] at h1
        exact HR.out.trans h1)
      have hge : ¬ (k : Int) < (n : Int) := by omega
      go_wp2_with fail
      go_ret
      exact ⟨by rw [HQ.out] <;> rfl, HS4.out.1⟩

theorem expEq (k k2 : Int) (a b c d a2 b2 c2 d2 : ByteArray) (w : World) : (binOp .eql 24 (.agg #[.int .i64 k, .string a, .string b, .string c, .string d]) (.agg #[.int .i64 k2, .string a2, .string b2, .string c2, .string d2])).run Tryz.prog w = .ok (.bool (decide (k = k2) && (decide (a.data.toList = a2.data.toList) && (decide (b.data.toList = b2.data.toList) && (decide (c.data.toList = c2.data.toList) && decide (d.data.toList = d2.data.toList)))))) w := by
  have e : ∀ x y : ByteArray, (x.toList == y.toList) = decide (x.data.toList = y.data.toList) := fun x y => by rw [ByteArray.toList_eq, ByteArray.toList_eq]; rw [Bool.eq_iff_iff]; simp
  have e1 := e a a2
  have e2 := e b b2
  have e3 := e c c2
  have e4 := e d d2
  have e5 : (k == k2) = decide (k = k2) := by rw [Bool.eq_iff_iff]; simp
  obtain ⟨b1, h1⟩ : ∃ b1, b1 = decide (a.data.toList = a2.data.toList) := ⟨_, rfl⟩
  obtain ⟨b2', h2⟩ : ∃ b2', b2' = decide (b.data.toList = b2.data.toList) := ⟨_, rfl⟩
  obtain ⟨b3, h3⟩ : ∃ b3, b3 = decide (c.data.toList = c2.data.toList) := ⟨_, rfl⟩
  obtain ⟨b4, h4⟩ : ∃ b4, b4 = decide (d.data.toList = d2.data.toList) := ⟨_, rfl⟩
  obtain ⟨b5, h5⟩ : ∃ b5, b5 = decide (k = k2) := ⟨_, rfl⟩
  rw [← h1] at e1 ⊢
  rw [← h2] at e2 ⊢
  rw [← h3] at e3 ⊢
  rw [← h4] at e4 ⊢
  rw [← h5] at e5 ⊢
  clear h1 h2 h3 h4 h5 e
  rw [run_eql_struct, run_equalIn_agg w 9999 _ _ _ (by kernel_rfl) (by kernel_rfl)]
  simp only [Program.fieldsOf, Tryz.underlying24]
  cases b1 <;> cases b2' <;> cases b3 <;> cases b4 <;> cases b5 <;> simp [go_sem, Op.eqFields, part, e1, e2, e3, e4, e5, Tryz.underlying9, Tryz.underlying3]

theorem Tryz.p10Type15 : (Tryz.prog.globals[3]?).map (·.type) = some 146 := by kernel_rfl

theorem Tryz.p10Cells15 : Tryz.prog.cellsOf 146 = 20 := by kernel_rfl

theorem Tryz.p10One15 : Tryz.prog.cellsOf 95 = 1 := by kernel_rfl

theorem Tryz.p10Named15 : Tryz.prog.globalNamed "internal/strconv.uint64pow10" = some 3 := by kernel_rfl

theorem tab10_of15 {W : World} (h : laidMetH Tryz.prog [("math/bits.deBruijn32tab", Rows.laid_math_bits_deBruijn32tab), ("math/bits.deBruijn64tab", Rows.laid_math_bits_deBruijn64tab), ("internal/strconv.uint64pow10", Rows.laid_internal_strconv_uint64pow10), ("unicode/utf8.acceptRanges", Rows.laid_unicode_utf8_acceptRanges), ("unicode/utf8.first", Rows.laid_unicode_utf8_first)] W) : Tab10 W := by
  have h2 : laidMet Tryz.prog [("math/bits.deBruijn32tab", Rows.laid_math_bits_deBruijn32tab), ("math/bits.deBruijn64tab", Rows.laid_math_bits_deBruijn64tab), ("internal/strconv.uint64pow10", Rows.laid_internal_strconv_uint64pow10), ("unicode/utf8.acceptRanges", Rows.laid_unicode_utf8_acceptRanges), ("unicode/utf8.first", Rows.laid_unicode_utf8_first)] W := h
  exact Lib.tabIs_of_head (rest := [("unicode/utf8.acceptRanges", Rows.laid_unicode_utf8_acceptRanges), ("unicode/utf8.first", Rows.laid_unicode_utf8_first)]) Tryz.p10Named15 Tryz.p10Type15 Tryz.underlying146 Tryz.underlying95 Tryz.p10One15 Tryz.p10Cells15 (laidMet.tail (laidMet.tail h2))

def sAw : List UInt8 := [104, 116, 116, 112, 115, 58, 47, 47, 42, 46, 97, 46, 98, 58, 42, 47, 99, 47]

def uAw : List UInt8 := [104, 116, 116, 112, 115, 58, 47, 47, 120, 46, 97, 46, 98, 58, 57, 47, 99, 47, 100]

def vAw : List UInt8 := [104, 116, 116, 112, 115, 58, 47, 47, 97, 46, 98, 47, 99, 47, 100]

theorem aw_src : srcP sAw = ⟨4, [104, 116, 116, 112, 115], [42, 46, 97, 46, 98], [42], [47, 99, 47]⟩ := by kernel_rfl

theorem aw_u : bodyP uAw = some ⟨[104, 116, 116, 112, 115], [], [], [120, 46, 97, 46, 98], 9, [47, 99, 47, 100], false, [], false, []⟩ := by kernel_rfl

theorem aw_v : bodyP vAw = some ⟨[104, 116, 116, 112, 115], [], [], [97, 46, 98], -1, [47, 99, 47, 100], false, [], false, []⟩ := by kernel_rfl

theorem aw_m1 : matB ⟨4, [104, 116, 116, 112, 115], [42, 46, 97, 46, 98], [42], [47, 99, 47]⟩ ⟨[104, 116, 116, 112, 115], [120, 46, 97, 46, 98], 9, [47, 99, 47, 100]⟩ ⟨[], [], 0⟩ 0 = true := by kernel_rfl

theorem aw_m2 : matB ⟨4, [104, 116, 116, 112, 115], [42, 46, 97, 46, 98], [42], [47, 99, 47]⟩ ⟨[104, 116, 116, 112, 115], [97, 46, 98], 443, [47, 99, 47, 100]⟩ ⟨[], [], 0⟩ 0 = false := by kernel_rfl

set_option maxHeartbeats 4000000 in
theorem sawake_any (w : World) (hT : Tab10 w) : Calls Tryz.prog 10 #[] w fun e w' => e = .returned (.bool true) ∧ Below w.heap.size w w' := by
  have HT := Lib.hid hT
  have HP : Hid (∀ W, Calls Tryz.prog 11 #[.string ⟨#[104, 116, 116, 112, 115, 58, 47, 47, 42, 46, 97, 46, 98, 58, 42, 47, 99, 47]⟩] W fun e w' => e = .returned (.agg #[.int .i64 4, .string ⟨#[104, 116, 116, 112, 115]⟩, .string ⟨#[42, 46, 97, 46, 98]⟩, .string ⟨#[42]⟩, .string ⟨#[47, 99, 47]⟩]) ∧ Below W.heap.size W w') := Lib.hid (fun W => (sparse_any ⟨sAw.toArray⟩ (by decide) W).mono (by
    rintro e w' ⟨rfl, hb⟩
    refine ⟨?_, hb⟩
    show Ending.returned (expV (srcP sAw)) = _
    rw [aw_src]
    rfl))
  have HU : Hid (∀ W, Calls Tryz.prog 14 #[.string ⟨#[104, 116, 116, 112, 115, 58, 47, 47, 120, 46, 97, 46, 98, 58, 57, 47, 99, 47, 100]⟩] W fun e w' => e = .returned (.tuple #[.agg #[.string ⟨#[104, 116, 116, 112, 115]⟩, .string ⟨#[]⟩, .string ⟨#[]⟩, .string ⟨#[120, 46, 97, 46, 98]⟩, .int .i64 9, .string ⟨#[47, 99, 47, 100]⟩, .bool false, .string ⟨#[]⟩, .bool false, .string ⟨#[]⟩], .bool true]) ∧ Below W.heap.size W w') := Lib.hid (fun W => (sparsed_any ⟨uAw.toArray⟩ (by decide) W).mono (by
    rintro e w' ⟨rfl, hb⟩
    refine ⟨?_, hb⟩
    show Ending.returned (.tuple #[urlV (prsU uAw), .bool (prsB uAw)]) = _
    unfold prsU prsB
    rw [url_plain (by unfold plainL; decide) (by decide), aw_u]
    rfl))
  have HV : Hid (∀ W, Calls Tryz.prog 14 #[.string ⟨#[104, 116, 116, 112, 115, 58, 47, 47, 97, 46, 98, 47, 99, 47, 100]⟩] W fun e w' => e = .returned (.tuple #[.agg #[.string ⟨#[104, 116, 116, 112, 115]⟩, .string ⟨#[]⟩, .string ⟨#[]⟩, .string ⟨#[97, 46, 98]⟩, .int .i64 (-1), .string ⟨#[47, 99, 47, 100]⟩, .bool false, .string ⟨#[]⟩, .bool false, .string ⟨#[]⟩], .bool true]) ∧ Below W.heap.size W w') := Lib.hid (fun W => (sparsed_any ⟨vAw.toArray⟩ (by decide) W).mono (by
    rintro e w' ⟨rfl, hb⟩
    refine ⟨?_, hb⟩
    show Ending.returned (.tuple #[urlV (prsU vAw), .bool (prsB vAw)]) = _
    unfold prsU prsB
    rw [url_plain (by unfold plainL; decide) (by decide), aw_v]
    rfl))
  have HM1 : Hid (∀ W, Tab10 W → Calls Tryz.prog 25 #[.agg #[.int .i64 4, .string ⟨#[104, 116, 116, 112, 115]⟩, .string ⟨#[42, 46, 97, 46, 98]⟩, .string ⟨#[42]⟩, .string ⟨#[47, 99, 47]⟩], .agg #[.string ⟨#[104, 116, 116, 112, 115]⟩, .string ⟨#[]⟩, .string ⟨#[]⟩, .string ⟨#[120, 46, 97, 46, 98]⟩, .int .i64 9, .string ⟨#[47, 99, 47, 100]⟩, .bool false, .string ⟨#[]⟩, .bool false, .string ⟨#[]⟩], .agg #[.string ⟨#[]⟩, .string ⟨#[]⟩, .int .i64 0], .int .i64 0] W fun e w' => e = .returned (.bool true) ∧ Below W.heap.size W w') := Lib.hid (fun W hW => (smat_any 4 ⟨#[104, 116, 116, 112, 115]⟩ ⟨#[42, 46, 97, 46, 98]⟩ ⟨#[42]⟩ ⟨#[47, 99, 47]⟩ ⟨#[104, 116, 116, 112, 115]⟩ ⟨#[]⟩ ⟨#[]⟩ ⟨#[120, 46, 97, 46, 98]⟩ ⟨#[47, 99, 47, 100]⟩ ⟨#[]⟩ ⟨#[]⟩ 9 false false ⟨#[]⟩ ⟨#[]⟩ 0 0 (by decide) (by decide) (by decide) (by decide) (by decide) W hW).mono (by
    rintro e w' ⟨rfl, hb⟩
    exact ⟨ret_bool aw_m1, hb⟩))
  have HM2 : Hid (∀ W, Tab10 W → Calls Tryz.prog 25 #[.agg #[.int .i64 4, .string ⟨#[104, 116, 116, 112, 115]⟩, .string ⟨#[42, 46, 97, 46, 98]⟩, .string ⟨#[42]⟩, .string ⟨#[47, 99, 47]⟩], .agg #[.string ⟨#[104, 116, 116, 112, 115]⟩, .string ⟨#[]⟩, .string ⟨#[]⟩, .string ⟨#[97, 46, 98]⟩, .int .i64 (-1), .string ⟨#[47, 99, 47, 100]⟩, .bool false, .string ⟨#[]⟩, .bool false, .string ⟨#[]⟩], .agg #[.string ⟨#[]⟩, .string ⟨#[]⟩, .int .i64 0], .int .i64 0] W fun e w' => e = .returned (.bool false) ∧ Below W.heap.size W w') := Lib.hid (fun W hW => (smat_any 4 ⟨#[104, 116, 116, 112, 115]⟩ ⟨#[42, 46, 97, 46, 98]⟩ ⟨#[42]⟩ ⟨#[47, 99, 47]⟩ ⟨#[104, 116, 116, 112, 115]⟩ ⟨#[]⟩ ⟨#[]⟩ ⟨#[97, 46, 98]⟩ ⟨#[47, 99, 47, 100]⟩ ⟨#[]⟩ ⟨#[]⟩ (-1) false false ⟨#[]⟩ ⟨#[]⟩ 0 0 (by decide) (by decide) (by decide) (by decide) (by decide) W hW).mono (by
    rintro e w' ⟨rfl, hb⟩
    exact ⟨ret_bool aw_m2, hb⟩))
  have EQ : ∀ W, (binOp .eql 24 (.agg #[.int .i64 4, .string ⟨#[104, 116, 116, 112, 115]⟩, .string ⟨#[42, 46, 97, 46, 98]⟩, .string ⟨#[42]⟩, .string ⟨#[47, 99, 47]⟩]) (.agg #[.int .i64 4, .string ⟨#[104, 116, 116, 112, 115]⟩, .string ⟨#[42, 46, 97, 46, 98]⟩, .string ⟨#[42]⟩, .string ⟨#[47, 99, 47]⟩])).run Tryz.prog W = .ok (.bool true) W := fun W => by rw [expEq]; simp
  clear hT
  have HB0 := Lib.hid (Below.refl w.heap.size w)
  go_enter Tryz.func10, Tryz.ntmps10
  go_wp2_with fail
  refine (HP.out _).mono ?_
  rintro e w1 ⟨rfl, hb⟩
  have HB_1 := Lib.hid (below_then HB0.out hb)
  clear hb
  have HBv_1b : Hid (Below w.heap.size w (w1.alloc (.cells #[.int .i64 4, .string ⟨#[104, 116, 116, 112, 115]⟩, .string ⟨#[42, 46, 97, 46, 98]⟩, .string ⟨#[42]⟩, .string ⟨#[47, 99, 47]⟩] 24))) := Lib.hid (below_more HB_1.out _)
  have HRve_1b : Hid (Rw (w1.alloc (.cells #[.int .i64 4, .string ⟨#[104, 116, 116, 112, 115]⟩, .string ⟨#[42, 46, 97, 46, 98]⟩, .string ⟨#[42]⟩, .string ⟨#[47, 99, 47]⟩] 24)) 0 w1.heap.size 24 [.int .i64 4, .string ⟨#[104, 116, 116, 112, 115]⟩, .string ⟨#[42, 46, 97, 46, 98]⟩, .string ⟨#[42]⟩, .string ⟨#[47, 99, 47]⟩]) := Lib.hid (Rw.alloc w1 _ _ (Nat.zero_le _))
  have ce0_1 := Rw.cell HRve_1b.out (j := 0) rfl
  have ce1_1 := Rw.cell HRve_1b.out (j := 1) rfl
  have ce2_1 := Rw.cell HRve_1b.out (j := 2) rfl
  have ce3_1 := Rw.cell HRve_1b.out (j := 3) rfl
  have ce4_1 := Rw.cell HRve_1b.out (j := 4) rfl
  go_wp2_with fail
  refine (HU.out _).mono ?_
  rintro e w2 ⟨rfl, hb⟩
  have HB_2 := Lib.hid (below_then HBv_1b.out hb)
  have HRe_2 := Lib.hid (Rw.below HRve_1b.out hb)
  clear hb ce0_1 ce1_1 ce2_1 ce3_1 ce4_1
  have HBv_2b : Hid (Below w.heap.size w (w2.alloc (.cells #[.string ⟨#[104, 116, 116, 112, 115]⟩, .string ⟨#[]⟩, .string ⟨#[]⟩, .string ⟨#[120, 46, 97, 46, 98]⟩, .int .i64 9, .string ⟨#[47, 99, 47, 100]⟩, .bool false, .string ⟨#[]⟩, .bool false, .string ⟨#[]⟩] 31))) := Lib.hid (below_more HB_2.out _)
  have HRve_2b : Hid (Rw (w2.alloc (.cells #[.string ⟨#[104, 116, 116, 112, 115]⟩, .string ⟨#[]⟩, .string ⟨#[]⟩, .string ⟨#[120, 46, 97, 46, 98]⟩, .int .i64 9, .string ⟨#[47, 99, 47, 100]⟩, .bool false, .string ⟨#[]⟩, .bool false, .string ⟨#[]⟩] 31)) 0 w1.heap.size 24 [.int .i64 4, .string ⟨#[104, 116, 116, 112, 115]⟩, .string ⟨#[42, 46, 97, 46, 98]⟩, .string ⟨#[42]⟩, .string ⟨#[47, 99, 47]⟩]) := Lib.hid (Rw.more HRe_2.out _)
  have HRvu_2b : Hid (Rw (w2.alloc (.cells #[.string ⟨#[104, 116, 116, 112, 115]⟩, .string ⟨#[]⟩, .string ⟨#[]⟩, .string ⟨#[120, 46, 97, 46, 98]⟩, .int .i64 9, .string ⟨#[47, 99, 47, 100]⟩, .bool false, .string ⟨#[]⟩, .bool false, .string ⟨#[]⟩] 31)) 0 w2.heap.size 31 [.string ⟨#[104, 116, 116, 112, 115]⟩, .string ⟨#[]⟩, .string ⟨#[]⟩, .string ⟨#[120, 46, 97, 46, 98]⟩, .int .i64 9, .string ⟨#[47, 99, 47, 100]⟩, .bool false, .string ⟨#[]⟩, .bool false, .string ⟨#[]⟩]) := Lib.hid (Rw.alloc w2 _ _ (Nat.zero_le _))
  have ce0_2 := Rw.cell HRve_2b.out (j := 0) rfl
  have ce1_2 := Rw.cell HRve_2b.out (j := 1) rfl
  have ce2_2 := Rw.cell HRve_2b.out (j := 2) rfl
  have ce3_2 := Rw.cell HRve_2b.out (j := 3) rfl
  have ce4_2 := Rw.cell HRve_2b.out (j := 4) rfl
  have cu0_2 := Rw.cell HRvu_2b.out (j := 0) rfl
  have cu1_2 := Rw.cell HRvu_2b.out (j := 1) rfl
  have cu2_2 := Rw.cell HRvu_2b.out (j := 2) rfl
  have cu3_2 := Rw.cell HRvu_2b.out (j := 3) rfl
  have cu4_2 := Rw.cell HRvu_2b.out (j := 4) rfl
  have cu5_2 := Rw.cell HRvu_2b.out (j := 5) rfl
  have cu6_2 := Rw.cell HRvu_2b.out (j := 6) rfl
  have cu7_2 := Rw.cell HRvu_2b.out (j := 7) rfl
  have cu8_2 := Rw.cell HRvu_2b.out (j := 8) rfl
  have cu9_2 := Rw.cell HRvu_2b.out (j := 9) rfl
  go_wp2_with fail
  refine (HV.out _).mono ?_
  rintro e w3 ⟨rfl, hb⟩
  have HB_3 := Lib.hid (below_then HBv_2b.out hb)
  have HRe_3 := Lib.hid (Rw.below HRve_2b.out hb)
  have HRu_3 := Lib.hid (Rw.below HRvu_2b.out hb)
  clear hb ce0_2 ce1_2 ce2_2 ce3_2 ce4_2 cu0_2 cu1_2 cu2_2 cu3_2 cu4_2 cu5_2 cu6_2 cu7_2 cu8_2 cu9_2
  have HBv_3b : Hid (Below w.heap.size w (w3.alloc (.cells #[.string ⟨#[104, 116, 116, 112, 115]⟩, .string ⟨#[]⟩, .string ⟨#[]⟩, .string ⟨#[97, 46, 98]⟩, .int .i64 (-1), .string ⟨#[47, 99, 47, 100]⟩, .bool false, .string ⟨#[]⟩, .bool false, .string ⟨#[]⟩] 31))) := Lib.hid (below_more HB_3.out _)
  have HRve_3b : Hid (Rw (w3.alloc (.cells #[.string ⟨#[104, 116, 116, 112, 115]⟩, .string ⟨#[]⟩, .string ⟨#[]⟩, .string ⟨#[97, 46, 98]⟩, .int .i64 (-1), .string ⟨#[47, 99, 47, 100]⟩, .bool false, .string ⟨#[]⟩, .bool false, .string ⟨#[]⟩] 31)) 0 w1.heap.size 24 [.int .i64 4, .string ⟨#[104, 116, 116, 112, 115]⟩, .string ⟨#[42, 46, 97, 46, 98]⟩, .string ⟨#[42]⟩, .string ⟨#[47, 99, 47]⟩]) := Lib.hid (Rw.more HRe_3.out _)
  have HRvu_3b : Hid (Rw (w3.alloc (.cells #[.string ⟨#[104, 116, 116, 112, 115]⟩, .string ⟨#[]⟩, .string ⟨#[]⟩, .string ⟨#[97, 46, 98]⟩, .int .i64 (-1), .string ⟨#[47, 99, 47, 100]⟩, .bool false, .string ⟨#[]⟩, .bool false, .string ⟨#[]⟩] 31)) 0 w2.heap.size 31 [.string ⟨#[104, 116, 116, 112, 115]⟩, .string ⟨#[]⟩, .string ⟨#[]⟩, .string ⟨#[120, 46, 97, 46, 98]⟩, .int .i64 9, .string ⟨#[47, 99, 47, 100]⟩, .bool false, .string ⟨#[]⟩, .bool false, .string ⟨#[]⟩]) := Lib.hid (Rw.more HRu_3.out _)
  have HRvv_3b : Hid (Rw (w3.alloc (.cells #[.string ⟨#[104, 116, 116, 112, 115]⟩, .string ⟨#[]⟩, .string ⟨#[]⟩, .string ⟨#[97, 46, 98]⟩, .int .i64 (-1), .string ⟨#[47, 99, 47, 100]⟩, .bool false, .string ⟨#[]⟩, .bool false, .string ⟨#[]⟩] 31)) 0 w3.heap.size 31 [.string ⟨#[104, 116, 116, 112, 115]⟩, .string ⟨#[]⟩, .string ⟨#[]⟩, .string ⟨#[97, 46, 98]⟩, .int .i64 (-1), .string ⟨#[47, 99, 47, 100]⟩, .bool false, .string ⟨#[]⟩, .bool false, .string ⟨#[]⟩]) := Lib.hid (Rw.alloc w3 _ _ (Nat.zero_le _))
  have ce0_3 := Rw.cell HRve_3b.out (j := 0) rfl
  have ce1_3 := Rw.cell HRve_3b.out (j := 1) rfl
  have ce2_3 := Rw.cell HRve_3b.out (j := 2) rfl
  have ce3_3 := Rw.cell HRve_3b.out (j := 3) rfl
  have ce4_3 := Rw.cell HRve_3b.out (j := 4) rfl
  have cu0_3 := Rw.cell HRvu_3b.out (j := 0) rfl
  have cu1_3 := Rw.cell HRvu_3b.out (j := 1) rfl
  have cu2_3 := Rw.cell HRvu_3b.out (j := 2) rfl
  have cu3_3 := Rw.cell HRvu_3b.out (j := 3) rfl
  have cu4_3 := Rw.cell HRvu_3b.out (j := 4) rfl
  have cu5_3 := Rw.cell HRvu_3b.out (j := 5) rfl
  have cu6_3 := Rw.cell HRvu_3b.out (j := 6) rfl
  have cu7_3 := Rw.cell HRvu_3b.out (j := 7) rfl
  have cu8_3 := Rw.cell HRvu_3b.out (j := 8) rfl
  have cu9_3 := Rw.cell HRvu_3b.out (j := 9) rfl
  have cv0_3 := Rw.cell HRvv_3b.out (j := 0) rfl
  have cv1_3 := Rw.cell HRvv_3b.out (j := 1) rfl
  have cv2_3 := Rw.cell HRvv_3b.out (j := 2) rfl
  have cv3_3 := Rw.cell HRvv_3b.out (j := 3) rfl
  have cv4_3 := Rw.cell HRvv_3b.out (j := 4) rfl
  have cv5_3 := Rw.cell HRvv_3b.out (j := 5) rfl
  have cv6_3 := Rw.cell HRvv_3b.out (j := 6) rfl
  have cv7_3 := Rw.cell HRvv_3b.out (j := 7) rfl
  have cv8_3 := Rw.cell HRvv_3b.out (j := 8) rfl
  have cv9_3 := Rw.cell HRvv_3b.out (j := 9) rfl
  go_wp2_with fail
  refine (HM1.out _ (tab10_below HT.out HBv_3b.out)).mono ?_
  rintro e w4 ⟨rfl, hb⟩
  have HB_4 := Lib.hid (below_then HBv_3b.out hb)
  have HRe_4 := Lib.hid (Rw.below HRve_3b.out hb)
  have HRu_4 := Lib.hid (Rw.below HRvu_3b.out hb)
  have HRv_4 := Lib.hid (Rw.below HRvv_3b.out hb)
  clear hb ce0_3 ce1_3 ce2_3 ce3_3 ce4_3 cu0_3 cu1_3 cu2_3 cu3_3 cu4_3 cu5_3 cu6_3 cu7_3 cu8_3 cu9_3 cv0_3 cv1_3 cv2_3 cv3_3 cv4_3 cv5_3 cv6_3 cv7_3 cv8_3 cv9_3
  have ce0_4 := Rw.cell HRe_4.out (j := 0) rfl
  have ce1_4 := Rw.cell HRe_4.out (j := 1) rfl
  have ce2_4 := Rw.cell HRe_4.out (j := 2) rfl
  have ce3_4 := Rw.cell HRe_4.out (j := 3) rfl
  have ce4_4 := Rw.cell HRe_4.out (j := 4) rfl
  have cu0_4 := Rw.cell HRu_4.out (j := 0) rfl
  have cu1_4 := Rw.cell HRu_4.out (j := 1) rfl
  have cu2_4 := Rw.cell HRu_4.out (j := 2) rfl
  have cu3_4 := Rw.cell HRu_4.out (j := 3) rfl
  have cu4_4 := Rw.cell HRu_4.out (j := 4) rfl
  have cu5_4 := Rw.cell HRu_4.out (j := 5) rfl
  have cu6_4 := Rw.cell HRu_4.out (j := 6) rfl
  have cu7_4 := Rw.cell HRu_4.out (j := 7) rfl
  have cu8_4 := Rw.cell HRu_4.out (j := 8) rfl
  have cu9_4 := Rw.cell HRu_4.out (j := 9) rfl
  have cv0_4 := Rw.cell HRv_4.out (j := 0) rfl
  have cv1_4 := Rw.cell HRv_4.out (j := 1) rfl
  have cv2_4 := Rw.cell HRv_4.out (j := 2) rfl
  have cv3_4 := Rw.cell HRv_4.out (j := 3) rfl
  have cv4_4 := Rw.cell HRv_4.out (j := 4) rfl
  have cv5_4 := Rw.cell HRv_4.out (j := 5) rfl
  have cv6_4 := Rw.cell HRv_4.out (j := 6) rfl
  have cv7_4 := Rw.cell HRv_4.out (j := 7) rfl
  have cv8_4 := Rw.cell HRv_4.out (j := 8) rfl
  have cv9_4 := Rw.cell HRv_4.out (j := 9) rfl
  go_wp2_with fail
  refine (HM2.out _ (tab10_below HT.out HB_4.out)).mono ?_
  rintro e w5 ⟨rfl, hb⟩
  have HB_5 := Lib.hid (below_then HB_4.out hb)
  have HRe_5 := Lib.hid (Rw.below HRe_4.out hb)
  have HRu_5 := Lib.hid (Rw.below HRu_4.out hb)
  have HRv_5 := Lib.hid (Rw.below HRv_4.out hb)
  clear hb ce0_4 ce1_4 ce2_4 ce3_4 ce4_4 cu0_4 cu1_4 cu2_4 cu3_4 cu4_4 cu5_4 cu6_4 cu7_4 cu8_4 cu9_4 cv0_4 cv1_4 cv2_4 cv3_4 cv4_4 cv5_4 cv6_4 cv7_4 cv8_4 cv9_4
  have ce0_5 := Rw.cell HRe_5.out (j := 0) rfl
  have ce1_5 := Rw.cell HRe_5.out (j := 1) rfl
  have ce2_5 := Rw.cell HRe_5.out (j := 2) rfl
  have ce3_5 := Rw.cell HRe_5.out (j := 3) rfl
  have ce4_5 := Rw.cell HRe_5.out (j := 4) rfl
  have cu0_5 := Rw.cell HRu_5.out (j := 0) rfl
  have cu1_5 := Rw.cell HRu_5.out (j := 1) rfl
  have cu2_5 := Rw.cell HRu_5.out (j := 2) rfl
  have cu3_5 := Rw.cell HRu_5.out (j := 3) rfl
  have cu4_5 := Rw.cell HRu_5.out (j := 4) rfl
  have cu5_5 := Rw.cell HRu_5.out (j := 5) rfl
  have cu6_5 := Rw.cell HRu_5.out (j := 6) rfl
  have cu7_5 := Rw.cell HRu_5.out (j := 7) rfl
  have cu8_5 := Rw.cell HRu_5.out (j := 8) rfl
  have cu9_5 := Rw.cell HRu_5.out (j := 9) rfl
  have cv0_5 := Rw.cell HRv_5.out (j := 0) rfl
  have cv1_5 := Rw.cell HRv_5.out (j := 1) rfl
  have cv2_5 := Rw.cell HRv_5.out (j := 2) rfl
  have cv3_5 := Rw.cell HRv_5.out (j := 3) rfl
  have cv4_5 := Rw.cell HRv_5.out (j := 4) rfl
  have cv5_5 := Rw.cell HRv_5.out (j := 5) rfl
  have cv6_5 := Rw.cell HRv_5.out (j := 6) rfl
  have cv7_5 := Rw.cell HRv_5.out (j := 7) rfl
  have cv8_5 := Rw.cell HRv_5.out (j := 8) rfl
  have cv9_5 := Rw.cell HRv_5.out (j := 9) rfl
  go_wp2_with fail
  go_ret
  exact ⟨rfl, HB_5.out⟩

theorem prs_ok {s : List UInt8} (h : prsB s = true) : (prsU s).hos.length ≤ 1048576 ∧ (prsU s).pth.length ≤ 1048576 ∧ (prsU s).sch ≠ [] := by
  unfold prsB at h
  rw [Bool.and_eq_true, decide_eq_true_eq] at h
  cases ho : urlP s with
  | none => rw [ho] at h; exact absurd h.1 (by decide)
  | some u =>
    have hu : prsU s = u := by unfold prsU; rw [ho]; rfl
    have hs := url_shape ho (by omega)
    obtain ⟨_, _, _, h4, h5, _⟩ := shape_small hs
    rw [hu]
    refine ⟨h4, h5, fun e => ?_⟩
    have := hs.sch
    rw [e] at this
    exact absurd this (by decide)

theorem src_SELF : srcP [39, 83, 69, 76, 70, 39] = ⟨2, [], [], [], []⟩ := by kernel_rfl

theorem mat_self (a : AskM) (o : OrgM) (red : Int) : matB ⟨2, [], [], [], []⟩ a o red = selfM a o := rfl

theorem mat_sch (sc : List UInt8) (a : AskM) (o : OrgM) (red : Int) : matB ⟨3, sc, [], [], []⟩ a o red = smaB sc a.asc := rfl

end Go.Proofs.YtnecjofgjbfheaaGreatDoor
