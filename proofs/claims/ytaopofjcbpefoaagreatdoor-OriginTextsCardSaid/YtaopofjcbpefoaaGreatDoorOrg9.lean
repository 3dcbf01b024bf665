/- alike.Origin; OriginPlain's walk. -/
import Derived.Test.YtaopofjcbpefoaaGreatDoorProg
import Derived.Test.YtaopofjcbpefoaaGreatDoorKit
import Derived.Test.YtaopofjcbpefoaaGreatDoorRow
import Derived.Test.YtaopofjcbpefoaaGreatDoorRow2
import Derived.Test.YtaopofjcbpefoaaGreatDoorFrm11
import Derived.Test.YtaopofjcbpefoaaGreatDoorHst6
import Derived.Test.YtaopofjcbpefoaaGreatDoorUrl6
import Derived.Test.YtaopofjcbpefoaaGreatDoorUrl9
import Derived.Test.YtaopofjcbpefoaaGreatDoorOrg0
import Derived.Test.YtaopofjcbpefoaaGreatDoorOrg3
namespace Go.Proofs.YtaopofjcbpefoaaGreatDoor
open Go.RowKit Go.Proofs
set_option maxRecDepth 100000

theorem aorigin_any (S H : ByteArray) (p : Int) (hS : S.size ≤ 281474976710656) (hH : H.size ≤ 281474976710656) (w : World) :
    Calls Tryz.prog 12 #[.agg #[.string S, .string H, .int .i64 p]] w fun e w' => e = .returned (.bool (decide (0 ≤ p ∧ p ≤ 65535 ∧ S.size + H.size ≤ 1000))) ∧ Below w.heap.size w w' := by
  have HB := Lib.hid (below_more (Below.refl _ w) (.cells #[.string S, .string H, .int .i64 p] 24))
  obtain ⟨R, hR⟩ : ∃ R, R = decide (0 ≤ p ∧ p ≤ 65535 ∧ S.size + H.size ≤ 1000) := ⟨_, rfl⟩
  rw [← hR]
  have t1 : ¬ 9223372036854775807 < S.size + H.size := by omega
  by_cases h1 : 0 ≤ p
  · by_cases h2 : p ≤ 65535
    · have HR : Hid (R = decide ((S.size : Int) + (H.size : Int) ≤ 1000)) := Lib.hid (by rw [hR, Bool.eq_iff_iff]; simp; omega)
      clear hR hS hH
      go_enter Tryz.func12, Tryz.ntmps12
      go_wp2_with fail
      go_ret
      exact ⟨by rw [HR.out]; rfl, HB.out⟩
    · have HR : Hid (R = false) := Lib.hid (by rw [hR, decide_eq_false (fun h => h2 h.2.1)])
      clear hR hS hH
      go_enter Tryz.func12, Tryz.ntmps12
      go_wp2_with fail
      go_ret
      exact ⟨by rw [HR.out]; rfl, HB.out⟩
  · have HR : Hid (R = false) := Lib.hid (by rw [hR, decide_eq_false (fun h => h1 h.1)])
    clear hR hS hH
    go_enter Tryz.func12, Tryz.ntmps12
    go_wp2_with fail
    go_ret
    exact ⟨by rw [HR.out]; rfl, HB.out⟩

set_option maxHeartbeats 40000000 in
theorem originPlain_any (S H : ByteArray) (p : Int) (hS : S.size ≤ 140737488351232) (hH : H.size ≤ 140737488351232) (_hp : -9223372036854775808 ≤ p ∧ p ≤ 9223372036854775807) (q : Int) (_hq : -9223372036854775808 ≤ q ∧ q ≤ 9223372036854775807) (wh : Int) (hwh : -9223372036854775808 ≤ wh ∧ wh ≤ 9223372036854775807) (w : World) (hE : Env11 w) :
    Calls Tryz.prog 7 #[.agg #[.string S, .string H, .int .i64 p], .int .i64 q, .int .i64 wh] w fun e w' => e = .returned (.bool true) ∧ Below w.heap.size w w' := by
  have HE := Lib.hid hE
  have HAW := Lib.hid (fun W (hW : Env11 W) => oawake_any W hW)
  have HAO := Lib.hid (fun W => aorigin_any S H p (by omega) (by omega) W)
  have H4 : Hid (∀ W, Calls Tryz.prog 28 #[.int .i64 wh, .int .i64 4] W fun e w' => (∃ r : Nat, r < 4 ∧ e = .returned (.int .i64 r)) ∧ W = w') := Lib.hid (fun W => round_any wh 4 W hwh (by decide))
  have HB0 := Lib.hid (below_more (Below.refl _ w) (.cells #[.string S, .string H, .int .i64 p] 24))
  have HA0 : Hid (Rw (w.alloc (.cells #[.string S, .string H, .int .i64 p] 24)) 0 w.heap.size 24 [.string S, .string H, .int .i64 p]) := Lib.hid (Rw.alloc w _ _ (Nat.zero_le _))
  obtain ⟨b0, hb0⟩ : ∃ b0, b0 = decide (0 ≤ p ∧ p ≤ 65535 ∧ S.size + H.size ≤ 1000) := ⟨_, rfl⟩
  rw [← hb0] at HAO
  clear hwh hE
  cases b0
  · clear hb0 hS hH H4
    go_enter Tryz.func7, Tryz.ntmps7
    go_wp2_with fail
    refine (HAO.out _).mono ?_
    rintro e w1 ⟨rfl, hb1⟩
    have HB1 := Lib.hid (below_then HB0.out hb1)
    have HA1 := Lib.hid (Rw.below HA0.out hb1)
    clear hb1
    have k0 := Rw.cell HA1.out (j := 0) rfl
    have k1 := Rw.cell HA1.out (j := 1) rfl
    have k2 := Rw.cell HA1.out (j := 2) rfl
    go_wp2_with fail
    refine (HAW.out _ (env_below HE.out HB1.out)).mono ?_
    rintro e w6 ⟨rfl, hb6⟩
    have HB6 := Lib.hid (below_then HB1.out hb6)
    clear hb6
    go_wp2_with fail
    go_ret
    exact ⟨rfl, HB6.out⟩
  have hsz : S.size + H.size ≤ 1000 := (of_decide_eq_true hb0.symm).2.2
  clear hb0 hS hH
  by_cases h0 : q < 0
  · clear H4 hsz
    go_enter Tryz.func7, Tryz.ntmps7
    go_wp2_with fail
    refine (HAO.out _).mono ?_
    rintro e w1 ⟨rfl, hb1⟩
    have HB1 := Lib.hid (below_then HB0.out hb1)
    have HA1 := Lib.hid (Rw.below HA0.out hb1)
    clear hb1
    have k0 := Rw.cell HA1.out (j := 0) rfl
    have k1 := Rw.cell HA1.out (j := 1) rfl
    have k2 := Rw.cell HA1.out (j := 2) rfl
    go_wp2_with fail
    refine (HAW.out _ (env_below HE.out HB1.out)).mono ?_
    rintro e w6 ⟨rfl, hb6⟩
    have HB6 := Lib.hid (below_then HB1.out hb6)
    clear hb6
    go_wp2_with fail
    go_ret
    exact ⟨rfl, HB6.out⟩
  by_cases h1 : 65535 < q
  · clear H4 hsz
    go_enter Tryz.func7, Tryz.ntmps7
    go_wp2_with fail
    refine (HAO.out _).mono ?_
    rintro e w1 ⟨rfl, hb1⟩
    have HB1 := Lib.hid (below_then HB0.out hb1)
    have HA1 := Lib.hid (Rw.below HA0.out hb1)
    clear hb1
    have k0 := Rw.cell HA1.out (j := 0) rfl
    have k1 := Rw.cell HA1.out (j := 1) rfl
    have k2 := Rw.cell HA1.out (j := 2) rfl
    go_wp2_with fail
    refine (HAW.out _ (env_below HE.out HB1.out)).mono ?_
    rintro e w6 ⟨rfl, hb6⟩
    have HB6 := Lib.hid (below_then HB1.out hb6)
    clear hb6
    go_wp2_with fail
    go_ret
    exact ⟨rfl, HB6.out⟩
  by_cases h2 : S.size = 0
  · have y := emptyYes h2
    clear H4 hsz h2
    go_enter Tryz.func7, Tryz.ntmps7
    go_wp2_with fail
    refine (HAO.out _).mono ?_
    rintro e w1 ⟨rfl, hb1⟩
    have HB1 := Lib.hid (below_then HB0.out hb1)
    have HA1 := Lib.hid (Rw.below HA0.out hb1)
    clear hb1
    have k0 := Rw.cell HA1.out (j := 0) rfl
    have k1 := Rw.cell HA1.out (j := 1) rfl
    have k2 := Rw.cell HA1.out (j := 2) rfl
    go_wp2_with fail
    refine (HAW.out _ (env_below HE.out HB1.out)).mono ?_
    rintro e w6 ⟨rfl, hb6⟩
    have HB6 := Lib.hid (below_then HB1.out hb6)
    clear hb6
    go_wp2_with fail
    go_ret
    exact ⟨rfl, HB6.out⟩
  have y := emptyNo h2
  have hSn : S.data.toList ≠ [] := fun h => h2 (by rw [← size_data, h]; rfl)
  have HSM : Hid (∀ (S2 H2 S3 H3 : ByteArray) (p2 p3 : Int) (B : Bool), decide (S2.data.toList = S3.data.toList ∧ H2.data.toList = H3.data.toList ∧ p2 = p3) = B → S2.data.toList ≠ [] → ∀ W, Calls Tryz.prog 20 #[.agg #[.string S2, .string H2, .int .i64 p2], .agg #[.string S3, .string H3, .int .i64 p3]] W fun e w' => e = .returned (.bool B) ∧ Below W.heap.size W w') := Lib.hid (by
    intro S2 H2 S3 H3 p2 p3 B hB hn W
    have h := osame_any S2 H2 S3 H3 p2 p3 W
    have e1 : sameO ⟨S2.data.toList, H2.data.toList, p2⟩ ⟨S3.data.toList, H3.data.toList, p3⟩ = B := by
      unfold sameO
      rw [hB, decide_eq_false (fun h => hn h.1), Bool.not_false, Bool.and_true]
    rw [e1] at h
    exact h)
  have HSZ : Hid (∀ W, Calls Tryz.prog 20 #[.agg #[.string ⟨#[]⟩, .string ⟨#[]⟩, .int .i64 0], .agg #[.string ⟨#[]⟩, .string ⟨#[]⟩, .int .i64 0]] W fun e w' => e = .returned (.bool false) ∧ Below W.heap.size W w') := Lib.hid (fun W => osame_any ⟨#[]⟩ ⟨#[]⟩ ⟨#[]⟩ ⟨#[]⟩ 0 0 W)
  have HTZ : Hid (∀ W, Env11 W → Calls Tryz.prog 22 #[.agg #[.string ⟨#[]⟩, .string ⟨#[]⟩, .int .i64 0]] W fun e w' => e = .returned (.bool false) ∧ Below W.heap.size W w') := Lib.hid (fun W hW => otrusted_any ⟨#[]⟩ ⟨#[]⟩ 0 (by decide) W hW.2.1)
  have HSN := Lib.hid hSn
  have t1 : ¬ 9223372036854775807 < S.size + 1 := by omega
  have t2 : ¬ 9223372036854775807 < H.size + 1 := by omega
  clear hSn h2 hsz
  go_enter Tryz.func7, Tryz.ntmps7
  go_wp2_with fail
  refine (HAO.out _).mono ?_
  rintro e w1 ⟨rfl, hb1⟩
  have HB1 := Lib.hid (below_then HB0.out hb1)
  have HA1 := Lib.hid (Rw.below HA0.out hb1)
  clear hb1
  have k0 := Rw.cell HA1.out (j := 0) rfl
  have k1 := Rw.cell HA1.out (j := 1) rfl
  have k2 := Rw.cell HA1.out (j := 2) rfl
  go_wp2_with fail
  refine (H4.out _).mono ?_
  rintro e w2 ⟨⟨r, hr, rfl⟩, rfl⟩
  rcases (by omega : r = 0 ∨ r = 1 ∨ r = 2 ∨ r = 3) with rfl | rfl | rfl | rfl
  · have HN2 := HSN.out
    obtain ⟨B, hB⟩ : ∃ B, B = decide (S.data.toList = (S).data.toList ∧ H.data.toList = (H).data.toList ∧ p = p) := ⟨_, rfl⟩
    have hB2 : decide ((S).data.toList = S.data.toList ∧ (H).data.toList = H.data.toList ∧ p = p) = B := by
      exact (decide_eq_decide.2 ⟨fun ⟨a, b, c⟩ => ⟨a.symm, b.symm, c.symm⟩, fun ⟨a, b, c⟩ => ⟨a.symm, b.symm, c.symm⟩⟩).trans hB.symm
    have HSab : Hid (∀ W, Calls Tryz.prog 20 #[.agg #[.string S, .string H, .int .i64 p], .agg #[.string S, .string H, .int .i64 p]] W fun e w' => e = .returned (.bool B) ∧ Below W.heap.size W w') := Lib.hid (HSM.out S H S H p p B hB.symm HSN.out)
    have HSba : Hid (∀ W, Calls Tryz.prog 20 #[.agg #[.string S, .string H, .int .i64 p], .agg #[.string S, .string H, .int .i64 p]] W fun e w' => e = .returned (.bool B) ∧ Below W.heap.size W w') := Lib.hid (HSM.out S H S H p p B hB2 HN2)
    have EQ : ∀ W, (binOp .eql 24 (.agg #[.string S, .string H, .int .i64 p]) (.agg #[.string S, .string H, .int .i64 p])).run Tryz.prog W = .ok (.bool B) W := fun W => by rw [orgEq, ← hB]
    clear hB hB2 HN2
    have HB2 := Lib.hid (below_more HB1.out (.cells #[.string S, .string H, .int .i64 p] 24))
    have HA2 := Lib.hid (Rw.more HA1.out (.cells #[.string S, .string H, .int .i64 p] 24))
    have HC2 : Hid (Rw (w1.alloc (.cells #[.string S, .string H, .int .i64 p] 24)) 0 w1.heap.size 24 [.string S, .string H, .int .i64 p]) := Lib.hid (Rw.alloc w1 _ _ (Nat.zero_le _))
    clear hr
    go_wp2_with fail
    have HST : Hid (∀ W W', (Below w.heap.size w W ∧ (W).cell? ⟨w.heap.size, 0, none⟩ = some (.string S) ∧ (W).cell? ⟨w.heap.size, 1, none⟩ = some (.string H) ∧ (W).cell? ⟨w.heap.size, 2, none⟩ = some (.int .i64 p) ∧ (W).cell? ⟨w1.heap.size, 0, none⟩ = some (.string S) ∧ (W).cell? ⟨w1.heap.size, 1, none⟩ = some (.string H) ∧ (W).cell? ⟨w1.heap.size, 2, none⟩ = some (.int .i64 p)) → Below W.heap.size W W' → (Below w.heap.size w W' ∧ (W').cell? ⟨w.heap.size, 0, none⟩ = some (.string S) ∧ (W').cell? ⟨w.heap.size, 1, none⟩ = some (.string H) ∧ (W').cell? ⟨w.heap.size, 2, none⟩ = some (.int .i64 p) ∧ (W').cell? ⟨w1.heap.size, 0, none⟩ = some (.string S) ∧ (W').cell? ⟨w1.heap.size, 1, none⟩ = some (.string H) ∧ (W').cell? ⟨w1.heap.size, 2, none⟩ = some (.int .i64 p))) := Lib.hid (by
      intro W W' h hb
      obtain ⟨h0, h1, h2, h3, h4, h5, h6⟩ := h
      exact ⟨h0.trans (hb.mono h0.size), cell_stays h1 hb, cell_stays h2 hb, cell_stays h3 hb, cell_stays h4 hb, cell_stays h5 hb, cell_stays h6 hb⟩)
    obtain ⟨wq, hwq⟩ : ∃ wq, wq = w1.alloc (.cells #[.string S, .string H, .int .i64 p] 24) := ⟨_, rfl⟩
    have HS0 : Hid (Below w.heap.size w wq ∧ (wq).cell? ⟨w.heap.size, 0, none⟩ = some (.string S) ∧ (wq).cell? ⟨w.heap.size, 1, none⟩ = some (.string H) ∧ (wq).cell? ⟨w.heap.size, 2, none⟩ = some (.int .i64 p) ∧ (wq).cell? ⟨w1.heap.size, 0, none⟩ = some (.string S) ∧ (wq).cell? ⟨w1.heap.size, 1, none⟩ = some (.string H) ∧ (wq).cell? ⟨w1.heap.size, 2, none⟩ = some (.int .i64 p)) := Lib.hid (by
      rw [hwq]
      exact ⟨HB2.out, Rw.cell HA2.out (j := 0) rfl, Rw.cell HA2.out (j := 1) rfl, Rw.cell HA2.out (j := 2) rfl, Rw.cell HC2.out (j := 0) rfl, Rw.cell HC2.out (j := 1) rfl, Rw.cell HC2.out (j := 2) rfl⟩)
    have HS1 : Hid (Below w.heap.size w wq.drew ∧ (wq.drew).cell? ⟨w.heap.size, 0, none⟩ = some (.string S) ∧ (wq.drew).cell? ⟨w.heap.size, 1, none⟩ = some (.string H) ∧ (wq.drew).cell? ⟨w.heap.size, 2, none⟩ = some (.int .i64 p) ∧ (wq.drew).cell? ⟨w1.heap.size, 0, none⟩ = some (.string S) ∧ (wq.drew).cell? ⟨w1.heap.size, 1, none⟩ = some (.string H) ∧ (wq.drew).cell? ⟨w1.heap.size, 2, none⟩ = some (.int .i64 p)) := Lib.hid (HST.out wq wq.drew HS0.out (below_draws (Below.refl _ _) ⟨1, rfl⟩))
    rw [← hwq]
    clear hwq HB2 HA2 HC2 k0 k1 k2
    go_region_held3 (fun W => Below w.heap.size w W ∧ W.cell? ⟨w.heap.size, 0, none⟩ = some (.string S) ∧ W.cell? ⟨w.heap.size, 1, none⟩ = some (.string H) ∧ W.cell? ⟨w.heap.size, 2, none⟩ = some (.int .i64 p) ∧ W.cell? ⟨w1.heap.size, 0, none⟩ = some (.string S) ∧ W.cell? ⟨w1.heap.size, 1, none⟩ = some (.string H) ∧ W.cell? ⟨w1.heap.size, 2, none⟩ = some (.int .i64 p))
      (first | exact HS1.out | assumption)
      (first
        | (go_at_call 20; with_reducible refine (HSZ.out _).mono ?_; rintro e w7 ⟨rfl, hb7⟩; have hS7 := HST.out _ w7 (by assumption) hb7; clear hb7)
        | (go_at_call 20; with_reducible refine (HSab.out _).mono ?_; rintro e w7 ⟨rfl, hb7⟩; have hS7 := HST.out _ w7 (by assumption) hb7; clear hb7)
        | (go_at_call 20; with_reducible refine (HSba.out _).mono ?_; rintro e w8 ⟨rfl, hb8⟩; have hS8 := HST.out _ w8 (by assumption) hb8; clear hb8)
        | (go_at_call 22; refine (HTZ.out _ (env_below HE.out (And.left (by assumption)))).mono ?_; rintro e w9 ⟨rfl, hb9⟩; have hS9 := HST.out _ w9 (by assumption) hb9; clear hb9)
        | (go_at_call 9; refine (HAW.out _ (env_below HE.out (And.left (by assumption)))).mono ?_; rintro e w10 ⟨rfl, hb10⟩; have hS10 := HST.out _ w10 (by assumption) hb10; clear hb10))
    go_wp2_with fail
    go_ret
    exact ⟨rfl, hS10.1⟩
  · have HN2 : (S ++ (⟨#[120]⟩ : ByteArray)).data.toList ≠ [] := by
      rw [mk_app]
      simp
    obtain ⟨B, hB⟩ : ∃ B, B = decide (S.data.toList = ((S ++ (⟨#[120]⟩ : ByteArray))).data.toList ∧ H.data.toList = (H).data.toList ∧ p = p) := ⟨_, rfl⟩
    have hB2 : decide (((S ++ (⟨#[120]⟩ : ByteArray))).data.toList = S.data.toList ∧ (H).data.toList = H.data.toList ∧ p = p) = B := by
      exact (decide_eq_decide.2 ⟨fun ⟨a, b, c⟩ => ⟨a.symm, b.symm, c.symm⟩, fun ⟨a, b, c⟩ => ⟨a.symm, b.symm, c.symm⟩⟩).trans hB.symm
    have HSab : Hid (∀ W, Calls Tryz.prog 20 #[.agg #[.string S, .string H, .int .i64 p], .agg #[.string (S ++ (⟨#[120]⟩ : ByteArray)), .string H, .int .i64 p]] W fun e w' => e = .returned (.bool B) ∧ Below W.heap.size W w') := Lib.hid (HSM.out S H (S ++ (⟨#[120]⟩ : ByteArray)) H p p B hB.symm HSN.out)
    have HSba : Hid (∀ W, Calls Tryz.prog 20 #[.agg #[.string (S ++ (⟨#[120]⟩ : ByteArray)), .string H, .int .i64 p], .agg #[.string S, .string H, .int .i64 p]] W fun e w' => e = .returned (.bool B) ∧ Below W.heap.size W w') := Lib.hid (HSM.out (S ++ (⟨#[120]⟩ : ByteArray)) H S H p p B hB2 HN2)
    have EQ : ∀ W, (binOp .eql 24 (.agg #[.string S, .string H, .int .i64 p]) (.agg #[.string (S ++ (⟨#[120]⟩ : ByteArray)), .string H, .int .i64 p])).run Tryz.prog W = .ok (.bool B) W := fun W => by rw [orgEq, ← hB]
    clear hB hB2 HN2
    have HB2 := Lib.hid (below_more HB1.out (.cells #[.string (S ++ (⟨#[120]⟩ : ByteArray)), .string H, .int .i64 p] 24))
    have HA2 := Lib.hid (Rw.more HA1.out (.cells #[.string (S ++ (⟨#[120]⟩ : ByteArray)), .string H, .int .i64 p] 24))
    have HC2 : Hid (Rw (w1.alloc (.cells #[.string (S ++ (⟨#[120]⟩ : ByteArray)), .string H, .int .i64 p] 24)) 0 w1.heap.size 24 [.string (S ++ (⟨#[120]⟩ : ByteArray)), .string H, .int .i64 p]) := Lib.hid (Rw.alloc w1 _ _ (Nat.zero_le _))
    clear hr
    go_wp2_with fail
    have HST : Hid (∀ W W', (Below w.heap.size w W ∧ (W).cell? ⟨w.heap.size, 0, none⟩ = some (.string S) ∧ (W).cell? ⟨w.heap.size, 1, none⟩ = some (.string H) ∧ (W).cell? ⟨w.heap.size, 2, none⟩ = some (.int .i64 p) ∧ (W).cell? ⟨w1.heap.size, 0, none⟩ = some (.string (S ++ (⟨#[120]⟩ : ByteArray))) ∧ (W).cell? ⟨w1.heap.size, 1, none⟩ = some (.string H) ∧ (W).cell? ⟨w1.heap.size, 2, none⟩ = some (.int .i64 p)) → Below W.heap.size W W' → (Below w.heap.size w W' ∧ (W').cell? ⟨w.heap.size, 0, none⟩ = some (.string S) ∧ (W').cell? ⟨w.heap.size, 1, none⟩ = some (.string H) ∧ (W').cell? ⟨w.heap.size, 2, none⟩ = some (.int .i64 p) ∧ (W').cell? ⟨w1.heap.size, 0, none⟩ = some (.string (S ++ (⟨#[120]⟩ : ByteArray))) ∧ (W').cell? ⟨w1.heap.size, 1, none⟩ = some (.string H) ∧ (W').cell? ⟨w1.heap.size, 2, none⟩ = some (.int .i64 p))) := Lib.hid (by
      intro W W' h hb
      obtain ⟨h0, h1, h2, h3, h4, h5, h6⟩ := h
      exact ⟨h0.trans (hb.mono h0.size), cell_stays h1 hb, cell_stays h2 hb, cell_stays h3 hb, cell_stays h4 hb, cell_stays h5 hb, cell_stays h6 hb⟩)
    obtain ⟨wq, hwq⟩ : ∃ wq, wq = w1.alloc (.cells #[.string (S ++ (⟨#[120]⟩ : ByteArray)), .string H, .int .i64 p] 24) := ⟨_, rfl⟩
    have HS0 : Hid (Below w.heap.size w wq ∧ (wq).cell? ⟨w.heap.size, 0, none⟩ = some (.string S) ∧ (wq).cell? ⟨w.heap.size, 1, none⟩ = some (.string H) ∧ (wq).cell? ⟨w.heap.size, 2, none⟩ = some (.int .i64 p) ∧ (wq).cell? ⟨w1.heap.size, 0, none⟩ = some (.string (S ++ (⟨#[120]⟩ : ByteArray))) ∧ (wq).cell? ⟨w1.heap.size, 1, none⟩ = some (.string H) ∧ (wq).cell? ⟨w1.heap.size, 2, none⟩ = some (.int .i64 p)) := Lib.hid (by
      rw [hwq]
      exact ⟨HB2.out, Rw.cell HA2.out (j := 0) rfl, Rw.cell HA2.out (j := 1) rfl, Rw.cell HA2.out (j := 2) rfl, Rw.cell HC2.out (j := 0) rfl, Rw.cell HC2.out (j := 1) rfl, Rw.cell HC2.out (j := 2) rfl⟩)
    have HS1 : Hid (Below w.heap.size w wq.drew ∧ (wq.drew).cell? ⟨w.heap.size, 0, none⟩ = some (.string S) ∧ (wq.drew).cell? ⟨w.heap.size, 1, none⟩ = some (.string H) ∧ (wq.drew).cell? ⟨w.heap.size, 2, none⟩ = some (.int .i64 p) ∧ (wq.drew).cell? ⟨w1.heap.size, 0, none⟩ = some (.string (S ++ (⟨#[120]⟩ : ByteArray))) ∧ (wq.drew).cell? ⟨w1.heap.size, 1, none⟩ = some (.string H) ∧ (wq.drew).cell? ⟨w1.heap.size, 2, none⟩ = some (.int .i64 p)) := Lib.hid (HST.out wq wq.drew HS0.out (below_draws (Below.refl _ _) ⟨1, rfl⟩))
    rw [← hwq]
    clear hwq HB2 HA2 HC2 k0 k1 k2
    go_region_held3 (fun W => Below w.heap.size w W ∧ W.cell? ⟨w.heap.size, 0, none⟩ = some (.string S) ∧ W.cell? ⟨w.heap.size, 1, none⟩ = some (.string H) ∧ W.cell? ⟨w.heap.size, 2, none⟩ = some (.int .i64 p) ∧ W.cell? ⟨w1.heap.size, 0, none⟩ = some (.string (S ++ (⟨#[120]⟩ : ByteArray))) ∧ W.cell? ⟨w1.heap.size, 1, none⟩ = some (.string H) ∧ W.cell? ⟨w1.heap.size, 2, none⟩ = some (.int .i64 p))
      (first | exact HS1.out | assumption)
      (first
        | (go_at_call 20; with_reducible refine (HSZ.out _).mono ?_; rintro e w7 ⟨rfl, hb7⟩; have hS7 := HST.out _ w7 (by assumption) hb7; clear hb7)
        | (go_at_call 20; with_reducible refine (HSab.out _).mono ?_; rintro e w7 ⟨rfl, hb7⟩; have hS7 := HST.out _ w7 (by assumption) hb7; clear hb7)
        | (go_at_call 20; with_reducible refine (HSba.out _).mono ?_; rintro e w8 ⟨rfl, hb8⟩; have hS8 := HST.out _ w8 (by assumption) hb8; clear hb8)
        | (go_at_call 22; refine (HTZ.out _ (env_below HE.out (And.left (by assumption)))).mono ?_; rintro e w9 ⟨rfl, hb9⟩; have hS9 := HST.out _ w9 (by assumption) hb9; clear hb9)
        | (go_at_call 9; refine (HAW.out _ (env_below HE.out (And.left (by assumption)))).mono ?_; rintro e w10 ⟨rfl, hb10⟩; have hS10 := HST.out _ w10 (by assumption) hb10; clear hb10))
    go_wp2_with fail
    go_ret
    exact ⟨rfl, hS10.1⟩
  · have HN2 := HSN.out
    obtain ⟨B, hB⟩ : ∃ B, B = decide (S.data.toList = (S).data.toList ∧ H.data.toList = ((H ++ (⟨#[120]⟩ : ByteArray))).data.toList ∧ p = p) := ⟨_, rfl⟩
    have hB2 : decide ((S).data.toList = S.data.toList ∧ ((H ++ (⟨#[120]⟩ : ByteArray))).data.toList = H.data.toList ∧ p = p) = B := by
      exact (decide_eq_decide.2 ⟨fun ⟨a, b, c⟩ => ⟨a.symm, b.symm, c.symm⟩, fun ⟨a, b, c⟩ => ⟨a.symm, b.symm, c.symm⟩⟩).trans hB.symm
    have HSab : Hid (∀ W, Calls Tryz.prog 20 #[.agg #[.string S, .string H, .int .i64 p], .agg #[.string S, .string (H ++ (⟨#[120]⟩ : ByteArray)), .int .i64 p]] W fun e w' => e = .returned (.bool B) ∧ Below W.heap.size W w') := Lib.hid (HSM.out S H S (H ++ (⟨#[120]⟩ : ByteArray)) p p B hB.symm HSN.out)
    have HSba : Hid (∀ W, Calls Tryz.prog 20 #[.agg #[.string S, .string (H ++ (⟨#[120]⟩ : ByteArray)), .int .i64 p], .agg #[.string S, .string H, .int .i64 p]] W fun e w' => e = .returned (.bool B) ∧ Below W.heap.size W w') := Lib.hid (HSM.out S (H ++ (⟨#[120]⟩ : ByteArray)) S H p p B hB2 HN2)
    have EQ : ∀ W, (binOp .eql 24 (.agg #[.string S, .string H, .int .i64 p]) (.agg #[.string S, .string (H ++ (⟨#[120]⟩ : ByteArray)), .int .i64 p])).run Tryz.prog W = .ok (.bool B) W := fun W => by rw [orgEq, ← hB]
    clear hB hB2 HN2
    have HB2 := Lib.hid (below_more HB1.out (.cells #[.string S, .string (H ++ (⟨#[120]⟩ : ByteArray)), .int .i64 p] 24))
    have HA2 := Lib.hid (Rw.more HA1.out (.cells #[.string S, .string (H ++ (⟨#[120]⟩ : ByteArray)), .int .i64 p] 24))
    have HC2 : Hid (Rw (w1.alloc (.cells #[.string S, .string (H ++ (⟨#[120]⟩ : ByteArray)), .int .i64 p] 24)) 0 w1.heap.size 24 [.string S, .string (H ++ (⟨#[120]⟩ : ByteArray)), .int .i64 p]) := Lib.hid (Rw.alloc w1 _ _ (Nat.zero_le _))
    clear hr
    go_wp2_with fail
    have HST : Hid (∀ W W', (Below w.heap.size w W ∧ (W).cell? ⟨w.heap.size, 0, none⟩ = some (.string S) ∧ (W).cell? ⟨w.heap.size, 1, none⟩ = some (.string H) ∧ (W).cell? ⟨w.heap.size, 2, none⟩ = some (.int .i64 p) ∧ (W).cell? ⟨w1.heap.size, 0, none⟩ = some (.string S) ∧ (W).cell? ⟨w1.heap.size, 1, none⟩ = some (.string (H ++ (⟨#[120]⟩ : ByteArray))) ∧ (W).cell? ⟨w1.heap.size, 2, none⟩ = some (.int .i64 p)) → Below W.heap.size W W' → (Below w.heap.size w W' ∧ (W').cell? ⟨w.heap.size, 0, none⟩ = some (.string S) ∧ (W').cell? ⟨w.heap.size, 1, none⟩ = some (.string H) ∧ (W').cell? ⟨w.heap.size, 2, none⟩ = some (.int .i64 p) ∧ (W').cell? ⟨w1.heap.size, 0, none⟩ = some (.string S) ∧ (W').cell? ⟨w1.heap.size, 1, none⟩ = some (.string (H ++ (⟨#[120]⟩ : ByteArray))) ∧ (W').cell? ⟨w1.heap.size, 2, none⟩ = some (.int .i64 p))) := Lib.hid (by
      intro W W' h hb
      obtain ⟨h0, h1, h2, h3, h4, h5, h6⟩ := h
      exact ⟨h0.trans (hb.mono h0.size), cell_stays h1 hb, cell_stays h2 hb, cell_stays h3 hb, cell_stays h4 hb, cell_stays h5 hb, cell_stays h6 hb⟩)
    obtain ⟨wq, hwq⟩ : ∃ wq, wq = w1.alloc (.cells #[.string S, .string (H ++ (⟨#[120]⟩ : ByteArray)), .int .i64 p] 24) := ⟨_, rfl⟩
    have HS0 : Hid (Below w.heap.size w wq ∧ (wq).cell? ⟨w.heap.size, 0, none⟩ = some (.string S) ∧ (wq).cell? ⟨w.heap.size, 1, none⟩ = some (.string H) ∧ (wq).cell? ⟨w.heap.size, 2, none⟩ = some (.int .i64 p) ∧ (wq).cell? ⟨w1.heap.size, 0, none⟩ = some (.string S) ∧ (wq).cell? ⟨w1.heap.size, 1, none⟩ = some (.string (H ++ (⟨#[120]⟩ : ByteArray))) ∧ (wq).cell? ⟨w1.heap.size, 2, none⟩ = some (.int .i64 p)) := Lib.hid (by
      rw [hwq]
      exact ⟨HB2.out, Rw.cell HA2.out (j := 0) rfl, Rw.cell HA2.out (j := 1) rfl, Rw.cell HA2.out (j := 2) rfl, Rw.cell HC2.out (j := 0) rfl, Rw.cell HC2.out (j := 1) rfl, Rw.cell HC2.out (j := 2) rfl⟩)
    have HS1 : Hid (Below w.heap.size w wq.drew ∧ (wq.drew).cell? ⟨w.heap.size, 0, none⟩ = some (.string S) ∧ (wq.drew).cell? ⟨w.heap.size, 1, none⟩ = some (.string H) ∧ (wq.drew).cell? ⟨w.heap.size, 2, none⟩ = some (.int .i64 p) ∧ (wq.drew).cell? ⟨w1.heap.size, 0, none⟩ = some (.string S) ∧ (wq.drew).cell? ⟨w1.heap.size, 1, none⟩ = some (.string (H ++ (⟨#[120]⟩ : ByteArray))) ∧ (wq.drew).cell? ⟨w1.heap.size, 2, none⟩ = some (.int .i64 p)) := Lib.hid (HST.out wq wq.drew HS0.out (below_draws (Below.refl _ _) ⟨1, rfl⟩))
    rw [← hwq]
    clear hwq HB2 HA2 HC2 k0 k1 k2
    go_region_held3 (fun W => Below w.heap.size w W ∧ W.cell? ⟨w.heap.size, 0, none⟩ = some (.string S) ∧ W.cell? ⟨w.heap.size, 1, none⟩ = some (.string H) ∧ W.cell? ⟨w.heap.size, 2, none⟩ = some (.int .i64 p) ∧ W.cell? ⟨w1.heap.size, 0, none⟩ = some (.string S) ∧ W.cell? ⟨w1.heap.size, 1, none⟩ = some (.string (H ++ (⟨#[120]⟩ : ByteArray))) ∧ W.cell? ⟨w1.heap.size, 2, none⟩ = some (.int .i64 p))
      (first | exact HS1.out | assumption)
      (first
        | (go_at_call 20; with_reducible refine (HSZ.out _).mono ?_; rintro e w7 ⟨rfl, hb7⟩; have hS7 := HST.out _ w7 (by assumption) hb7; clear hb7)
        | (go_at_call 20; with_reducible refine (HSab.out _).mono ?_; rintro e w7 ⟨rfl, hb7⟩; have hS7 := HST.out _ w7 (by assumption) hb7; clear hb7)
        | (go_at_call 20; with_reducible refine (HSba.out _).mono ?_; rintro e w8 ⟨rfl, hb8⟩; have hS8 := HST.out _ w8 (by assumption) hb8; clear hb8)
        | (go_at_call 22; refine (HTZ.out _ (env_below HE.out (And.left (by assumption)))).mono ?_; rintro e w9 ⟨rfl, hb9⟩; have hS9 := HST.out _ w9 (by assumption) hb9; clear hb9)
        | (go_at_call 9; refine (HAW.out _ (env_below HE.out (And.left (by assumption)))).mono ?_; rintro e w10 ⟨rfl, hb10⟩; have hS10 := HST.out _ w10 (by assumption) hb10; clear hb10))
    go_wp2_with fail
    go_ret
    exact ⟨rfl, hS10.1⟩
  · have HN2 := HSN.out
    obtain ⟨B, hB⟩ : ∃ B, B = decide (S.data.toList = (S).data.toList ∧ H.data.toList = (H).data.toList ∧ p = q) := ⟨_, rfl⟩
    have hB2 : decide ((S).data.toList = S.data.toList ∧ (H).data.toList = H.data.toList ∧ q = p) = B := by
      exact (decide_eq_decide.2 ⟨fun ⟨a, b, c⟩ => ⟨a.symm, b.symm, c.symm⟩, fun ⟨a, b, c⟩ => ⟨a.symm, b.symm, c.symm⟩⟩).trans hB.symm
    have HSab : Hid (∀ W, Calls Tryz.prog 20 #[.agg #[.string S, .string H, .int .i64 p], .agg #[.string S, .string H, .int .i64 q]] W fun e w' => e = .returned (.bool B) ∧ Below W.heap.size W w') := Lib.hid (HSM.out S H S H p q B hB.symm HSN.out)
    have HSba : Hid (∀ W, Calls Tryz.prog 20 #[.agg #[.string S, .string H, .int .i64 q], .agg #[.string S, .string H, .int .i64 p]] W fun e w' => e = .returned (.bool B) ∧ Below W.heap.size W w') := Lib.hid (HSM.out S H S H q p B hB2 HN2)
    have EQ : ∀ W, (binOp .eql 24 (.agg #[.string S, .string H, .int .i64 p]) (.agg #[.string S, .string H, .int .i64 q])).run Tryz.prog W = .ok (.bool B) W := fun W => by rw [orgEq, ← hB]
    clear hB hB2 HN2
    have HB2 := Lib.hid (below_more HB1.out (.cells #[.string S, .string H, .int .i64 q] 24))
    have HA2 := Lib.hid (Rw.more HA1.out (.cells #[.string S, .string H, .int .i64 q] 24))
    have HC2 : Hid (Rw (w1.alloc (.cells #[.string S, .string H, .int .i64 q] 24)) 0 w1.heap.size 24 [.string S, .string H, .int .i64 q]) := Lib.hid (Rw.alloc w1 _ _ (Nat.zero_le _))
    clear hr
    go_wp2_with fail
    have HST : Hid (∀ W W', (Below w.heap.size w W ∧ (W).cell? ⟨w.heap.size, 0, none⟩ = some (.string S) ∧ (W).cell? ⟨w.heap.size, 1, none⟩ = some (.string H) ∧ (W).cell? ⟨w.heap.size, 2, none⟩ = some (.int .i64 p) ∧ (W).cell? ⟨w1.heap.size, 0, none⟩ = some (.string S) ∧ (W).cell? ⟨w1.heap.size, 1, none⟩ = some (.string H) ∧ (W).cell? ⟨w1.heap.size, 2, none⟩ = some (.int .i64 q)) → Below W.heap.size W W' → (Below w.heap.size w W' ∧ (W').cell? ⟨w.heap.size, 0, none⟩ = some (.string S) ∧ (W').cell? ⟨w.heap.size, 1, none⟩ = some (.string H) ∧ (W').cell? ⟨w.heap.size, 2, none⟩ = some (.int .i64 p) ∧ (W').cell? ⟨w1.heap.size, 0, none⟩ = some (.string S) ∧ (W').cell? ⟨w1.heap.size, 1, none⟩ = some (.string H) ∧ (W').cell? ⟨w1.heap.size, 2, none⟩ = some (.int .i64 q))) := Lib.hid (by
      intro W W' h hb
      obtain ⟨h0, h1, h2, h3, h4, h5, h6⟩ := h
      exact ⟨h0.trans (hb.mono h0.size), cell_stays h1 hb, cell_stays h2 hb, cell_stays h3 hb, cell_stays h4 hb, cell_stays h5 hb, cell_stays h6 hb⟩)
    obtain ⟨wq, hwq⟩ : ∃ wq, wq = w1.alloc (.cells #[.string S, .string H, .int .i64 q] 24) := ⟨_, rfl⟩
    have HS0 : Hid (Below w.heap.size w wq ∧ (wq).cell? ⟨w.heap.size, 0, none⟩ = some (.string S) ∧ (wq).cell? ⟨w.heap.size, 1, none⟩ = some (.string H) ∧ (wq).cell? ⟨w.heap.size, 2, none⟩ = some (.int .i64 p) ∧ (wq).cell? ⟨w1.heap.size, 0, none⟩ = some (.string S) ∧ (wq).cell? ⟨w1.heap.size, 1, none⟩ = some (.string H) ∧ (wq).cell? ⟨w1.heap.size, 2, none⟩ = some (.int .i64 q)) := Lib.hid (by
      rw [hwq]
      exact ⟨HB2.out, Rw.cell HA2.out (j := 0) rfl, Rw.cell HA2.out (j := 1) rfl, Rw.cell HA2.out (j := 2) rfl, Rw.cell HC2.out (j := 0) rfl, Rw.cell HC2.out (j := 1) rfl, Rw.cell HC2.out (j := 2) rfl⟩)
    have HS1 : Hid (Below w.heap.size w wq.drew ∧ (wq.drew).cell? ⟨w.heap.size, 0, none⟩ = some (.string S) ∧ (wq.drew).cell? ⟨w.heap.size, 1, none⟩ = some (.string H) ∧ (wq.drew).cell? ⟨w.heap.size, 2, none⟩ = some (.int .i64 p) ∧ (wq.drew).cell? ⟨w1.heap.size, 0, none⟩ = some (.string S) ∧ (wq.drew).cell? ⟨w1.heap.size, 1, none⟩ = some (.string H) ∧ (wq.drew).cell? ⟨w1.heap.size, 2, none⟩ = some (.int .i64 q)) := Lib.hid (HST.out wq wq.drew HS0.out (below_draws (Below.refl _ _) ⟨1, rfl⟩))
    rw [← hwq]
    clear hwq HB2 HA2 HC2 k0 k1 k2
    go_region_held3 (fun W => Below w.heap.size w W ∧ W.cell? ⟨w.heap.size, 0, none⟩ = some (.string S) ∧ W.cell? ⟨w.heap.size, 1, none⟩ = some (.string H) ∧ W.cell? ⟨w.heap.size, 2, none⟩ = some (.int .i64 p) ∧ W.cell? ⟨w1.heap.size, 0, none⟩ = some (.string S) ∧ W.cell? ⟨w1.heap.size, 1, none⟩ = some (.string H) ∧ W.cell? ⟨w1.heap.size, 2, none⟩ = some (.int .i64 q))
      (first | exact HS1.out | assumption)
      (first
        | (go_at_call 20; with_reducible refine (HSZ.out _).mono ?_; rintro e w7 ⟨rfl, hb7⟩; have hS7 := HST.out _ w7 (by assumption) hb7; clear hb7)
        | (go_at_call 20; with_reducible refine (HSab.out _).mono ?_; rintro e w7 ⟨rfl, hb7⟩; have hS7 := HST.out _ w7 (by assumption) hb7; clear hb7)
        | (go_at_call 20; with_reducible refine (HSba.out _).mono ?_; rintro e w8 ⟨rfl, hb8⟩; have hS8 := HST.out _ w8 (by assumption) hb8; clear hb8)
        | (go_at_call 22; refine (HTZ.out _ (env_below HE.out (And.left (by assumption)))).mono ?_; rintro e w9 ⟨rfl, hb9⟩; have hS9 := HST.out _ w9 (by assumption) hb9; clear hb9)
        | (go_at_call 9; refine (HAW.out _ (env_below HE.out (And.left (by assumption)))).mono ?_; rintro e w10 ⟨rfl, hb10⟩; have hS10 := HST.out _ w10 (by assumption) hb10; clear hb10))
    go_wp2_with fail
    go_ret
    exact ⟨rfl, hS10.1⟩

end Go.Proofs.YtaopofjcbpefoaaGreatDoor
