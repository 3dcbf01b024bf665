/- What is written of a URL; its port. -/
import Derived.Test.YtlhdafinfgdlkaaGreatDoorShelf
import Derived.BigQuiet
import Derived.BigRegion
import Derived.Deep.RegionHeld3
import Derived.Lib.ItoaLen
import Derived.Test.YtlhdafinfgdlkaaGreatDoorProg
import Derived.Test.YtlhdafinfgdlkaaGreatDoorKit
import Derived.Test.YtlhdafinfgdlkaaGreatDoorAsc4
import Derived.Test.YtlhdafinfgdlkaaGreatDoorAsc5
import Derived.Test.YtlhdafinfgdlkaaGreatDoorAsc8
import Derived.Test.YtlhdafinfgdlkaaGreatDoorRow
import Derived.Test.YtlhdafinfgdlkaaGreatDoorRow2
import Derived.Test.YtlhdafinfgdlkaaGreatDoorCod8
import Derived.Test.YtlhdafinfgdlkaaGreatDoorHst1
import Derived.Test.YtlhdafinfgdlkaaGreatDoorHst3
import Derived.Test.YtlhdafinfgdlkaaGreatDoorHst6
import Derived.Test.YtlhdafinfgdlkaaGreatDoorUrl0
namespace Go.Proofs.YtlhdafinfgdlkaaGreatDoor
open Go.RowKit Go.Proofs
set_option maxRecDepth 100000

def markS (b : Bool) (m p : ByteArray) : ByteArray := if b then m ++ p else ⟨#[]⟩

theorem markS_list (b : Bool) (m p : ByteArray) : (markS b m p).data.toList = markL b m.data.toList p.data.toList := by
  unfold markS markL
  cases b
  · rfl
  · simp

theorem app_size (a b : ByteArray) : (a ++ b).size = a.size + b.size := ByteArray.size_append

theorem umarked_any (b : Bool) (m p : ByteArray) (hm : m.size ≤ 1073741824) (hp : p.size ≤ 1073741824) (w : World) :
    Calls Tryz.prog 39 #[.bool b, .string m, .string p] w fun e w' => e = .returned (.string (markS b m p)) ∧ w' = w := by
  cases b
  · go_enter Tryz.func39, Tryz.ntmps39
    go_wp2
    go_ret
    exact ⟨rfl, rfl⟩
  · go_enter Tryz.func39, Tryz.ntmps39
    go_wp2
    go_ret
    exact ⟨rfl, rfl⟩

def userS (U P : ByteArray) : ByteArray := if U.size = 0 ∧ P.size = 0 then ⟨#[]⟩ else U ++ markS (decide (P.size ≠ 0)) ⟨#[58]⟩ P ++ ⟨#[64]⟩

theorem userS_no {U P : ByteArray} (h : ¬ (U.size = 0 ∧ P.size = 0)) {b : Bool} (hb : decide (P.size ≠ 0) = b) : userS U P = U ++ markS b ⟨#[58]⟩ P ++ ⟨#[64]⟩ := by
  unfold userS
  rw [if_neg h, hb]

set_option maxHeartbeats 1000000 in
theorem uuserText_any (S U P H T Q F : ByteArray) (pt : Int) (hq hf : Bool) (hU : U.size ≤ 1048576) (hP : P.size ≤ 1048576) (w : World) :
    Calls Tryz.prog 38 #[.agg #[.string S, .string U, .string P, .string H, .int .i64 pt, .string T, .bool hq, .string Q, .bool hf, .string F]] w fun e w' => e = .returned (.string (userS U P)) ∧ Below w.heap.size w w' := by
  have HB := Lib.hid (below_more (Below.refl _ w) (.cells #[.string S, .string U, .string P, .string H, .int .i64 pt, .string T, .bool hq, .string Q, .bool hf, .string F] 24))
  obtain ⟨R, hR⟩ : ∃ R, R = userS U P := ⟨_, rfl⟩
  rw [← hR]
  by_cases hu : U.size = 0
  · by_cases hp : P.size = 0
    · have y1 := emptyYes hu
      have y2 := emptyYes hp
      have HR : Hid (R = ⟨#[]⟩) := Lib.hid (by rw [hR]; unfold userS; rw [if_pos ⟨hu, hp⟩])
      clear hR hu hp
      go_enter Tryz.func38, Tryz.ntmps38
      go_wp2_with fail
      go_ret
      exact ⟨by rw [HR.out]; rfl, HB.out⟩
    · have y1 := emptyYes hu
      have y2 := emptyNo hp
      have HR : Hid (R = U ++ markS true ⟨#[58]⟩ P ++ ⟨#[64]⟩) := Lib.hid (by rw [hR]; exact userS_no (by rintro ⟨h1, h2⟩; first | exact hu h1 | exact hp h2) (by simp [hp]))
      obtain ⟨M, hM⟩ : ∃ M, M = markS true ⟨#[58]⟩ P := ⟨_, rfl⟩
      have HM := Lib.hid (fun W => umarked_any true ⟨#[58]⟩ P (by decide) (by omega) W)
      have hMs : M.size ≤ 1048577 := by rw [hM]; unfold markS; split; (rw [app_size, show (⟨#[58]⟩ : ByteArray).size = 1 from rfl]; omega); (show 0 ≤ _; omega)
      rw [← hM] at HM HR
      have s1 : ¬ 9223372036854775807 < U.size + M.size := by omega
      have s2 : ¬ 9223372036854775807 < U.size + M.size + 1 := by omega
      clear hR hu hp hM
      go_enter Tryz.func38, Tryz.ntmps38
      go_wp2_with fail
      obtain ⟨wq, hwq⟩ : ∃ wq, wq = w.alloc (.cells #[.string S, .string U, .string P, .string H, .int .i64 pt, .string T, .bool hq, .string Q, .bool hf, .string F] 24) := ⟨_, rfl⟩
      have z1 : wq.cell? ⟨w.heap.size, 1, none⟩ = some (.string U) := by rw [hwq]; exact alloc_cell w _ _ _ 1
      have z2 : wq.cell? ⟨w.heap.size, 2, none⟩ = some (.string P) := by rw [hwq]; exact alloc_cell w _ _ _ 2
      rw [← hwq] at HB ⊢
      clear hwq
      go_quiet ((go_at_call 39; exact Calls.quiet_of_same (HM.out _)))
      go_wp2_with fail
      go_ret
      exact ⟨by rw [HR.out]; rfl, below_draws HB.out ⟨_, rfl⟩⟩
  · have y1 := emptyNo hu
    by_cases hp : P.size = 0
    · have y2 := emptyYes hp
      have HR : Hid (R = U ++ markS false ⟨#[58]⟩ P ++ ⟨#[64]⟩) := Lib.hid (by rw [hR]; exact userS_no (by rintro ⟨h1, h2⟩; first | exact hu h1 | exact hp h2) (by simp [hp]))
      obtain ⟨M, hM⟩ : ∃ M, M = markS false ⟨#[58]⟩ P := ⟨_, rfl⟩
      have HM := Lib.hid (fun W => umarked_any false ⟨#[58]⟩ P (by decide) (by omega) W)
      have hMs : M.size ≤ 1048577 := by rw [hM]; unfold markS; split; (rw [app_size, show (⟨#[58]⟩ : ByteArray).size = 1 from rfl]; omega); (show 0 ≤ _; omega)
      rw [← hM] at HM HR
      have s1 : ¬ 9223372036854775807 < U.size + M.size := by omega
      have s2 : ¬ 9223372036854775807 < U.size + M.size + 1 := by omega
      clear hR hu hp hM
      go_enter Tryz.func38, Tryz.ntmps38
      go_wp2_with fail
      obtain ⟨wq, hwq⟩ : ∃ wq, wq = w.alloc (.cells #[.string S, .string U, .string P, .string H, .int .i64 pt, .string T, .bool hq, .string Q, .bool hf, .string F] 24) := ⟨_, rfl⟩
      have z1 : wq.cell? ⟨w.heap.size, 1, none⟩ = some (.string U) := by rw [hwq]; exact alloc_cell w _ _ _ 1
      have z2 : wq.cell? ⟨w.heap.size, 2, none⟩ = some (.string P) := by rw [hwq]; exact alloc_cell w _ _ _ 2
      rw [← hwq] at HB ⊢
      clear hwq
      go_quiet ((go_at_call 39; exact Calls.quiet_of_same (HM.out _)))
      go_wp2_with fail
      go_ret
      exact ⟨by rw [HR.out]; rfl, below_draws HB.out ⟨_, rfl⟩⟩
    · have y2 := emptyNo hp
      have HR : Hid (R = U ++ markS true ⟨#[58]⟩ P ++ ⟨#[64]⟩) := Lib.hid (by rw [hR]; exact userS_no (by rintro ⟨h1, h2⟩; first | exact hu h1 | exact hp h2) (by simp [hp]))
      obtain ⟨M, hM⟩ : ∃ M, M = markS true ⟨#[58]⟩ P := ⟨_, rfl⟩
      have HM := Lib.hid (fun W => umarked_any true ⟨#[58]⟩ P (by decide) (by omega) W)
      have hMs : M.size ≤ 1048577 := by rw [hM]; unfold markS; split; (rw [app_size, show (⟨#[58]⟩ : ByteArray).size = 1 from rfl]; omega); (show 0 ≤ _; omega)
      rw [← hM] at HM HR
      have s1 : ¬ 9223372036854775807 < U.size + M.size := by omega
      have s2 : ¬ 9223372036854775807 < U.size + M.size + 1 := by omega
      clear hR hu hp hM
      go_enter Tryz.func38, Tryz.ntmps38
      go_wp2_with fail
      obtain ⟨wq, hwq⟩ : ∃ wq, wq = w.alloc (.cells #[.string S, .string U, .string P, .string H, .int .i64 pt, .string T, .bool hq, .string Q, .bool hf, .string F] 24) := ⟨_, rfl⟩
      have z1 : wq.cell? ⟨w.heap.size, 1, none⟩ = some (.string U) := by rw [hwq]; exact alloc_cell w _ _ _ 1
      have z2 : wq.cell? ⟨w.heap.size, 2, none⟩ = some (.string P) := by rw [hwq]; exact alloc_cell w _ _ _ 2
      rw [← hwq] at HB ⊢
      clear hwq
      go_quiet ((go_at_call 39; exact Calls.quiet_of_same (HM.out _)))
      go_wp2_with fail
      go_ret
      exact ⟨by rw [HR.out]; rfl, below_draws HB.out ⟨_, rfl⟩⟩

theorem cell_stays {w w' : World} {a : Addr} {v : Value} (h : w.cell? a = some v) (hb : Below w.heap.size w w') : w'.cell? a = some v := by
  obtain ⟨b, o, m⟩ := a
  rcases Nat.lt_or_ge b w.heap.size with hl | hl
  · unfold World.cell? at h ⊢
    rw [hb.block b hl]
    exact h
  · exfalso
    unfold World.cell? at h
    rw [Array.getElem?_eq_none hl] at h
    cases h

theorem user_list (U P : ByteArray) (u : UrlM) (h1 : U.data.toList = u.usr) (h2 : P.data.toList = u.pas) : (userS U P).data.toList = userL2 u := by
  have e1 : (U.size = 0) ↔ (u.usr = []) := by rw [← h1]; exact ⟨fun h => nil_size h, fun h => by rw [← size_data, h]; rfl⟩
  have e2 : (P.size = 0) ↔ (u.pas = []) := by rw [← h2]; exact ⟨fun h => nil_size h, fun h => by rw [← size_data, h]; rfl⟩
  unfold userS userL2
  by_cases hc : U.size = 0 ∧ P.size = 0
  · rw [if_pos hc, if_pos ⟨e1.1 hc.1, e2.1 hc.2⟩]
  · rw [if_neg hc, if_neg (fun h => hc ⟨e1.2 h.1, e2.2 h.2⟩), mk_app, mk_app, markS_list, h1, h2]
    have e3 : decide (P.size ≠ 0) = decide (u.pas ≠ []) := by
      by_cases h : P.size = 0
      · have h2 := e2.1 h
        simp [h, h2]
      · have h2 : u.pas ≠ [] := fun hh => h (e2.2 hh)
        simp [h, h2]
    rw [e3]

set_option maxHeartbeats 4000000 in
theorem utext_any (S U P H T Q F : ByteArray) (pt : Int) (hq hf : Bool) (hS : S.size ≤ 1048576) (hU : U.size ≤ 1048576) (hP : P.size ≤ 1048576) (hH : H.size ≤ 1048576) (hT : T.size ≤ 1048576) (hQ : Q.size ≤ 1048576) (hF : F.size ≤ 1048576) (hpt : -9223372036854775808 ≤ pt ∧ pt ≤ 9223372036854775807) (w : World) (hE : Tab10 w) :
    Calls Tryz.prog 15 #[.agg #[.string S, .string U, .string P, .string H, .int .i64 pt, .string T, .bool hq, .string Q, .bool hf, .string F]] w fun e w' => e = .returned (strL (textU ⟨S.data.toList, U.data.toList, P.data.toList, H.data.toList, pt, T.data.toList, hq, Q.data.toList, hf, F.data.toList⟩)) ∧ Below w.heap.size w w' := by
  obtain ⟨ut, hut⟩ : ∃ ut, ut = userS U P := ⟨_, rfl⟩
  have hutl : ut.data.toList = userL2 ⟨S.data.toList, U.data.toList, P.data.toList, H.data.toList, pt, T.data.toList, hq, Q.data.toList, hf, F.data.toList⟩ := by rw [hut]; exact user_list U P _ rfl rfl
  obtain ⟨D, hD⟩ : ∃ D : ByteArray, D = ⟨(Lib.itoa pt).toArray⟩ := ⟨_, rfl⟩
  have hDs : D.size ≤ 21 := by rw [hD, mk_size]; exact Lib.itoa_length_le pt hpt.1 hpt.2
  obtain ⟨b1, hb1⟩ : ∃ b1 : Bool, b1 = (pt != -1) := ⟨_, rfl⟩
  have hb2 : b1 = decide (pt ≠ -1) := by rw [hb1]; by_cases h : pt = -1 <;> simp [h]
  obtain ⟨m1, hm1⟩ : ∃ m1, m1 = markS b1 ⟨#[58]⟩ D := ⟨_, rfl⟩
  obtain ⟨m2, hm2⟩ : ∃ m2, m2 = markS hq ⟨#[63]⟩ Q := ⟨_, rfl⟩
  obtain ⟨m3, hm3⟩ : ∃ m3, m3 = markS hf ⟨#[35]⟩ F := ⟨_, rfl⟩
  have hmz : ∀ (b : Bool) (c : UInt8) (x : ByteArray), x.size ≤ 1048576 → (markS b ⟨#[c]⟩ x).size ≤ 1048577 := by
    intro b c x hx
    unfold markS
    split
    · rw [app_size, show (⟨#[c]⟩ : ByteArray).size = 1 from rfl]; omega
    · show 0 ≤ _; omega
  have hm1s : m1.size ≤ 1048577 := by rw [hm1]; exact hmz _ _ _ (by omega)
  have hm2s : m2.size ≤ 1048577 := by rw [hm2]; exact hmz _ _ _ hQ
  have hm3s : m3.size ≤ 1048577 := by rw [hm3]; exact hmz _ _ _ hF
  have huts : ut.size ≤ 2097154 := by
    rw [hut]
    unfold userS
    split
    · show 0 ≤ _; omega
    · rw [app_size, app_size, show (⟨#[64]⟩ : ByteArray).size = 1 from rfl]
      have := hmz (decide (P.size ≠ 0)) 58 P hP
      omega
  have HST : Hid (∀ W W', (Below w.heap.size w W ∧ (W).cell? ⟨w.heap.size, 0, none⟩ = some (.string S) ∧ (W).cell? ⟨w.heap.size, 1, none⟩ = some (.string U) ∧ (W).cell? ⟨w.heap.size, 2, none⟩ = some (.string P) ∧ (W).cell? ⟨w.heap.size, 3, none⟩ = some (.string H) ∧ (W).cell? ⟨w.heap.size, 4, none⟩ = some (.int .i64 pt) ∧ (W).cell? ⟨w.heap.size, 5, none⟩ = some (.string T) ∧ (W).cell? ⟨w.heap.size, 6, none⟩ = some (.bool hq) ∧ (W).cell? ⟨w.heap.size, 7, none⟩ = some (.string Q) ∧ (W).cell? ⟨w.heap.size, 8, none⟩ = some (.bool hf) ∧ (W).cell? ⟨w.heap.size, 9, none⟩ = some (.string F)) → Below W.heap.size W W' → (Below w.heap.size w W' ∧ (W').cell? ⟨w.heap.size, 0, none⟩ = some (.string S) ∧ (W').cell? ⟨w.heap.size, 1, none⟩ = some (.string U) ∧ (W').cell? ⟨w.heap.size, 2, none⟩ = some (.string P) ∧ (W').cell? ⟨w.heap.size, 3, none⟩ = some (.string H) ∧ (W').cell? ⟨w.heap.size, 4, none⟩ = some (.int .i64 pt) ∧ (W').cell? ⟨w.heap.size, 5, none⟩ = some (.string T) ∧ (W').cell? ⟨w.heap.size, 6, none⟩ = some (.bool hq) ∧ (W').cell? ⟨w.heap.size, 7, none⟩ = some (.string Q) ∧ (W').cell? ⟨w.heap.size, 8, none⟩ = some (.bool hf) ∧ (W').cell? ⟨w.heap.size, 9, none⟩ = some (.string F))) := Lib.hid (by
    intro W W' h hb
    obtain ⟨h0, h1, h2, h3, h4, h5, h6, h7, h8, h9, h10⟩ := h
    exact ⟨h0.trans (hb.mono h0.size), cell_stays h1 hb, cell_stays h2 hb, cell_stays h3 hb, cell_stays h4 hb, cell_stays h5 hb, cell_stays h6 hb, cell_stays h7 hb, cell_stays h8 hb, cell_stays h9 hb, cell_stays h10 hb⟩)
  have HUT : Hid (∀ W, (Below w.heap.size w W ∧ (W).cell? ⟨w.heap.size, 0, none⟩ = some (.string S) ∧ (W).cell? ⟨w.heap.size, 1, none⟩ = some (.string U) ∧ (W).cell? ⟨w.heap.size, 2, none⟩ = some (.string P) ∧ (W).cell? ⟨w.heap.size, 3, none⟩ = some (.string H) ∧ (W).cell? ⟨w.heap.size, 4, none⟩ = some (.int .i64 pt) ∧ (W).cell? ⟨w.heap.size, 5, none⟩ = some (.string T) ∧ (W).cell? ⟨w.heap.size, 6, none⟩ = some (.bool hq) ∧ (W).cell? ⟨w.heap.size, 7, none⟩ = some (.string Q) ∧ (W).cell? ⟨w.heap.size, 8, none⟩ = some (.bool hf) ∧ (W).cell? ⟨w.heap.size, 9, none⟩ = some (.string F)) → Calls Tryz.prog 38 #[.agg #[.string S, .string U, .string P, .string H, .int .i64 pt, .string T, .bool hq, .string Q, .bool hf, .string F]] W fun e w' => e = .returned (.string ut) ∧ (Below w.heap.size w w' ∧ (w').cell? ⟨w.heap.size, 0, none⟩ = some (.string S) ∧ (w').cell? ⟨w.heap.size, 1, none⟩ = some (.string U) ∧ (w').cell? ⟨w.heap.size, 2, none⟩ = some (.string P) ∧ (w').cell? ⟨w.heap.size, 3, none⟩ = some (.string H) ∧ (w').cell? ⟨w.heap.size, 4, none⟩ = some (.int .i64 pt) ∧ (w').cell? ⟨w.heap.size, 5, none⟩ = some (.string T) ∧ (w').cell? ⟨w.heap.size, 6, none⟩ = some (.bool hq) ∧ (w').cell? ⟨w.heap.size, 7, none⟩ = some (.string Q) ∧ (w').cell? ⟨w.heap.size, 8, none⟩ = some (.bool hf) ∧ (w').cell? ⟨w.heap.size, 9, none⟩ = some (.string F))) := Lib.hid (by
    intro W hW
    rw [hut]
    exact (uuserText_any S U P H T Q F pt hq hf hU hP W).mono fun e w' h => ⟨h.1, HST.out W w' hW h.2⟩)
  have HDC : Hid (∀ W, (Below w.heap.size w W ∧ (W).cell? ⟨w.heap.size, 0, none⟩ = some (.string S) ∧ (W).cell? ⟨w.heap.size, 1, none⟩ = some (.string U) ∧ (W).cell? ⟨w.heap.size, 2, none⟩ = some (.string P) ∧ (W).cell? ⟨w.heap.size, 3, none⟩ = some (.string H) ∧ (W).cell? ⟨w.heap.size, 4, none⟩ = some (.int .i64 pt) ∧ (W).cell? ⟨w.heap.size, 5, none⟩ = some (.string T) ∧ (W).cell? ⟨w.heap.size, 6, none⟩ = some (.bool hq) ∧ (W).cell? ⟨w.heap.size, 7, none⟩ = some (.string Q) ∧ (W).cell? ⟨w.heap.size, 8, none⟩ = some (.bool hf) ∧ (W).cell? ⟨w.heap.size, 9, none⟩ = some (.string F)) → Calls Tryz.prog 40 #[.int .i64 pt] W fun e w' => e = .returned (.string D) ∧ (Below w.heap.size w w' ∧ (w').cell? ⟨w.heap.size, 0, none⟩ = some (.string S) ∧ (w').cell? ⟨w.heap.size, 1, none⟩ = some (.string U) ∧ (w').cell? ⟨w.heap.size, 2, none⟩ = some (.string P) ∧ (w').cell? ⟨w.heap.size, 3, none⟩ = some (.string H) ∧ (w').cell? ⟨w.heap.size, 4, none⟩ = some (.int .i64 pt) ∧ (w').cell? ⟨w.heap.size, 5, none⟩ = some (.string T) ∧ (w').cell? ⟨w.heap.size, 6, none⟩ = some (.bool hq) ∧ (w').cell? ⟨w.heap.size, 7, none⟩ = some (.string Q) ∧ (w').cell? ⟨w.heap.size, 8, none⟩ = some (.bool hf) ∧ (w').cell? ⟨w.heap.size, 9, none⟩ = some (.string F))) := Lib.hid (by
    intro W hW
    rw [hD]
    exact (decimal_any pt hpt W (tab10_below hE hW.1)).mono fun e w' h => ⟨h.1, HST.out W w' hW h.2⟩)
  have HM1 : Hid (∀ W, Calls Tryz.prog 39 #[.bool (pt != -1), .string ⟨#[58]⟩, .string D] W fun e w' => e = .returned (.string m1) ∧ w' = W) := Lib.hid (by
    intro W
    rw [hm1, hb1]
    exact umarked_any (pt != -1) ⟨#[58]⟩ D (by decide) (by omega) W)
  have HM2 : Hid (∀ W, Calls Tryz.prog 39 #[.bool hq, .string ⟨#[63]⟩, .string Q] W fun e w' => e = .returned (.string m2) ∧ w' = W) := Lib.hid (by
    intro W
    rw [hm2]
    exact umarked_any hq ⟨#[63]⟩ Q (by decide) (by omega) W)
  have HM3 : Hid (∀ W, Calls Tryz.prog 39 #[.bool hf, .string ⟨#[35]⟩, .string F] W fun e w' => e = .returned (.string m3) ∧ w' = W) := Lib.hid (by
    intro W
    rw [hm3]
    exact umarked_any hf ⟨#[35]⟩ F (by decide) (by omega) W)
  have HR : Hid (Value.string (((((((S ++ ⟨#[58, 47, 47]⟩) ++ ut) ++ H) ++ m1) ++ T) ++ m2) ++ m3) = strL (textU ⟨S.data.toList, U.data.toList, P.data.toList, H.data.toList, pt, T.data.toList, hq, Q.data.toList, hf, F.data.toList⟩)) := Lib.hid (by
    symm
    refine strL_of ?_
    rw [mk_app, mk_app, mk_app, mk_app, mk_app, mk_app, mk_app, hutl, hm1, hm2, hm3, markS_list, markS_list, markS_list, hD, hb2]
    rfl)
  have HB : Hid (Below w.heap.size w (w.alloc (.cells #[.string S, .string U, .string P, .string H, .int .i64 pt, .string T, .bool hq, .string Q, .bool hf, .string F] 24))) := Lib.hid (below_more (Below.refl _ w) _)
  have t1 : ¬ 9223372036854775807 < S.size + 3 := by omega
  have t2 : ¬ 9223372036854775807 < S.size + 3 + ut.size := by omega
  have t3 : ¬ 9223372036854775807 < S.size + 3 + ut.size + H.size := by omega
  have t4 : ¬ 9223372036854775807 < S.size + 3 + ut.size + H.size + m1.size := by omega
  have t5 : ¬ 9223372036854775807 < S.size + 3 + ut.size + H.size + m1.size + T.size := by omega
  have t6 : ¬ 9223372036854775807 < S.size + 3 + ut.size + H.size + m1.size + T.size + m2.size := by omega
  have t7 : ¬ 9223372036854775807 < S.size + 3 + ut.size + H.size + m1.size + T.size + m2.size + m3.size := by omega
  clear hut hutl hD hDs hb1 hb2 hm1 hm2 hm3 hmz hm1s hm2s hm3s huts hS hU hP hH hT hQ hF hpt hE
  go_enter Tryz.func15, Tryz.ntmps15
  go_wp2_with fail
  obtain ⟨wq, hwq⟩ : ∃ wq, wq = w.alloc (.cells #[.string S, .string U, .string P, .string H, .int .i64 pt, .string T, .bool hq, .string Q, .bool hf, .string F] 24) := ⟨_, rfl⟩
  have HS0 : Hid (Below w.heap.size w wq ∧ (wq).cell? ⟨w.heap.size, 0, none⟩ = some (.string S) ∧ (wq).cell? ⟨w.heap.size, 1, none⟩ = some (.string U) ∧ (wq).cell? ⟨w.heap.size, 2, none⟩ = some (.string P) ∧ (wq).cell? ⟨w.heap.size, 3, none⟩ = some (.string H) ∧ (wq).cell? ⟨w.heap.size, 4, none⟩ = some (.int .i64 pt) ∧ (wq).cell? ⟨w.heap.size, 5, none⟩ = some (.string T) ∧ (wq).cell? ⟨w.heap.size, 6, none⟩ = some (.bool hq) ∧ (wq).cell? ⟨w.heap.size, 7, none⟩ = some (.string Q) ∧ (wq).cell? ⟨w.heap.size, 8, none⟩ = some (.bool hf) ∧ (wq).cell? ⟨w.heap.size, 9, none⟩ = some (.string F)) := Lib.hid (by
    rw [hwq]
    exact ⟨HB.out, alloc_cell w _ _ _ 0, alloc_cell w _ _ _ 1, alloc_cell w _ _ _ 2, alloc_cell w _ _ _ 3, alloc_cell w _ _ _ 4, alloc_cell w _ _ _ 5, alloc_cell w _ _ _ 6, alloc_cell w _ _ _ 7, alloc_cell w _ _ _ 8, alloc_cell w _ _ _ 9⟩)
  have HS1 : Hid (Below w.heap.size w wq.drew ∧ (wq.drew).cell? ⟨w.heap.size, 0, none⟩ = some (.string S) ∧ (wq.drew).cell? ⟨w.heap.size, 1, none⟩ = some (.string U) ∧ (wq.drew).cell? ⟨w.heap.size, 2, none⟩ = some (.string P) ∧ (wq.drew).cell? ⟨w.heap.size, 3, none⟩ = some (.string H) ∧ (wq.drew).cell? ⟨w.heap.size, 4, none⟩ = some (.int .i64 pt) ∧ (wq.drew).cell? ⟨w.heap.size, 5, none⟩ = some (.string T) ∧ (wq.drew).cell? ⟨w.heap.size, 6, none⟩ = some (.bool hq) ∧ (wq.drew).cell? ⟨w.heap.size, 7, none⟩ = some (.string Q) ∧ (wq.drew).cell? ⟨w.heap.size, 8, none⟩ = some (.bool hf) ∧ (wq.drew).cell? ⟨w.heap.size, 9, none⟩ = some (.string F)) := Lib.hid (HST.out wq wq.drew HS0.out (below_draws (Below.refl _ _) ⟨1, rfl⟩))
  rw [← hwq]
  clear hwq HB
  go_region_held3 (fun W => Below w.heap.size w W ∧ W.cell? ⟨w.heap.size, 0, none⟩ = some (.string S) ∧ W.cell? ⟨w.heap.size, 1, none⟩ = some (.string U) ∧ W.cell? ⟨w.heap.size, 2, none⟩ = some (.string P) ∧ W.cell? ⟨w.heap.size, 3, none⟩ = some (.string H) ∧ W.cell? ⟨w.heap.size, 4, none⟩ = some (.int .i64 pt) ∧ W.cell? ⟨w.heap.size, 5, none⟩ = some (.string T) ∧ W.cell? ⟨w.heap.size, 6, none⟩ = some (.bool hq) ∧ W.cell? ⟨w.heap.size, 7, none⟩ = some (.string Q) ∧ W.cell? ⟨w.heap.size, 8, none⟩ = some (.bool hf) ∧ W.cell? ⟨w.heap.size, 9, none⟩ = some (.string F))
    (first | exact HS1.out | assumption)
    (first
      | (go_at_call 38; refine (HUT.out _ (by assumption)).mono ?_; rintro e w7 ⟨rfl, hS7⟩)
      | (go_at_call 40; refine (HDC.out _ (by assumption)).mono ?_; rintro e w8 ⟨rfl, hS8⟩)
      | (go_at_call 39; with_reducible refine (HM1.out _).mono ?_; rintro e w9 ⟨rfl, rfl⟩)
      | (go_at_call 39; with_reducible refine (HM2.out _).mono ?_; rintro e w9 ⟨rfl, rfl⟩)
      | (go_at_call 39; with_reducible refine (HM3.out _).mono ?_; rintro e w9 ⟨rfl, rfl⟩))
  go_wp2_with fail
  go_ret
  exact ⟨by rw [← HR.out]; rfl, by first | exact hS8.1 | exact hS7.1⟩

end Go.Proofs.YtlhdafinfgdlkaaGreatDoor
