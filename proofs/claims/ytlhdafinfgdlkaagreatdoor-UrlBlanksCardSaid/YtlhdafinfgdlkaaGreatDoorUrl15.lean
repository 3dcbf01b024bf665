/- Port; what the document fixes (awake). -/
import Derived.Test.YtlhdafinfgdlkaaGreatDoorShelf
import Derived.Deep.MidRow
import Derived.Test.YtlhdafinfgdlkaaGreatDoorVshelf
import Derived.Lib.LaidU8T
import Derived.PinnedBridge
import Derived.Stop.LaidErr
import Derived.Deep.DeepHandedRow
import Derived.Test.YtlhdafinfgdlkaaGreatDoorRows
import Derived.Lib.ItoaLen
import Derived.Test.YtlhdafinfgdlkaaGreatDoorKit
import Derived.Test.YtlhdafinfgdlkaaGreatDoorAsc4
import Derived.Test.YtlhdafinfgdlkaaGreatDoorRow
import Derived.Test.YtlhdafinfgdlkaaGreatDoorHst1
import Derived.Test.YtlhdafinfgdlkaaGreatDoorUrl0
import Derived.Test.YtlhdafinfgdlkaaGreatDoorUrl4
import Derived.Test.YtlhdafinfgdlkaaGreatDoorUrl6
import Derived.Test.YtlhdafinfgdlkaaGreatDoorUrl9
import Derived.Test.YtlhdafinfgdlkaaGreatDoorUrl10
import Derived.Test.YtlhdafinfgdlkaaGreatDoorUrl12
namespace Go.Proofs.YtlhdafinfgdlkaaGreatDoor
open Go.RowKit Go.Proofs
set_option maxRecDepth 100000

theorem uPortU_any (S U P H T Q F : ByteArray) (pt : Int) (hq hf : Bool) (w : World) :
    Calls Tryz.prog 17 #[.agg #[.string S, .string U, .string P, .string H, .int .i64 pt, .string T, .bool hq, .string Q, .bool hf, .string F]] w fun e w' => e = .returned (.int .i64 (if pt = -1 then (defP S.data.toList).1 else pt)) ∧ Below w.heap.size w w' := by
  have HD := Lib.hid (fun W => udef_any S W)
  obtain ⟨D, hD⟩ : ∃ D, D = (defP S.data.toList).1 := ⟨_, rfl⟩
  obtain ⟨B, hB⟩ : ∃ B, B = (defP S.data.toList).2 := ⟨_, rfl⟩
  rw [← hD, ← hB] at HD
  rw [← hD]
  have HB := Lib.hid (below_more (Below.refl _ w) (.cells #[.string S, .string U, .string P, .string H, .int .i64 pt, .string T, .bool hq, .string Q, .bool hf, .string F] 24))
  obtain ⟨R, hR⟩ : ∃ R, R = if pt = -1 then D else pt := ⟨_, rfl⟩
  rw [← hR]
  clear hD hB
  by_cases hp : pt = -1
  · have HR : Hid (R = D) := Lib.hid (by rw [hR, if_pos hp])
    have q1 : (pt != -1) = false := by simp [hp]
    clear hR hp
    go_enter Tryz.func17, Tryz.ntmps17
    go_wp2_with fail
    refine (HD.out _).mono ?_
    rintro e w1 ⟨rfl, rfl⟩
    go_wp2_with fail
    go_ret
    exact ⟨ret_int HR.out.symm, HB.out⟩
  · have HR : Hid (R = pt) := Lib.hid (by rw [hR, if_neg hp])
    have q1 : (pt != -1) = true := by simp [hp]
    clear hR hp
    go_enter Tryz.func17, Tryz.ntmps17
    go_wp2_with fail
    go_ret
    exact ⟨ret_int HR.out.symm, HB.out⟩

def awA : List UInt8 := [72, 84, 84, 80, 83, 58, 92, 92, 69, 120, 46, 99, 111, 109, 58, 52, 52, 51, 92, 97, 92, 46, 46, 92, 98, 63, 113, 35, 102]

def awB : List UInt8 := [102, 105, 108, 101, 58, 47, 47, 47, 97]

theorem aw_a : bodyP awA = some ⟨[104, 116, 116, 112, 115], [], [], [101, 120, 46, 99, 111, 109], -1, [47, 98], true, [113], true, [102]⟩ := by kernel_rfl

theorem aw_b : bodyP awB = none := by kernel_rfl

theorem aw_t : textU ⟨[104, 116, 116, 112, 115], [], [], [101, 120, 46, 99, 111, 109], -1, [47, 98], true, [113], true, [102]⟩ = [104, 116, 116, 112, 115, 58, 47, 47, 101, 120, 46, 99, 111, 109, 47, 98, 63, 113, 35, 102] := by kernel_rfl

set_option maxHeartbeats 2000000 in
theorem uawake_any (w : World) (hE : Env11 w) : Calls Tryz.prog 9 #[] w fun e w' => e = .returned (.bool true) ∧ Below w.heap.size w w' := by
  have HA : Hid (∀ W, Env11 W → Calls Tryz.prog 10 #[.string ⟨#[72, 84, 84, 80, 83, 58, 92, 92, 69, 120, 46, 99, 111, 109, 58, 52, 52, 51, 92, 97, 92, 46, 46, 92, 98, 63, 113, 35, 102]⟩] W fun e w' => e = .returned (.tuple #[.agg #[.string ⟨#[104, 116, 116, 112, 115]⟩, .string ⟨#[]⟩, .string ⟨#[]⟩, .string ⟨#[101, 120, 46, 99, 111, 109]⟩, .int .i64 (-1), .string ⟨#[47, 98]⟩, .bool true, .string ⟨#[113]⟩, .bool true, .string ⟨#[102]⟩], .int .i64 0]) ∧ Below W.heap.size W w') := Lib.hid (by
    intro W hW
    refine (uparse_any ⟨awA.toArray⟩ (by decide) W hW).mono ?_
    rintro e w' ⟨rfl, hb⟩
    refine ⟨?_, hb⟩
    have e1 : urlP (⟨awA.toArray⟩ : ByteArray).data.toList = some ⟨[104, 116, 116, 112, 115], [], [], [101, 120, 46, 99, 111, 109], -1, [47, 98], true, [113], true, [102]⟩ := by
      show urlP awA = _
      rw [url_plain (by unfold plainL; decide) (by decide), aw_a]
    rw [e1]
    rfl)
  have HBB : Hid (∀ W, Env11 W → Calls Tryz.prog 10 #[.string ⟨#[102, 105, 108, 101, 58, 47, 47, 47, 97]⟩] W fun e w' => e = .returned (.tuple #[.agg #[.string ⟨#[]⟩, .string ⟨#[]⟩, .string ⟨#[]⟩, .string ⟨#[]⟩, .int .i64 0, .string ⟨#[]⟩, .bool false, .string ⟨#[]⟩, .bool false, .string ⟨#[]⟩], .int .i64 8]) ∧ Below W.heap.size W w') := Lib.hid (by
    intro W hW
    refine (uparse_any ⟨awB.toArray⟩ (by decide) W hW).mono ?_
    rintro e w' ⟨rfl, hb⟩
    refine ⟨?_, hb⟩
    have e1 : urlP (⟨awB.toArray⟩ : ByteArray).data.toList = none := by
      show urlP awB = _
      rw [url_plain (by unfold plainL; decide) (by decide), aw_b]
    rw [e1]
    rfl)
  have HTX : Hid (∀ W, Env11 W → Calls Tryz.prog 15 #[.agg #[.string ⟨#[104, 116, 116, 112, 115]⟩, .string ⟨#[]⟩, .string ⟨#[]⟩, .string ⟨#[101, 120, 46, 99, 111, 109]⟩, .int .i64 (-1), .string ⟨#[47, 98]⟩, .bool true, .string ⟨#[113]⟩, .bool true, .string ⟨#[102]⟩]] W fun e w' => e = .returned (.string ⟨#[104, 116, 116, 112, 115, 58, 47, 47, 101, 120, 46, 99, 111, 109, 47, 98, 63, 113, 35, 102]⟩) ∧ Below W.heap.size W w') := Lib.hid (by
    intro W hW
    refine (utext_any ⟨#[104, 116, 116, 112, 115]⟩ ⟨#[]⟩ ⟨#[]⟩ ⟨#[101, 120, 46, 99, 111, 109]⟩ ⟨#[47, 98]⟩ ⟨#[113]⟩ ⟨#[102]⟩ (-1) true true (by decide) (by decide) (by decide) (by decide) (by decide) (by decide) (by decide) (by decide) W hW.2.1).mono ?_
    rintro e w' ⟨rfl, hb⟩
    refine ⟨?_, hb⟩
    show Ending.returned (strL (textU ⟨[104, 116, 116, 112, 115], [], [], [101, 120, 46, 99, 111, 109], -1, [47, 98], true, [113], true, [102]⟩)) = _
    rw [aw_t]
    rfl)
  have HPO : Hid (∀ W, Calls Tryz.prog 17 #[.agg #[.string ⟨#[104, 116, 116, 112, 115]⟩, .string ⟨#[]⟩, .string ⟨#[]⟩, .string ⟨#[101, 120, 46, 99, 111, 109]⟩, .int .i64 (-1), .string ⟨#[47, 98]⟩, .bool true, .string ⟨#[113]⟩, .bool true, .string ⟨#[102]⟩]] W fun e w' => e = .returned (.int .i64 443) ∧ Below W.heap.size W w') := Lib.hid (by
    intro W
    exact uPortU_any ⟨#[104, 116, 116, 112, 115]⟩ ⟨#[]⟩ ⟨#[]⟩ ⟨#[101, 120, 46, 99, 111, 109]⟩ ⟨#[47, 98]⟩ ⟨#[113]⟩ ⟨#[102]⟩ (-1) true true W)
  have HE := Lib.hid hE
  clear hE
  go_enter Tryz.func9, Tryz.ntmps9
  go_wp2_with fail
  refine (HA.out w HE.out).mono ?_
  rintro e w1 ⟨rfl, hb1⟩
  have HB1 := Lib.hid (below_more hb1 (.cells #[.string ⟨#[104, 116, 116, 112, 115]⟩, .string ⟨#[]⟩, .string ⟨#[]⟩, .string ⟨#[101, 120, 46, 99, 111, 109]⟩, .int .i64 (-1), .string ⟨#[47, 98]⟩, .bool true, .string ⟨#[113]⟩, .bool true, .string ⟨#[102]⟩] 24))
  have HR1 : Hid (Rw (w1.alloc (.cells #[.string ⟨#[104, 116, 116, 112, 115]⟩, .string ⟨#[]⟩, .string ⟨#[]⟩, .string ⟨#[101, 120, 46, 99, 111, 109]⟩, .int .i64 (-1), .string ⟨#[47, 98]⟩, .bool true, .string ⟨#[113]⟩, .bool true, .string ⟨#[102]⟩] 24)) 0 w1.heap.size 24 [.string ⟨#[104, 116, 116, 112, 115]⟩, .string ⟨#[]⟩, .string ⟨#[]⟩, .string ⟨#[101, 120, 46, 99, 111, 109]⟩, .int .i64 (-1), .string ⟨#[47, 98]⟩, .bool true, .string ⟨#[113]⟩, .bool true, .string ⟨#[102]⟩]) := Lib.hid (Rw.alloc w1 _ _ (Nat.zero_le _))
  clear hb1
  go_wp2_with fail
  refine (HBB.out _ (env_below HE.out HB1.out)).mono ?_
  rintro e w2 ⟨rfl, hb2⟩
  have HB2 := Lib.hid (below_more (below_then HB1.out hb2) (.cells #[.string ⟨#[]⟩, .string ⟨#[]⟩, .string ⟨#[]⟩, .string ⟨#[]⟩, .int .i64 0, .string ⟨#[]⟩, .bool false, .string ⟨#[]⟩, .bool false, .string ⟨#[]⟩] 24))
  have HR2 := Lib.hid (Rw.more (Rw.below HR1.out hb2) (.cells #[.string ⟨#[]⟩, .string ⟨#[]⟩, .string ⟨#[]⟩, .string ⟨#[]⟩, .int .i64 0, .string ⟨#[]⟩, .bool false, .string ⟨#[]⟩, .bool false, .string ⟨#[]⟩] 24))
  clear hb2
  have k0 := Rw.cell HR2.out (j := 0) rfl
  have k1 := Rw.cell HR2.out (j := 1) rfl
  have k2 := Rw.cell HR2.out (j := 2) rfl
  have k3 := Rw.cell HR2.out (j := 3) rfl
  have k4 := Rw.cell HR2.out (j := 4) rfl
  have k5 := Rw.cell HR2.out (j := 5) rfl
  have k6 := Rw.cell HR2.out (j := 6) rfl
  have k7 := Rw.cell HR2.out (j := 7) rfl
  have k8 := Rw.cell HR2.out (j := 8) rfl
  have k9 := Rw.cell HR2.out (j := 9) rfl
  go_wp2_with fail
  refine (HTX.out _ (env_below HE.out HB2.out)).mono ?_
  rintro e w3 ⟨rfl, hb3⟩
  have HB3 := Lib.hid (below_then HB2.out hb3)
  have HR3 := Lib.hid (Rw.below HR2.out hb3)
  clear hb3 k0 k1 k2 k3 k4 k5 k6 k7 k8 k9
  have k0 := Rw.cell HR3.out (j := 0) rfl
  have k1 := Rw.cell HR3.out (j := 1) rfl
  have k2 := Rw.cell HR3.out (j := 2) rfl
  have k3 := Rw.cell HR3.out (j := 3) rfl
  have k4 := Rw.cell HR3.out (j := 4) rfl
  have k5 := Rw.cell HR3.out (j := 5) rfl
  have k6 := Rw.cell HR3.out (j := 6) rfl
  have k7 := Rw.cell HR3.out (j := 7) rfl
  have k8 := Rw.cell HR3.out (j := 8) rfl
  have k9 := Rw.cell HR3.out (j := 9) rfl
  go_wp2_with fail
  refine (HPO.out _).mono ?_
  rintro e w4 ⟨rfl, hb4⟩
  have HB4 := Lib.hid (below_then HB3.out hb4)
  clear hb4
  go_wp2_with fail
  go_ret
  exact ⟨rfl, HB4.out⟩

theorem u8extra11 : U8Extra Tryz.prog Tryz.lays196_ren := ⟨by kernel_rfl, by kernel_rfl, by kernel_rfl, by kernel_rfl, by kernel_rfl, by kernel_rfl, by kernel_rfl⟩

theorem accept_eq11 : (Rows.laid_unicode_utf8_acceptRanges : DataW Unit) = Lib.acceptData := by kernel_rfl

theorem Tryz.p10Type11 : (Tryz.prog.globals[3]?).map (·.type) = some 153 := by kernel_rfl

theorem Tryz.p10Cells11 : Tryz.prog.cellsOf 153 = 20 := by kernel_rfl

theorem Tryz.p10One11 : Tryz.prog.cellsOf 82 = 1 := by kernel_rfl

theorem Tryz.p10Named11 : Tryz.prog.globalNamed "internal/strconv.uint64pow10" = some 3 := by kernel_rfl

theorem env_of {W : World} (h : laidMetH Tryz.prog [("math/bits.deBruijn32tab", Rows.laid_math_bits_deBruijn32tab), ("math/bits.deBruijn64tab", Rows.laid_math_bits_deBruijn64tab), ("internal/strconv.uint64pow10", Rows.laid_internal_strconv_uint64pow10), ("unicode/utf8.acceptRanges", Rows.laid_unicode_utf8_acceptRanges), ("unicode/utf8.first", Rows.laid_unicode_utf8_first)] W) (hS : W.ShapedOpen Tryz.prog) : Env11 W := by
  have h2 : laidMet Tryz.prog [("math/bits.deBruijn32tab", Rows.laid_math_bits_deBruijn32tab), ("math/bits.deBruijn64tab", Rows.laid_math_bits_deBruijn64tab), ("internal/strconv.uint64pow10", Rows.laid_internal_strconv_uint64pow10), ("unicode/utf8.acceptRanges", Rows.laid_unicode_utf8_acceptRanges), ("unicode/utf8.first", Rows.laid_unicode_utf8_first)] W := h
  have r1 := Lib.laidMet.reads h2 (.tail _ (.tail _ (.tail _ (.head _))))
  have r2 := Lib.laidMet.reads h2 (.tail _ (.tail _ (.tail _ (.tail _ (.head _)))))
  rw [accept_eq11] at r1
  have e2 : (Rows.laid_unicode_utf8_first : DataW Unit) = Lib.firstData := Pinned.utf8First_eq
  rw [e2] at r2
  exact ⟨utf8Tabs_of_readsT (U8Types.of196 Tryz.lays196) u8extra11 r2 r1,
    Lib.tabIs_of_head (rest := [("unicode/utf8.acceptRanges", Rows.laid_unicode_utf8_acceptRanges), ("unicode/utf8.first", Rows.laid_unicode_utf8_first)]) Tryz.p10Named11 Tryz.p10Type11 Tryz.underlying153 Tryz.underlying82 Tryz.p10One11 Tryz.p10Cells11 (laidMet.tail (laidMet.tail h2)),
    Tryz.laysM219.s1_3 W hS⟩

/-- Parse's answer, field by field. -/
def parsedV (u : UrlM) (n : Int) : Value := .tuple #[.agg #[.string ⟨u.sch.toArray⟩, .string ⟨u.usr.toArray⟩, .string ⟨u.pas.toArray⟩, .string ⟨u.hos.toArray⟩, .int .i64 u.prt, .string ⟨u.pth.toArray⟩, .bool u.hq, .string ⟨u.qry.toArray⟩, .bool u.hf, .string ⟨u.frg.toArray⟩], .int .i64 n]

theorem parsed_eq (o : Option UrlM) : urlR o = parsedV (o.getD urlZ) (urlE o) := rfl

theorem head_at {l : List UInt8} {c : UInt8} {r : List UInt8} (h : l = c :: r) : ∃ hp : 0 < (⟨l.toArray⟩ : ByteArray).size, (⟨l.toArray⟩ : ByteArray)[0]'hp = c := by
  subst h
  exact ⟨by rw [mk_size]; simp, rfl⟩

theorem shape_small {u : UrlM} (h : ShapeU u) : u.sch.length ≤ 1048576 ∧ u.usr.length ≤ 1048576 ∧ u.pas.length ≤ 1048576 ∧ u.hos.length ≤ 1048576 ∧ u.pth.length ≤ 1048576 ∧ u.qry.length ≤ 1048576 ∧ u.frg.length ≤ 1048576 ∧ (-9223372036854775808 ≤ u.prt ∧ u.prt ≤ 9223372036854775807) := by
  obtain ⟨_, _, _, s4⟩ := scheme_fact h.sch
  obtain ⟨x, hx, hxl⟩ := h.usr
  obtain ⟨y, hy, hyl⟩ := h.pas
  obtain ⟨_, _, _, _, h5⟩ := h.hos
  obtain ⟨z, hz, hzl⟩ := h.pth
  have h1 := encl_len hx hxl
  have h2 := encl_len hy hyl
  have h3 := path_len z
  rw [← hz] at h3
  have hq : u.qry.length ≤ 9000 := by
    have hh := h.qry
    split at hh
    · obtain ⟨a, ha, hal⟩ := hh
      exact encl_len ha hal
    · rw [hh]; simp
  have hf : u.frg.length ≤ 9000 := by
    have hh := h.frg
    split at hh
    · obtain ⟨a, ha, hal⟩ := hh
      exact encl_len ha hal
    · rw [hh]; simp
  have hp : -1 ≤ u.prt ∧ u.prt ≤ 65535 := by
    rcases h.prt with e | ⟨a, b, _⟩
    · rw [e]; decide
    · omega
  exact ⟨by omega, by omega, by omega, by omega, by omega, by omega, by omega, by omega, by omega⟩

theorem mark_len (b : Bool) (m p : List UInt8) : (markL b m p).length ≤ m.length + p.length := by
  unfold markL
  split
  · rw [List.length_append]; exact Nat.le_refl _
  · simp

theorem text_len {u : UrlM} (h : ShapeU u) : (textU u).length ≤ 10000000 := by
  obtain ⟨a1, a2, a3, a4, a5, a6, a7, a8⟩ := shape_small h
  have b1 := mark_len (decide (u.prt ≠ -1)) [58] (Lib.itoa u.prt)
  have b2 := mark_len u.hq [63] u.qry
  have b3 := mark_len u.hf [35] u.frg
  have b4 := mark_len (decide (u.pas ≠ [])) [58] u.pas
  have b5 := Lib.itoa_length_le u.prt a8.1 a8.2
  have b6 : (userL2 u).length ≤ u.usr.length + (markL (decide (u.pas ≠ [])) [58] u.pas).length + 1 := by
    unfold userL2
    split
    · simp
    · rw [List.length_append, List.length_append]; exact Nat.le_refl _
  unfold textU
  simp only [List.length_append, List.length_cons, List.length_nil] at *
  omega

set_option maxHeartbeats 4000000 in
theorem urlBack_any (s : ByteArray) (hs : s.size ≤ 140737488351232) (w : World) (hE : Env11 w) :
    Calls Tryz.prog 5 #[.string s] w fun e w' => e = .returned (.bool true) ∧ Below w.heap.size w w' := by
  have HE := Lib.hid hE
  have HAW := Lib.hid (fun W (hW : Env11 W) => uawake_any W hW)
  by_cases hbig : 3000 < s.size
  · have hbz : (3000 : Int) < (s.size : Int) := by omega
    clear hbig hE
    go_enter Tryz.func5, Tryz.ntmps5
    go_wp2_with fail
    refine (HAW.out _ HE.out).mono ?_
    rintro e w1 ⟨rfl, hb1⟩
    have HB1 := Lib.hid hb1
    clear hb1
    go_wp2_with fail
    go_ret
    exact ⟨rfl, HB1.out⟩
  have hbz : ¬ (3000 : Int) < (s.size : Int) := by omega
  have HP := Lib.hid (uparse_any s (by omega) w hE)
  obtain ⟨o, ho⟩ : ∃ o, o = urlP s.data.toList := ⟨_, rfl⟩
  rw [← ho] at HP
  cases o with
  | none =>
    have HP2 : Hid (Calls Tryz.prog 10 #[.string s] w fun e w' => e = .returned (.tuple #[.agg #[.string ⟨#[]⟩, .string ⟨#[]⟩, .string ⟨#[]⟩, .string ⟨#[]⟩, .int .i64 0, .string ⟨#[]⟩, .bool false, .string ⟨#[]⟩, .bool false, .string ⟨#[]⟩], .int .i64 8]) ∧ Below w.heap.size w w') := HP
    clear ho hbig hE HP
    go_enter Tryz.func5, Tryz.ntmps5
    go_wp2_with fail
    refine HP2.out.mono ?_
    rintro e w1 ⟨rfl, hb1⟩
    have HB1 := Lib.hid (below_more hb1 (.cells #[.string ⟨#[]⟩, .string ⟨#[]⟩, .string ⟨#[]⟩, .string ⟨#[]⟩, .int .i64 0, .string ⟨#[]⟩, .bool false, .string ⟨#[]⟩, .bool false, .string ⟨#[]⟩] 24))
    clear hb1
    go_wp2_with fail
    refine (HAW.out _ (env_below HE.out HB1.out)).mono ?_
    rintro e w2 ⟨rfl, hb2⟩
    have HB2 := Lib.hid (below_then HB1.out hb2)
    clear hb2
    go_wp2_with fail
    go_ret
    exact ⟨rfl, HB2.out⟩
  | some u =>
    have hsh := url_shape ho.symm (by rw [size_data]; omega)
    have hbk := url_back hsh
    obtain ⟨z, hz, _⟩ := hsh.pth
    obtain ⟨_, _, _, r, hr⟩ := path_path z
    rw [← hz] at hr
    obtain ⟨hp0, hp1⟩ := head_at hr
    have hh0 := hsh.hos.2.2.2.1
    have HP2 : Hid (Calls Tryz.prog 10 #[.string s] w fun e w' => e = .returned (parsedV u 0) ∧ Below w.heap.size w w') := HP
    have HSZ : Hid (u.sch.length ≤ 1048576 ∧ u.usr.length ≤ 1048576 ∧ u.pas.length ≤ 1048576 ∧ u.hos.length ≤ 1048576 ∧ u.pth.length ≤ 1048576 ∧ u.qry.length ≤ 1048576 ∧ u.frg.length ≤ 1048576 ∧ (-9223372036854775808 ≤ u.prt ∧ u.prt ≤ 9223372036854775807)) := Lib.hid (shape_small hsh)
    obtain ⟨t, ht⟩ : ∃ t : ByteArray, t = ⟨(textU u).toArray⟩ := ⟨_, rfl⟩
    have hts : t.size ≤ 1073741824 := by
      rw [ht, mk_size]
      have := text_len hsh
      omega
    have htl : t.data.toList = textU u := by rw [ht]
    have HPT : Hid (∀ W, Env11 W → Calls Tryz.prog 10 #[.string t] W fun e w' => e = .returned (parsedV u 0) ∧ Below W.heap.size W w') := Lib.hid (by
      intro W hW
      have := uparse_any t hts W hW
      rw [htl, hbk] at this
      exact this)
    obtain ⟨pt, hpt⟩ : ∃ pt, pt = u.prt := ⟨_, rfl⟩
    obtain ⟨hq, hhq⟩ : ∃ hq, hq = u.hq := ⟨_, rfl⟩
    obtain ⟨hf, hhf⟩ : ∃ hf, hf = u.hf := ⟨_, rfl⟩
    obtain ⟨S, hS⟩ : ∃ S : ByteArray, S = ⟨u.sch.toArray⟩ := ⟨_, rfl⟩
    obtain ⟨U, hU⟩ : ∃ U : ByteArray, U = ⟨u.usr.toArray⟩ := ⟨_, rfl⟩
    obtain ⟨P, hP⟩ : ∃ P : ByteArray, P = ⟨u.pas.toArray⟩ := ⟨_, rfl⟩
    obtain ⟨H, hH⟩ : ∃ H : ByteArray, H = ⟨u.hos.toArray⟩ := ⟨_, rfl⟩
    obtain ⟨T, hT⟩ : ∃ T : ByteArray, T = ⟨u.pth.toArray⟩ := ⟨_, rfl⟩
    obtain ⟨Q, hQ⟩ : ∃ Q : ByteArray, Q = ⟨u.qry.toArray⟩ := ⟨_, rfl⟩
    obtain ⟨F, hF⟩ : ∃ F : ByteArray, F = ⟨u.frg.toArray⟩ := ⟨_, rfl⟩
    have HTX : Hid (∀ W, Env11 W → Calls Tryz.prog 15 #[.agg #[.string S, .string U, .string P, .string H, .int .i64 pt, .string T, .bool hq, .string Q, .bool hf, .string F]] W fun e w' => e = .returned (.string t) ∧ Below W.heap.size W w') := Lib.hid (by
      intro W hW
      obtain ⟨z1, z2, z3, z4, z5, z6, z7, z8⟩ := HSZ.out
      rw [hS, hU, hP, hH, hT, hQ, hF, hpt, hhq, hhf]
      refine (utext_any ⟨u.sch.toArray⟩ ⟨u.usr.toArray⟩ ⟨u.pas.toArray⟩ ⟨u.hos.toArray⟩ ⟨u.pth.toArray⟩ ⟨u.qry.toArray⟩ ⟨u.frg.toArray⟩ u.prt u.hq u.hf z1 z2 z3 z4 z5 z6 z7 z8 W hW.2.1).mono ?_
      rintro e w' ⟨rfl, hb⟩
      exact ⟨by rw [ht]; rfl, hb⟩)
    unfold parsedV at HP2 HPT
    rw [← hS, ← hU, ← hP, ← hH, ← hT, ← hQ, ← hF, ← hpt, ← hhq, ← hhf] at HP2 HPT
    have hTT : ∃ hp : 0 < T.size, T[0]'hp = 47 := by subst hT; exact ⟨hp0, hp1⟩
    obtain ⟨hT0, hT1⟩ := hTT
    have yT := emptyNo (show T.size ≠ 0 by omega)
    have yH := emptyNo (show H.size ≠ 0 by rw [hH, mk_size]; exact fun h => hh0 (List.eq_nil_of_length_eq_zero h))
    have hTi : (0 : Int) < (T.size : Int) := by omega
    clear hp0 hp1 hr hz hS hU hP hH hT hQ hF hpt hhq hhf ht htl hbk hsh ho HSZ hh0 hE HP hbig
    go_enter Tryz.func5, Tryz.ntmps5
    go_wp2_with fail
    refine HP2.out.mono ?_
    rintro e w1 ⟨rfl, hb1⟩
    have HB1 := Lib.hid (below_more hb1 (.cells #[.string S, .string U, .string P, .string H, .int .i64 pt, .string T, .bool hq, .string Q, .bool hf, .string F] 24))
    have HR1 : Hid (Rw (w1.alloc (.cells #[.string S, .string U, .string P, .string H, .int .i64 pt, .string T, .bool hq, .string Q, .bool hf, .string F] 24)) 0 w1.heap.size 24 [.string S, .string U, .string P, .string H, .int .i64 pt, .string T, .bool hq, .string Q, .bool hf, .string F]) := Lib.hid (Rw.alloc w1 _ _ (Nat.zero_le _))
    clear hb1
    go_wp2_with fail
    refine (HTX.out _ (env_below HE.out HB1.out)).mono ?_
    rintro e w2 ⟨rfl, hb2⟩
    have HB2 := Lib.hid (below_then HB1.out hb2)
    have HR2 := Lib.hid (Rw.below HR1.out hb2)
    clear hb2
    go_wp2_with fail
    refine (HPT.out _ (env_below HE.out HB2.out)).mono ?_
    rintro e w3 ⟨rfl, hb3⟩
    have HB3 := Lib.hid (below_more (below_then HB2.out hb3) (.cells #[.string S, .string U, .string P, .string H, .int .i64 pt, .string T, .bool hq, .string Q, .bool hf, .string F] 24))
    have HR3 := Lib.hid (Rw.more (Rw.below HR2.out hb3) (.cells #[.string S, .string U, .string P, .string H, .int .i64 pt, .string T, .bool hq, .string Q, .bool hf, .string F] 24))
    have k0 := Rw.cell HR3.out (j := 0) rfl
    have k1 := Rw.cell HR3.out (j := 1) rfl
    have k2 := Rw.cell HR3.out (j := 2) rfl
    have k3 := Rw.cell HR3.out (j := 3) rfl
    have k4 := Rw.cell HR3.out (j := 4) rfl
    have k5 := Rw.cell HR3.out (j := 5) rfl
    have k6 := Rw.cell HR3.out (j := 6) rfl
    have k7 := Rw.cell HR3.out (j := 7) rfl
    have k8 := Rw.cell HR3.out (j := 8) rfl
    have k9 := Rw.cell HR3.out (j := 9) rfl
    clear hb3
    go_wp2_with fail
    refine (HAW.out _ (env_below HE.out HB3.out)).mono ?_
    rintro e w4 ⟨rfl, hb4⟩
    have HB4 := Lib.hid (below_then HB3.out hb4)
    clear hb4
    go_wp2_with fail
    go_ret
    exact ⟨rfl, HB4.out⟩

end Go.Proofs.YtlhdafinfgdlkaaGreatDoor
