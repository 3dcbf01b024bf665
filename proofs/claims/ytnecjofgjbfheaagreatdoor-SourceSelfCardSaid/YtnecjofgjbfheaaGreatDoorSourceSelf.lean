/-
  SourceSelf: a URL matches self of its own Origin, and one of another host never does; the card's statement, its listed tables tied to the program's text. No condition.
-/
import Derived.Stop.LaidErr
import Derived.Deep.DeepHandedRow
import Derived.Test.YtnecjofgjbfheaaGreatDoorCards
import Derived.Test.YtnecjofgjbfheaaGreatDoorTie
import Derived.Test.YtnecjofgjbfheaaGreatDoorProg
import Derived.Test.YtnecjofgjbfheaaGreatDoorKit
import Derived.Test.YtnecjofgjbfheaaGreatDoorLaw
import Derived.Test.YtnecjofgjbfheaaGreatDoorRow
import Derived.Test.YtnecjofgjbfheaaGreatDoorHst1
import Derived.Test.YtnecjofgjbfheaaGreatDoorUrl0
import Derived.Test.YtnecjofgjbfheaaGreatDoorOrg0
import Derived.Test.YtnecjofgjbfheaaGreatDoorOrg10
import Derived.Test.YtnecjofgjbfheaaGreatDoorSrc0
import Derived.Test.YtnecjofgjbfheaaGreatDoorSrc8
import Derived.Test.YtnecjofgjbfheaaGreatDoorSrc10
import Derived.Test.YtnecjofgjbfheaaGreatDoorSrc16
namespace Go.Proofs.YtnecjofgjbfheaaGreatDoor
open Go.ChangeShapes Go.WideShapes Go.ChangeAt Go.RowKit Go.Proofs
open Go.ChangeMaps (open_string shut_string)
set_option maxRecDepth 100000

set_option maxRecDepth 100000 in
set_option maxHeartbeats 16000000 in
theorem sourceSelf_any (s : ByteArray) (hs : s.size ≤ 140737488351232) (t : ByteArray) (ht : t.size ≤ 140737488351232) (w : World) (hT : Tab10 w) :
    Calls Tryz.prog 7 #[.string s, .string t] w fun e w' => e = .returned (.bool true) ∧ Below w.heap.size w w' := by
  have HT := Lib.hid hT
  have HB0 := Lib.hid (Below.refl w.heap.size w)
  have HP := Lib.hid (fun W => sparsed_any s hs W)
  have HP3 := Lib.hid (fun W => sparsed_any t ht W)
  have hok2 := @prs_ok s.data.toList
  have hok3 := @prs_ok t.data.toList
  obtain ⟨ok, hok⟩ : ∃ ok, ok = prsB s.data.toList := ⟨_, rfl⟩
  obtain ⟨u, hu⟩ : ∃ u, u = prsU s.data.toList := ⟨_, rfl⟩
  rw [← hok, ← hu] at HP
  rw [← hok, ← hu] at hok2
  obtain ⟨is, his⟩ : ∃ is, is = prsB t.data.toList := ⟨_, rfl⟩
  obtain ⟨u3, hu3⟩ : ∃ u3, u3 = prsU t.data.toList := ⟨_, rfl⟩
  rw [← his, ← hu3] at HP3
  rw [← his, ← hu3] at hok3
  clear hok hu hT his hu3
  obtain ⟨S, hSe⟩ : ∃ S : ByteArray, S = ⟨u.sch.toArray⟩ := ⟨_, rfl⟩
  obtain ⟨U, hUe⟩ : ∃ U : ByteArray, U = ⟨u.usr.toArray⟩ := ⟨_, rfl⟩
  obtain ⟨P, hPe⟩ : ∃ P : ByteArray, P = ⟨u.pas.toArray⟩ := ⟨_, rfl⟩
  obtain ⟨H, hHe⟩ : ∃ H : ByteArray, H = ⟨u.hos.toArray⟩ := ⟨_, rfl⟩
  obtain ⟨pt, hpte⟩ : ∃ pt, pt = u.prt := ⟨_, rfl⟩
  obtain ⟨T, hTe⟩ : ∃ T : ByteArray, T = ⟨u.pth.toArray⟩ := ⟨_, rfl⟩
  obtain ⟨hq, hhqe⟩ : ∃ hq, hq = u.hq := ⟨_, rfl⟩
  obtain ⟨Q, hQe⟩ : ∃ Q : ByteArray, Q = ⟨u.qry.toArray⟩ := ⟨_, rfl⟩
  obtain ⟨hf, hhfe⟩ : ∃ hf, hf = u.hf := ⟨_, rfl⟩
  obtain ⟨F, hFe⟩ : ∃ F : ByteArray, F = ⟨u.frg.toArray⟩ := ⟨_, rfl⟩
  have huv : urlV u = .agg #[.string S, .string U, .string P, .string H, .int .i64 pt, .string T, .bool hq, .string Q, .bool hf, .string F] := by rw [hSe, hUe, hPe, hHe, hpte, hTe, hhqe, hQe, hhfe, hFe]; rfl
  obtain ⟨S3, hS3e⟩ : ∃ S3 : ByteArray, S3 = ⟨u3.sch.toArray⟩ := ⟨_, rfl⟩
  obtain ⟨U3, hU3e⟩ : ∃ U3 : ByteArray, U3 = ⟨u3.usr.toArray⟩ := ⟨_, rfl⟩
  obtain ⟨P3, hP3e⟩ : ∃ P3 : ByteArray, P3 = ⟨u3.pas.toArray⟩ := ⟨_, rfl⟩
  obtain ⟨H3, hH3e⟩ : ∃ H3 : ByteArray, H3 = ⟨u3.hos.toArray⟩ := ⟨_, rfl⟩
  obtain ⟨pt3, hpt3e⟩ : ∃ pt3, pt3 = u3.prt := ⟨_, rfl⟩
  obtain ⟨T3, hT3e⟩ : ∃ T3 : ByteArray, T3 = ⟨u3.pth.toArray⟩ := ⟨_, rfl⟩
  obtain ⟨hq3, hhq3e⟩ : ∃ hq3, hq3 = u3.hq := ⟨_, rfl⟩
  obtain ⟨Q3, hQ3e⟩ : ∃ Q3 : ByteArray, Q3 = ⟨u3.qry.toArray⟩ := ⟨_, rfl⟩
  obtain ⟨hf3, hhf3e⟩ : ∃ hf3, hf3 = u3.hf := ⟨_, rfl⟩
  obtain ⟨F3, hF3e⟩ : ∃ F3 : ByteArray, F3 = ⟨u3.frg.toArray⟩ := ⟨_, rfl⟩
  have huv3 : urlV u3 = .agg #[.string S3, .string U3, .string P3, .string H3, .int .i64 pt3, .string T3, .bool hq3, .string Q3, .bool hf3, .string F3] := by rw [hS3e, hU3e, hP3e, hH3e, hpt3e, hT3e, hhq3e, hQ3e, hhf3e, hF3e]; rfl
  rw [huv] at HP
  rw [huv3] at HP3
  have hHs : H.size = u.hos.length := by rw [hHe, mk_size]
  have hTs : T.size = u.pth.length := by rw [hTe, mk_size]
  have hHs3 : H3.size = u3.hos.length := by rw [hH3e, mk_size]
  have hTs3 : T3.size = u3.pth.length := by rw [hT3e, mk_size]
  have hSn : u.sch ≠ [] → S.data.toList ≠ [] := fun h => by rw [hSe]; exact h
  clear huv huv3
  clear hSe hUe hPe hHe hpte hTe hhqe hQe hhfe hFe
  clear hS3e hU3e hP3e hH3e hpt3e hT3e hhq3e hQ3e hhf3e hF3e
  cases ok
  case false =>
    clear hok2 hok3 hSn
    go_enter Tryz.func7, Tryz.ntmps7
    go_wp2_with fail
    refine (HP.out _).mono ?_
    rintro e w1 ⟨rfl, hb⟩
    have HB_1 := Lib.hid (below_then HB0.out hb)
    clear hb
    have HBv_1b : Hid (Below w.heap.size w (w1.alloc (.cells #[.string S, .string U, .string P, .string H, .int .i64 pt, .string T, .bool hq, .string Q, .bool hf, .string F] 31))) := Lib.hid (below_more HB_1.out _)
    have HRvu_1b : Hid (Rw (w1.alloc (.cells #[.string S, .string U, .string P, .string H, .int .i64 pt, .string T, .bool hq, .string Q, .bool hf, .string F] 31)) 0 w1.heap.size 31 [.string S, .string U, .string P, .string H, .int .i64 pt, .string T, .bool hq, .string Q, .bool hf, .string F]) := Lib.hid (Rw.alloc w1 _ _ (Nat.zero_le _))
    have cu0_1 := Rw.cell HRvu_1b.out (j := 0) rfl
    have cu1_1 := Rw.cell HRvu_1b.out (j := 1) rfl
    have cu2_1 := Rw.cell HRvu_1b.out (j := 2) rfl
    have cu3_1 := Rw.cell HRvu_1b.out (j := 3) rfl
    have cu4_1 := Rw.cell HRvu_1b.out (j := 4) rfl
    have cu5_1 := Rw.cell HRvu_1b.out (j := 5) rfl
    have cu6_1 := Rw.cell HRvu_1b.out (j := 6) rfl
    have cu7_1 := Rw.cell HRvu_1b.out (j := 7) rfl
    have cu8_1 := Rw.cell HRvu_1b.out (j := 8) rfl
    have cu9_1 := Rw.cell HRvu_1b.out (j := 9) rfl
    go_wp2_with fail
    refine (HP3.out _).mono ?_
    rintro e w2 ⟨rfl, hb⟩
    have HB_2 := Lib.hid (below_then HBv_1b.out hb)
    have HRu_2 := Lib.hid (Rw.below HRvu_1b.out hb)
    clear hb cu0_1 cu1_1 cu2_1 cu3_1 cu4_1 cu5_1 cu6_1 cu7_1 cu8_1 cu9_1
    have HBv_2b : Hid (Below w.heap.size w (w2.alloc (.cells #[.string S3, .string U3, .string P3, .string H3, .int .i64 pt3, .string T3, .bool hq3, .string Q3, .bool hf3, .string F3] 31))) := Lib.hid (below_more HB_2.out _)
    have HRvu_2b : Hid (Rw (w2.alloc (.cells #[.string S3, .string U3, .string P3, .string H3, .int .i64 pt3, .string T3, .bool hq3, .string Q3, .bool hf3, .string F3] 31)) 0 w1.heap.size 31 [.string S, .string U, .string P, .string H, .int .i64 pt, .string T, .bool hq, .string Q, .bool hf, .string F]) := Lib.hid (Rw.more HRu_2.out _)
    have HRvv_2b : Hid (Rw (w2.alloc (.cells #[.string S3, .string U3, .string P3, .string H3, .int .i64 pt3, .string T3, .bool hq3, .string Q3, .bool hf3, .string F3] 31)) 0 w2.heap.size 31 [.string S3, .string U3, .string P3, .string H3, .int .i64 pt3, .string T3, .bool hq3, .string Q3, .bool hf3, .string F3]) := Lib.hid (Rw.alloc w2 _ _ (Nat.zero_le _))
    have cu0_2 := Rw.cell HRvu_2b.out (j := 0) rfl
    have cu1_2 := Rw.cell HRvu_2b.out (j := 1) rfl
    have cu2_2 := Rw.cell HRvu_2b.out (j := 2) rfl
    have cu3_2 := Rw.cell HRvu_2b.out (j := 3) rfl
    have cu4_2 := Rw.cell HRvu_2b.out (j := 4) rfl
    have cu5_2 := Rw.cell HRvu_2b.out (j := 5) rfl
    have cu6_2 := Rw.cell HRvu_2b.out (j := 6) rfl
    have cu7_2 := Rw.cell HRvu_2b.out (j := 7) rfl
    have cu8_2 := Rw.cell HRvu_2b.out (j := 8) rfl
    have cu9_2 := Rw.cell HRvu_2b.out (j := 9) rfl
    have cv0_2 := Rw.cell HRvv_2b.out (j := 0) rfl
    have cv1_2 := Rw.cell HRvv_2b.out (j := 1) rfl
    have cv2_2 := Rw.cell HRvv_2b.out (j := 2) rfl
    have cv3_2 := Rw.cell HRvv_2b.out (j := 3) rfl
    have cv4_2 := Rw.cell HRvv_2b.out (j := 4) rfl
    have cv5_2 := Rw.cell HRvv_2b.out (j := 5) rfl
    have cv6_2 := Rw.cell HRvv_2b.out (j := 6) rfl
    have cv7_2 := Rw.cell HRvv_2b.out (j := 7) rfl
    have cv8_2 := Rw.cell HRvv_2b.out (j := 8) rfl
    have cv9_2 := Rw.cell HRvv_2b.out (j := 9) rfl
    go_wp2_with fail
    refine (sawake_any _ (tab10_below HT.out HBv_2b.out)).mono ?_
    rintro e w3 ⟨rfl, hb⟩
    have HB_3 := Lib.hid (below_then HBv_2b.out hb)
    have HRu_3 := Lib.hid (Rw.below HRvu_2b.out hb)
    have HRv_3 := Lib.hid (Rw.below HRvv_2b.out hb)
    clear hb cu0_2 cu1_2 cu2_2 cu3_2 cu4_2 cu5_2 cu6_2 cu7_2 cu8_2 cu9_2 cv0_2 cv1_2 cv2_2 cv3_2 cv4_2 cv5_2 cv6_2 cv7_2 cv8_2 cv9_2
    have cu0_3 := Rw.cell HRu_3.out (j := 0) rfl
    have cu1_3 := Rw.cell HRu_3.out (j := 1) rfl
    have cu2_3 := Rw.cell HRu_3.out (j := 2) rfl
    have cu3_3 := Rw.cell HRu_3.out (j := 3) rfl
    have cu4_3 := Rw.cell HRu_3.out (j := 4) rfl
    have cu5_3 := Rw.cell HRu_3.out (j := 5) rfl
    have cu6_3 := Rw.cell HRu_3.out (j := 6) rfl
    have cu7_3 := Rw.cell HRu_3.out (j := 7) rfl
    have cu8_3 := Rw.cell HRu_3.out (j := 8) rfl
    have cu9_3 := Rw.cell HRu_3.out (j := 9) rfl
    have cv0_3 := Rw.cell HRv_3.out (j := 0) rfl
    have cv1_3 := Rw.cell HRv_3.out (j := 1) rfl
    have cv2_3 := Rw.cell HRv_3.out (j := 2) rfl
    have cv3_3 := Rw.cell HRv_3.out (j := 3) rfl
    have cv4_3 := Rw.cell HRv_3.out (j := 4) rfl
    have cv5_3 := Rw.cell HRv_3.out (j := 5) rfl
    have cv6_3 := Rw.cell HRv_3.out (j := 6) rfl
    have cv7_3 := Rw.cell HRv_3.out (j := 7) rfl
    have cv8_3 := Rw.cell HRv_3.out (j := 8) rfl
    have cv9_3 := Rw.cell HRv_3.out (j := 9) rfl
    go_wp2_with fail
    go_ret
    exact ⟨rfl, HB_3.out⟩
  case true =>
    cases is
    case false =>
      clear hok2 hok3 hSn
      go_enter Tryz.func7, Tryz.ntmps7
      go_wp2_with fail
      refine (HP.out _).mono ?_
      rintro e w1 ⟨rfl, hb⟩
      have HB_1 := Lib.hid (below_then HB0.out hb)
      clear hb
      have HBv_1b : Hid (Below w.heap.size w (w1.alloc (.cells #[.string S, .string U, .string P, .string H, .int .i64 pt, .string T, .bool hq, .string Q, .bool hf, .string F] 31))) := Lib.hid (below_more HB_1.out _)
      have HRvu_1b : Hid (Rw (w1.alloc (.cells #[.string S, .string U, .string P, .string H, .int .i64 pt, .string T, .bool hq, .string Q, .bool hf, .string F] 31)) 0 w1.heap.size 31 [.string S, .string U, .string P, .string H, .int .i64 pt, .string T, .bool hq, .string Q, .bool hf, .string F]) := Lib.hid (Rw.alloc w1 _ _ (Nat.zero_le _))
      have cu0_1 := Rw.cell HRvu_1b.out (j := 0) rfl
      have cu1_1 := Rw.cell HRvu_1b.out (j := 1) rfl
      have cu2_1 := Rw.cell HRvu_1b.out (j := 2) rfl
      have cu3_1 := Rw.cell HRvu_1b.out (j := 3) rfl
      have cu4_1 := Rw.cell HRvu_1b.out (j := 4) rfl
      have cu5_1 := Rw.cell HRvu_1b.out (j := 5) rfl
      have cu6_1 := Rw.cell HRvu_1b.out (j := 6) rfl
      have cu7_1 := Rw.cell HRvu_1b.out (j := 7) rfl
      have cu8_1 := Rw.cell HRvu_1b.out (j := 8) rfl
      have cu9_1 := Rw.cell HRvu_1b.out (j := 9) rfl
      go_wp2_with fail
      refine (HP3.out _).mono ?_
      rintro e w2 ⟨rfl, hb⟩
      have HB_2 := Lib.hid (below_then HBv_1b.out hb)
      have HRu_2 := Lib.hid (Rw.below HRvu_1b.out hb)
      clear hb cu0_1 cu1_1 cu2_1 cu3_1 cu4_1 cu5_1 cu6_1 cu7_1 cu8_1 cu9_1
      have HBv_2b : Hid (Below w.heap.size w (w2.alloc (.cells #[.string S3, .string U3, .string P3, .string H3, .int .i64 pt3, .string T3, .bool hq3, .string Q3, .bool hf3, .string F3] 31))) := Lib.hid (below_more HB_2.out _)
      have HRvu_2b : Hid (Rw (w2.alloc (.cells #[.string S3, .string U3, .string P3, .string H3, .int .i64 pt3, .string T3, .bool hq3, .string Q3, .bool hf3, .string F3] 31)) 0 w1.heap.size 31 [.string S, .string U, .string P, .string H, .int .i64 pt, .string T, .bool hq, .string Q, .bool hf, .string F]) := Lib.hid (Rw.more HRu_2.out _)
      have HRvv_2b : Hid (Rw (w2.alloc (.cells #[.string S3, .string U3, .string P3, .string H3, .int .i64 pt3, .string T3, .bool hq3, .string Q3, .bool hf3, .string F3] 31)) 0 w2.heap.size 31 [.string S3, .string U3, .string P3, .string H3, .int .i64 pt3, .string T3, .bool hq3, .string Q3, .bool hf3, .string F3]) := Lib.hid (Rw.alloc w2 _ _ (Nat.zero_le _))
      have cu0_2 := Rw.cell HRvu_2b.out (j := 0) rfl
      have cu1_2 := Rw.cell HRvu_2b.out (j := 1) rfl
      have cu2_2 := Rw.cell HRvu_2b.out (j := 2) rfl
      have cu3_2 := Rw.cell HRvu_2b.out (j := 3) rfl
      have cu4_2 := Rw.cell HRvu_2b.out (j := 4) rfl
      have cu5_2 := Rw.cell HRvu_2b.out (j := 5) rfl
      have cu6_2 := Rw.cell HRvu_2b.out (j := 6) rfl
      have cu7_2 := Rw.cell HRvu_2b.out (j := 7) rfl
      have cu8_2 := Rw.cell HRvu_2b.out (j := 8) rfl
      have cu9_2 := Rw.cell HRvu_2b.out (j := 9) rfl
      have cv0_2 := Rw.cell HRvv_2b.out (j := 0) rfl
      have cv1_2 := Rw.cell HRvv_2b.out (j := 1) rfl
      have cv2_2 := Rw.cell HRvv_2b.out (j := 2) rfl
      have cv3_2 := Rw.cell HRvv_2b.out (j := 3) rfl
      have cv4_2 := Rw.cell HRvv_2b.out (j := 4) rfl
      have cv5_2 := Rw.cell HRvv_2b.out (j := 5) rfl
      have cv6_2 := Rw.cell HRvv_2b.out (j := 6) rfl
      have cv7_2 := Rw.cell HRvv_2b.out (j := 7) rfl
      have cv8_2 := Rw.cell HRvv_2b.out (j := 8) rfl
      have cv9_2 := Rw.cell HRvv_2b.out (j := 9) rfl
      go_wp2_with fail
      refine (sawake_any _ (tab10_below HT.out HBv_2b.out)).mono ?_
      rintro e w3 ⟨rfl, hb⟩
      have HB_3 := Lib.hid (below_then HBv_2b.out hb)
      have HRu_3 := Lib.hid (Rw.below HRvu_2b.out hb)
      have HRv_3 := Lib.hid (Rw.below HRvv_2b.out hb)
      clear hb cu0_2 cu1_2 cu2_2 cu3_2 cu4_2 cu5_2 cu6_2 cu7_2 cu8_2 cu9_2 cv0_2 cv1_2 cv2_2 cv3_2 cv4_2 cv5_2 cv6_2 cv7_2 cv8_2 cv9_2
      have cu0_3 := Rw.cell HRu_3.out (j := 0) rfl
      have cu1_3 := Rw.cell HRu_3.out (j := 1) rfl
      have cu2_3 := Rw.cell HRu_3.out (j := 2) rfl
      have cu3_3 := Rw.cell HRu_3.out (j := 3) rfl
      have cu4_3 := Rw.cell HRu_3.out (j := 4) rfl
      have cu5_3 := Rw.cell HRu_3.out (j := 5) rfl
      have cu6_3 := Rw.cell HRu_3.out (j := 6) rfl
      have cu7_3 := Rw.cell HRu_3.out (j := 7) rfl
      have cu8_3 := Rw.cell HRu_3.out (j := 8) rfl
      have cu9_3 := Rw.cell HRu_3.out (j := 9) rfl
      have cv0_3 := Rw.cell HRv_3.out (j := 0) rfl
      have cv1_3 := Rw.cell HRv_3.out (j := 1) rfl
      have cv2_3 := Rw.cell HRv_3.out (j := 2) rfl
      have cv3_3 := Rw.cell HRv_3.out (j := 3) rfl
      have cv4_3 := Rw.cell HRv_3.out (j := 4) rfl
      have cv5_3 := Rw.cell HRv_3.out (j := 5) rfl
      have cv6_3 := Rw.cell HRv_3.out (j := 6) rfl
      have cv7_3 := Rw.cell HRv_3.out (j := 7) rfl
      have cv8_3 := Rw.cell HRv_3.out (j := 8) rfl
      have cv9_3 := Rw.cell HRv_3.out (j := 9) rfl
      go_wp2_with fail
      go_ret
      exact ⟨rfl, HB_3.out⟩
    case true =>
      obtain ⟨q1, q2, q3⟩ := hok2 rfl
      obtain ⟨q4, q5, _⟩ := hok3 rfl
      have hS0 := hSn q3
      have C1 : Hid (∀ W, Calls Tryz.prog 11 #[.string ⟨#[39, 83, 69, 76, 70, 39]⟩] W fun e w' => e = .returned (.agg #[.int .i64 2, .string ⟨#[]⟩, .string ⟨#[]⟩, .string ⟨#[]⟩, .string ⟨#[]⟩]) ∧ Below W.heap.size W w') := Lib.hid (fun W => (sparse_any ⟨#[39, 83, 69, 76, 70, 39]⟩ (by decide) W).mono (by
        rintro e w' ⟨rfl, hb⟩
        refine ⟨?_, hb⟩
        show Ending.returned (expV (srcP [39, 83, 69, 76, 70, 39])) = _
        rw [src_SELF]
        rfl))
      have C2 := Lib.hid (fun W => roOf_any S U P H T Q F pt hq hf W)
      have M1 := Lib.hid (fun W (hW : Tab10 W) => smat_any 2 ⟨#[]⟩ ⟨#[]⟩ ⟨#[]⟩ ⟨#[]⟩ S U P H T Q F pt hq hf S H (pU S.data.toList pt) 0 (by decide) (by decide) (by decide) (by omega) (by omega) W hW)
      have M2 := Lib.hid (fun W (hW : Tab10 W) => smat_any 2 ⟨#[]⟩ ⟨#[]⟩ ⟨#[]⟩ ⟨#[]⟩ S3 U3 P3 H3 T3 Q3 F3 pt3 hq3 hf3 S H (pU S.data.toList pt) 0 (by decide) (by decide) (by decide) (by omega) (by omega) W hW)
      have M3 := Lib.hid (fun W (hW : Tab10 W) => smat_any 2 ⟨#[]⟩ ⟨#[]⟩ ⟨#[]⟩ ⟨#[]⟩ S U P H T Q F pt hq hf ⟨#[]⟩ ⟨#[]⟩ 0 0 (by decide) (by decide) (by decide) (by omega) (by omega) W hW)
      have f1 : matB ⟨2, (⟨#[]⟩ : ByteArray).data.toList, (⟨#[]⟩ : ByteArray).data.toList, (⟨#[]⟩ : ByteArray).data.toList, (⟨#[]⟩ : ByteArray).data.toList⟩ ⟨S.data.toList, H.data.toList, pU S.data.toList pt, T.data.toList⟩ ⟨S.data.toList, H.data.toList, pU S.data.toList pt⟩ 0 = true := (mat_self _ _ _).trans (self_own ⟨S.data.toList, H.data.toList, pU S.data.toList pt, T.data.toList⟩ hS0)
      have f2 : H.data.toList ≠ H3.data.toList → matB ⟨2, (⟨#[]⟩ : ByteArray).data.toList, (⟨#[]⟩ : ByteArray).data.toList, (⟨#[]⟩ : ByteArray).data.toList, (⟨#[]⟩ : ByteArray).data.toList⟩ ⟨S3.data.toList, H3.data.toList, pU S3.data.toList pt3, T3.data.toList⟩ ⟨S.data.toList, H.data.toList, pU S.data.toList pt⟩ 0 = false := fun h => (mat_self _ _ _).trans (self_other _ _ h)
      have f3 : matB ⟨2, (⟨#[]⟩ : ByteArray).data.toList, (⟨#[]⟩ : ByteArray).data.toList, (⟨#[]⟩ : ByteArray).data.toList, (⟨#[]⟩ : ByteArray).data.toList⟩ ⟨S.data.toList, H.data.toList, pU S.data.toList pt, T.data.toList⟩ ⟨(⟨#[]⟩ : ByteArray).data.toList, (⟨#[]⟩ : ByteArray).data.toList, 0⟩ 0 = false := (mat_self _ _ _).trans (self_zero _)
      rw [f1] at M1
      rw [f3] at M3
      obtain ⟨p, hp⟩ : ∃ p, p = pU S.data.toList pt := ⟨_, rfl⟩
      rw [← hp] at C2 M1 M2 f2
      clear f1 f3 hp hSn hS0 q1 q2 q3 q4 q5 hHs hTs hHs3 hTs3
      by_cases hh : H.data.toList = H3.data.toList
      case pos =>
        have qh := txts_eq hh
        clear f2 hh M2
        go_enter Tryz.func7, Tryz.ntmps7
        go_wp2_with fail
        refine (HP.out _).mono ?_
        rintro e w1 ⟨rfl, hb⟩
        have HB_1 := Lib.hid (below_then HB0.out hb)
        clear hb
        have HBv_1b : Hid (Below w.heap.size w (w1.alloc (.cells #[.string S, .string U, .string P, .string H, .int .i64 pt, .string T, .bool hq, .string Q, .bool hf, .string F] 31))) := Lib.hid (below_more HB_1.out _)
        have HRvu_1b : Hid (Rw (w1.alloc (.cells #[.string S, .string U, .string P, .string H, .int .i64 pt, .string T, .bool hq, .string Q, .bool hf, .string F] 31)) 0 w1.heap.size 31 [.string S, .string U, .string P, .string H, .int .i64 pt, .string T, .bool hq, .string Q, .bool hf, .string F]) := Lib.hid (Rw.alloc w1 _ _ (Nat.zero_le _))
        have cu0_1 := Rw.cell HRvu_1b.out (j := 0) rfl
        have cu1_1 := Rw.cell HRvu_1b.out (j := 1) rfl
        have cu2_1 := Rw.cell HRvu_1b.out (j := 2) rfl
        have cu3_1 := Rw.cell HRvu_1b.out (j := 3) rfl
        have cu4_1 := Rw.cell HRvu_1b.out (j := 4) rfl
        have cu5_1 := Rw.cell HRvu_1b.out (j := 5) rfl
        have cu6_1 := Rw.cell HRvu_1b.out (j := 6) rfl
        have cu7_1 := Rw.cell HRvu_1b.out (j := 7) rfl
        have cu8_1 := Rw.cell HRvu_1b.out (j := 8) rfl
        have cu9_1 := Rw.cell HRvu_1b.out (j := 9) rfl
        go_wp2_with fail
        refine (HP3.out _).mono ?_
        rintro e w2 ⟨rfl, hb⟩
        have HB_2 := Lib.hid (below_then HBv_1b.out hb)
        have HRu_2 := Lib.hid (Rw.below HRvu_1b.out hb)
        clear hb cu0_1 cu1_1 cu2_1 cu3_1 cu4_1 cu5_1 cu6_1 cu7_1 cu8_1 cu9_1
        have HBv_2b : Hid (Below w.heap.size w (w2.alloc (.cells #[.string S3, .string U3, .string P3, .string H3, .int .i64 pt3, .string T3, .bool hq3, .string Q3, .bool hf3, .string F3] 31))) := Lib.hid (below_more HB_2.out _)
        have HRvu_2b : Hid (Rw (w2.alloc (.cells #[.string S3, .string U3, .string P3, .string H3, .int .i64 pt3, .string T3, .bool hq3, .string Q3, .bool hf3, .string F3] 31)) 0 w1.heap.size 31 [.string S, .string U, .string P, .string H, .int .i64 pt, .string T, .bool hq, .string Q, .bool hf, .string F]) := Lib.hid (Rw.more HRu_2.out _)
        have HRvv_2b : Hid (Rw (w2.alloc (.cells #[.string S3, .string U3, .string P3, .string H3, .int .i64 pt3, .string T3, .bool hq3, .string Q3, .bool hf3, .string F3] 31)) 0 w2.heap.size 31 [.string S3, .string U3, .string P3, .string H3, .int .i64 pt3, .string T3, .bool hq3, .string Q3, .bool hf3, .string F3]) := Lib.hid (Rw.alloc w2 _ _ (Nat.zero_le _))
        have cu0_2 := Rw.cell HRvu_2b.out (j := 0) rfl
        have cu1_2 := Rw.cell HRvu_2b.out (j := 1) rfl
        have cu2_2 := Rw.cell HRvu_2b.out (j := 2) rfl
        have cu3_2 := Rw.cell HRvu_2b.out (j := 3) rfl
        have cu4_2 := Rw.cell HRvu_2b.out (j := 4) rfl
        have cu5_2 := Rw.cell HRvu_2b.out (j := 5) rfl
        have cu6_2 := Rw.cell HRvu_2b.out (j := 6) rfl
        have cu7_2 := Rw.cell HRvu_2b.out (j := 7) rfl
        have cu8_2 := Rw.cell HRvu_2b.out (j := 8) rfl
        have cu9_2 := Rw.cell HRvu_2b.out (j := 9) rfl
        have cv0_2 := Rw.cell HRvv_2b.out (j := 0) rfl
        have cv1_2 := Rw.cell HRvv_2b.out (j := 1) rfl
        have cv2_2 := Rw.cell HRvv_2b.out (j := 2) rfl
        have cv3_2 := Rw.cell HRvv_2b.out (j := 3) rfl
        have cv4_2 := Rw.cell HRvv_2b.out (j := 4) rfl
        have cv5_2 := Rw.cell HRvv_2b.out (j := 5) rfl
        have cv6_2 := Rw.cell HRvv_2b.out (j := 6) rfl
        have cv7_2 := Rw.cell HRvv_2b.out (j := 7) rfl
        have cv8_2 := Rw.cell HRvv_2b.out (j := 8) rfl
        have cv9_2 := Rw.cell HRvv_2b.out (j := 9) rfl
        go_wp2_with fail
        refine (C1.out _).mono ?_
        rintro e w3 ⟨rfl, hb⟩
        have HB_3 := Lib.hid (below_then HBv_2b.out hb)
        have HRu_3 := Lib.hid (Rw.below HRvu_2b.out hb)
        have HRv_3 := Lib.hid (Rw.below HRvv_2b.out hb)
        clear hb cu0_2 cu1_2 cu2_2 cu3_2 cu4_2 cu5_2 cu6_2 cu7_2 cu8_2 cu9_2 cv0_2 cv1_2 cv2_2 cv3_2 cv4_2 cv5_2 cv6_2 cv7_2 cv8_2 cv9_2
        have HBv_3b : Hid (Below w.heap.size w (w3.alloc (.cells #[.int .i64 2, .string ⟨#[]⟩, .string ⟨#[]⟩, .string ⟨#[]⟩, .string ⟨#[]⟩] 24))) := Lib.hid (below_more HB_3.out _)
        have HRvu_3b : Hid (Rw (w3.alloc (.cells #[.int .i64 2, .string ⟨#[]⟩, .string ⟨#[]⟩, .string ⟨#[]⟩, .string ⟨#[]⟩] 24)) 0 w1.heap.size 31 [.string S, .string U, .string P, .string H, .int .i64 pt, .string T, .bool hq, .string Q, .bool hf, .string F]) := Lib.hid (Rw.more HRu_3.out _)
        have HRvv_3b : Hid (Rw (w3.alloc (.cells #[.int .i64 2, .string ⟨#[]⟩, .string ⟨#[]⟩, .string ⟨#[]⟩, .string ⟨#[]⟩] 24)) 0 w2.heap.size 31 [.string S3, .string U3, .string P3, .string H3, .int .i64 pt3, .string T3, .bool hq3, .string Q3, .bool hf3, .string F3]) := Lib.hid (Rw.more HRv_3.out _)
        have HRve_3b : Hid (Rw (w3.alloc (.cells #[.int .i64 2, .string ⟨#[]⟩, .string ⟨#[]⟩, .string ⟨#[]⟩, .string ⟨#[]⟩] 24)) 0 w3.heap.size 24 [.int .i64 2, .string ⟨#[]⟩, .string ⟨#[]⟩, .string ⟨#[]⟩, .string ⟨#[]⟩]) := Lib.hid (Rw.alloc w3 _ _ (Nat.zero_le _))
        have cu0_3 := Rw.cell HRvu_3b.out (j := 0) rfl
        have cu1_3 := Rw.cell HRvu_3b.out (j := 1) rfl
        have cu2_3 := Rw.cell HRvu_3b.out (j := 2) rfl
        have cu3_3 := Rw.cell HRvu_3b.out (j := 3) rfl
        have cu4_3 := Rw.cell HRvu_3b.out (j := 4) rfl
        have cu5_3 := Rw.cell HRvu_3b.out (j := 5) rfl
        have cu6_3 := Rw.cell HRvu_3b.out (j := 6) rfl
        have cu7_3 := Rw.cell HRvu_3b.out (j := 7) rfl
        have cu8_3 := Rw.cell HRvu_3b.out (j := 8) rfl
        have cu9_3 := Rw.cell HRvu_3b.out (j := 9) rfl
        have cv0_3 := Rw.cell HRvv_3b.out (j := 0) rfl
        have cv1_3 := Rw.cell HRvv_3b.out (j := 1) rfl
        have cv2_3 := Rw.cell HRvv_3b.out (j := 2) rfl
        have cv3_3 := Rw.cell HRvv_3b.out (j := 3) rfl
        have cv4_3 := Rw.cell HRvv_3b.out (j := 4) rfl
        have cv5_3 := Rw.cell HRvv_3b.out (j := 5) rfl
        have cv6_3 := Rw.cell HRvv_3b.out (j := 6) rfl
        have cv7_3 := Rw.cell HRvv_3b.out (j := 7) rfl
        have cv8_3 := Rw.cell HRvv_3b.out (j := 8) rfl
        have cv9_3 := Rw.cell HRvv_3b.out (j := 9) rfl
        have ce0_3 := Rw.cell HRve_3b.out (j := 0) rfl
        have ce1_3 := Rw.cell HRve_3b.out (j := 1) rfl
        have ce2_3 := Rw.cell HRve_3b.out (j := 2) rfl
        have ce3_3 := Rw.cell HRve_3b.out (j := 3) rfl
        have ce4_3 := Rw.cell HRve_3b.out (j := 4) rfl
        go_wp2_with fail
        refine (C2.out _).mono ?_
        rintro e w4 ⟨rfl, hb⟩
        have HB_4 := Lib.hid (below_then HBv_3b.out hb)
        have HRu_4 := Lib.hid (Rw.below HRvu_3b.out hb)
        have HRv_4 := Lib.hid (Rw.below HRvv_3b.out hb)
        have HRe_4 := Lib.hid (Rw.below HRve_3b.out hb)
        clear hb cu0_3 cu1_3 cu2_3 cu3_3 cu4_3 cu5_3 cu6_3 cu7_3 cu8_3 cu9_3 cv0_3 cv1_3 cv2_3 cv3_3 cv4_3 cv5_3 cv6_3 cv7_3 cv8_3 cv9_3 ce0_3 ce1_3 ce2_3 ce3_3 ce4_3
        have HBv_4b : Hid (Below w.heap.size w (w4.alloc (.cells #[.string S, .string H, .int .i64 p] 42))) := Lib.hid (below_more HB_4.out _)
        have HRvu_4b : Hid (Rw (w4.alloc (.cells #[.string S, .string H, .int .i64 p] 42)) 0 w1.heap.size 31 [.string S, .string U, .string P, .string H, .int .i64 pt, .string T, .bool hq, .string Q, .bool hf, .string F]) := Lib.hid (Rw.more HRu_4.out _)
        have HRvv_4b : Hid (Rw (w4.alloc (.cells #[.string S, .string H, .int .i64 p] 42)) 0 w2.heap.size 31 [.string S3, .string U3, .string P3, .string H3, .int .i64 pt3, .string T3, .bool hq3, .string Q3, .bool hf3, .string F3]) := Lib.hid (Rw.more HRv_4.out _)
        have HRve_4b : Hid (Rw (w4.alloc (.cells #[.string S, .string H, .int .i64 p] 42)) 0 w3.heap.size 24 [.int .i64 2, .string ⟨#[]⟩, .string ⟨#[]⟩, .string ⟨#[]⟩, .string ⟨#[]⟩]) := Lib.hid (Rw.more HRe_4.out _)
        have HRvo_4b : Hid (Rw (w4.alloc (.cells #[.string S, .string H, .int .i64 p] 42)) 0 w4.heap.size 42 [.string S, .string H, .int .i64 p]) := Lib.hid (Rw.alloc w4 _ _ (Nat.zero_le _))
        have cu0_4 := Rw.cell HRvu_4b.out (j := 0) rfl
        have cu1_4 := Rw.cell HRvu_4b.out (j := 1) rfl
        have cu2_4 := Rw.cell HRvu_4b.out (j := 2) rfl
        have cu3_4 := Rw.cell HRvu_4b.out (j := 3) rfl
        have cu4_4 := Rw.cell HRvu_4b.out (j := 4) rfl
        have cu5_4 := Rw.cell HRvu_4b.out (j := 5) rfl
        have cu6_4 := Rw.cell HRvu_4b.out (j := 6) rfl
        have cu7_4 := Rw.cell HRvu_4b.out (j := 7) rfl
        have cu8_4 := Rw.cell HRvu_4b.out (j := 8) rfl
        have cu9_4 := Rw.cell HRvu_4b.out (j := 9) rfl
        have cv0_4 := Rw.cell HRvv_4b.out (j := 0) rfl
        have cv1_4 := Rw.cell HRvv_4b.out (j := 1) rfl
        have cv2_4 := Rw.cell HRvv_4b.out (j := 2) rfl
        have cv3_4 := Rw.cell HRvv_4b.out (j := 3) rfl
        have cv4_4 := Rw.cell HRvv_4b.out (j := 4) rfl
        have cv5_4 := Rw.cell HRvv_4b.out (j := 5) rfl
        have cv6_4 := Rw.cell HRvv_4b.out (j := 6) rfl
        have cv7_4 := Rw.cell HRvv_4b.out (j := 7) rfl
        have cv8_4 := Rw.cell HRvv_4b.out (j := 8) rfl
        have cv9_4 := Rw.cell HRvv_4b.out (j := 9) rfl
        have ce0_4 := Rw.cell HRve_4b.out (j := 0) rfl
        have ce1_4 := Rw.cell HRve_4b.out (j := 1) rfl
        have ce2_4 := Rw.cell HRve_4b.out (j := 2) rfl
        have ce3_4 := Rw.cell HRve_4b.out (j := 3) rfl
        have ce4_4 := Rw.cell HRve_4b.out (j := 4) rfl
        have co0_4 := Rw.cell HRvo_4b.out (j := 0) rfl
        have co1_4 := Rw.cell HRvo_4b.out (j := 1) rfl
        have co2_4 := Rw.cell HRvo_4b.out (j := 2) rfl
        go_wp2_with fail
        refine (M1.out _ (tab10_below HT.out HBv_4b.out)).mono ?_
        rintro e w5 ⟨rfl, hb⟩
        have HB_5 := Lib.hid (below_then HBv_4b.out hb)
        have HRu_5 := Lib.hid (Rw.below HRvu_4b.out hb)
        have HRv_5 := Lib.hid (Rw.below HRvv_4b.out hb)
        have HRe_5 := Lib.hid (Rw.below HRve_4b.out hb)
        have HRo_5 := Lib.hid (Rw.below HRvo_4b.out hb)
        clear hb cu0_4 cu1_4 cu2_4 cu3_4 cu4_4 cu5_4 cu6_4 cu7_4 cu8_4 cu9_4 cv0_4 cv1_4 cv2_4 cv3_4 cv4_4 cv5_4 cv6_4 cv7_4 cv8_4 cv9_4 ce0_4 ce1_4 ce2_4 ce3_4 ce4_4 co0_4 co1_4 co2_4
        have cu0_5 := Rw.cell HRu_5.out (j := 0) rfl
        have cu1_5 := Rw.cell HRu_5.out (j := 1) rfl
        have cu2_5 := Rw.cell HRu_5.out (j := 2) rfl
        have cu3_5 := Rw.cell HRu_5.out (j := 3) rfl
        have cu4_5 := Rw.cell HRu_5.out (j := 4) rfl
        have cu5_5 := Rw.cell HRu_5.out (j := 5) rfl
        have cu6_5 := Rw.cell HRu_5.out (j := 6) rfl
        have cu7_5 := Rw.cell HRu_5.out (j := 7) rfl
        have cu8_5 := Rw.cell HRu_5.out (j := 8) rfl
        have cu9_5 := Rw.cell HRu_5.out (j := 9) rfl
        have cv0_5 := Rw.cell HRv_5.out (j := 0) rfl
        have cv1_5 := Rw.cell HRv_5.out (j := 1) rfl
        have cv2_5 := Rw.cell HRv_5.out (j := 2) rfl
        have cv3_5 := Rw.cell HRv_5.out (j := 3) rfl
        have cv4_5 := Rw.cell HRv_5.out (j := 4) rfl
        have cv5_5 := Rw.cell HRv_5.out (j := 5) rfl
        have cv6_5 := Rw.cell HRv_5.out (j := 6) rfl
        have cv7_5 := Rw.cell HRv_5.out (j := 7) rfl
        have cv8_5 := Rw.cell HRv_5.out (j := 8) rfl
        have cv9_5 := Rw.cell HRv_5.out (j := 9) rfl
        have ce0_5 := Rw.cell HRe_5.out (j := 0) rfl
        have ce1_5 := Rw.cell HRe_5.out (j := 1) rfl
        have ce2_5 := Rw.cell HRe_5.out (j := 2) rfl
        have ce3_5 := Rw.cell HRe_5.out (j := 3) rfl
        have ce4_5 := Rw.cell HRe_5.out (j := 4) rfl
        have co0_5 := Rw.cell HRo_5.out (j := 0) rfl
        have co1_5 := Rw.cell HRo_5.out (j := 1) rfl
        have co2_5 := Rw.cell HRo_5.out (j := 2) rfl
        go_wp2_with fail
        refine (M3.out _ (tab10_below HT.out HB_5.out)).mono ?_
        rintro e w6 ⟨rfl, hb⟩
        have HB_6 := Lib.hid (below_then HB_5.out hb)
        have HRu_6 := Lib.hid (Rw.below HRu_5.out hb)
        have HRv_6 := Lib.hid (Rw.below HRv_5.out hb)
        have HRe_6 := Lib.hid (Rw.below HRe_5.out hb)
        have HRo_6 := Lib.hid (Rw.below HRo_5.out hb)
        clear hb cu0_5 cu1_5 cu2_5 cu3_5 cu4_5 cu5_5 cu6_5 cu7_5 cu8_5 cu9_5 cv0_5 cv1_5 cv2_5 cv3_5 cv4_5 cv5_5 cv6_5 cv7_5 cv8_5 cv9_5 ce0_5 ce1_5 ce2_5 ce3_5 ce4_5 co0_5 co1_5 co2_5
        have cu0_6 := Rw.cell HRu_6.out (j := 0) rfl
        have cu1_6 := Rw.cell HRu_6.out (j := 1) rfl
        have cu2_6 := Rw.cell HRu_6.out (j := 2) rfl
        have cu3_6 := Rw.cell HRu_6.out (j := 3) rfl
        have cu4_6 := Rw.cell HRu_6.out (j := 4) rfl
        have cu5_6 := Rw.cell HRu_6.out (j := 5) rfl
        have cu6_6 := Rw.cell HRu_6.out (j := 6) rfl
        have cu7_6 := Rw.cell HRu_6.out (j := 7) rfl
        have cu8_6 := Rw.cell HRu_6.out (j := 8) rfl
        have cu9_6 := Rw.cell HRu_6.out (j := 9) rfl
        have cv0_6 := Rw.cell HRv_6.out (j := 0) rfl
        have cv1_6 := Rw.cell HRv_6.out (j := 1) rfl
        have cv2_6 := Rw.cell HRv_6.out (j := 2) rfl
        have cv3_6 := Rw.cell HRv_6.out (j := 3) rfl
        have cv4_6 := Rw.cell HRv_6.out (j := 4) rfl
        have cv5_6 := Rw.cell HRv_6.out (j := 5) rfl
        have cv6_6 := Rw.cell HRv_6.out (j := 6) rfl
        have cv7_6 := Rw.cell HRv_6.out (j := 7) rfl
        have cv8_6 := Rw.cell HRv_6.out (j := 8) rfl
        have cv9_6 := Rw.cell HRv_6.out (j := 9) rfl
        have ce0_6 := Rw.cell HRe_6.out (j := 0) rfl
        have ce1_6 := Rw.cell HRe_6.out (j := 1) rfl
        have ce2_6 := Rw.cell HRe_6.out (j := 2) rfl
        have ce3_6 := Rw.cell HRe_6.out (j := 3) rfl
        have ce4_6 := Rw.cell HRe_6.out (j := 4) rfl
        have co0_6 := Rw.cell HRo_6.out (j := 0) rfl
        have co1_6 := Rw.cell HRo_6.out (j := 1) rfl
        have co2_6 := Rw.cell HRo_6.out (j := 2) rfl
        go_wp2_with fail
        refine (sawake_any _ (tab10_below HT.out HB_6.out)).mono ?_
        rintro e w7 ⟨rfl, hb⟩
        have HB_7 := Lib.hid (below_then HB_6.out hb)
        have HRu_7 := Lib.hid (Rw.below HRu_6.out hb)
        have HRv_7 := Lib.hid (Rw.below HRv_6.out hb)
        have HRe_7 := Lib.hid (Rw.below HRe_6.out hb)
        have HRo_7 := Lib.hid (Rw.below HRo_6.out hb)
        clear hb cu0_6 cu1_6 cu2_6 cu3_6 cu4_6 cu5_6 cu6_6 cu7_6 cu8_6 cu9_6 cv0_6 cv1_6 cv2_6 cv3_6 cv4_6 cv5_6 cv6_6 cv7_6 cv8_6 cv9_6 ce0_6 ce1_6 ce2_6 ce3_6 ce4_6 co0_6 co1_6 co2_6
        have cu0_7 := Rw.cell HRu_7.out (j := 0) rfl
        have cu1_7 := Rw.cell HRu_7.out (j := 1) rfl
        have cu2_7 := Rw.cell HRu_7.out (j := 2) rfl
        have cu3_7 := Rw.cell HRu_7.out (j := 3) rfl
        have cu4_7 := Rw.cell HRu_7.out (j := 4) rfl
        have cu5_7 := Rw.cell HRu_7.out (j := 5) rfl
        have cu6_7 := Rw.cell HRu_7.out (j := 6) rfl
        have cu7_7 := Rw.cell HRu_7.out (j := 7) rfl
        have cu8_7 := Rw.cell HRu_7.out (j := 8) rfl
        have cu9_7 := Rw.cell HRu_7.out (j := 9) rfl
        have cv0_7 := Rw.cell HRv_7.out (j := 0) rfl
        have cv1_7 := Rw.cell HRv_7.out (j := 1) rfl
        have cv2_7 := Rw.cell HRv_7.out (j := 2) rfl
        have cv3_7 := Rw.cell HRv_7.out (j := 3) rfl
        have cv4_7 := Rw.cell HRv_7.out (j := 4) rfl
        have cv5_7 := Rw.cell HRv_7.out (j := 5) rfl
        have cv6_7 := Rw.cell HRv_7.out (j := 6) rfl
        have cv7_7 := Rw.cell HRv_7.out (j := 7) rfl
        have cv8_7 := Rw.cell HRv_7.out (j := 8) rfl
        have cv9_7 := Rw.cell HRv_7.out (j := 9) rfl
        have ce0_7 := Rw.cell HRe_7.out (j := 0) rfl
        have ce1_7 := Rw.cell HRe_7.out (j := 1) rfl
        have ce2_7 := Rw.cell HRe_7.out (j := 2) rfl
        have ce3_7 := Rw.cell HRe_7.out (j := 3) rfl
        have ce4_7 := Rw.cell HRe_7.out (j := 4) rfl
        have co0_7 := Rw.cell HRo_7.out (j := 0) rfl
        have co1_7 := Rw.cell HRo_7.out (j := 1) rfl
        have co2_7 := Rw.cell HRo_7.out (j := 2) rfl
        go_wp2_with fail
        go_ret
        exact ⟨rfl, HB_7.out⟩
      case neg =>
        have qh := txts_ne hh
        rw [f2 hh] at M2
        clear f2 hh
        go_enter Tryz.func7, Tryz.ntmps7
        go_wp2_with fail
        refine (HP.out _).mono ?_
        rintro e w1 ⟨rfl, hb⟩
        have HB_1 := Lib.hid (below_then HB0.out hb)
        clear hb
        have HBv_1b : Hid (Below w.heap.size w (w1.alloc (.cells #[.string S, .string U, .string P, .string H, .int .i64 pt, .string T, .bool hq, .string Q, .bool hf, .string F] 31))) := Lib.hid (below_more HB_1.out _)
        have HRvu_1b : Hid (Rw (w1.alloc (.cells #[.string S, .string U, .string P, .string H, .int .i64 pt, .string T, .bool hq, .string Q, .bool hf, .string F] 31)) 0 w1.heap.size 31 [.string S, .string U, .string P, .string H, .int .i64 pt, .string T, .bool hq, .string Q, .bool hf, .string F]) := Lib.hid (Rw.alloc w1 _ _ (Nat.zero_le _))
        have cu0_1 := Rw.cell HRvu_1b.out (j := 0) rfl
        have cu1_1 := Rw.cell HRvu_1b.out (j := 1) rfl
        have cu2_1 := Rw.cell HRvu_1b.out (j := 2) rfl
        have cu3_1 := Rw.cell HRvu_1b.out (j := 3) rfl
        have cu4_1 := Rw.cell HRvu_1b.out (j := 4) rfl
        have cu5_1 := Rw.cell HRvu_1b.out (j := 5) rfl
        have cu6_1 := Rw.cell HRvu_1b.out (j := 6) rfl
        have cu7_1 := Rw.cell HRvu_1b.out (j := 7) rfl
        have cu8_1 := Rw.cell HRvu_1b.out (j := 8) rfl
        have cu9_1 := Rw.cell HRvu_1b.out (j := 9) rfl
        go_wp2_with fail
        refine (HP3.out _).mono ?_
        rintro e w2 ⟨rfl, hb⟩
        have HB_2 := Lib.hid (below_then HBv_1b.out hb)
        have HRu_2 := Lib.hid (Rw.below HRvu_1b.out hb)
        clear hb cu0_1 cu1_1 cu2_1 cu3_1 cu4_1 cu5_1 cu6_1 cu7_1 cu8_1 cu9_1
        have HBv_2b : Hid (Below w.heap.size w (w2.alloc (.cells #[.string S3, .string U3, .string P3, .string H3, .int .i64 pt3, .string T3, .bool hq3, .string Q3, .bool hf3, .string F3] 31))) := Lib.hid (below_more HB_2.out _)
        have HRvu_2b : Hid (Rw (w2.alloc (.cells #[.string S3, .string U3, .string P3, .string H3, .int .i64 pt3, .string T3, .bool hq3, .string Q3, .bool hf3, .string F3] 31)) 0 w1.heap.size 31 [.string S, .string U, .string P, .string H, .int .i64 pt, .string T, .bool hq, .string Q, .bool hf, .string F]) := Lib.hid (Rw.more HRu_2.out _)
        have HRvv_2b : Hid (Rw (w2.alloc (.cells #[.string S3, .string U3, .string P3, .string H3, .int .i64 pt3, .string T3, .bool hq3, .string Q3, .bool hf3, .string F3] 31)) 0 w2.heap.size 31 [.string S3, .string U3, .string P3, .string H3, .int .i64 pt3, .string T3, .bool hq3, .string Q3, .bool hf3, .string F3]) := Lib.hid (Rw.alloc w2 _ _ (Nat.zero_le _))
        have cu0_2 := Rw.cell HRvu_2b.out (j := 0) rfl
        have cu1_2 := Rw.cell HRvu_2b.out (j := 1) rfl
        have cu2_2 := Rw.cell HRvu_2b.out (j := 2) rfl
        have cu3_2 := Rw.cell HRvu_2b.out (j := 3) rfl
        have cu4_2 := Rw.cell HRvu_2b.out (j := 4) rfl
        have cu5_2 := Rw.cell HRvu_2b.out (j := 5) rfl
        have cu6_2 := Rw.cell HRvu_2b.out (j := 6) rfl
        have cu7_2 := Rw.cell HRvu_2b.out (j := 7) rfl
        have cu8_2 := Rw.cell HRvu_2b.out (j := 8) rfl
        have cu9_2 := Rw.cell HRvu_2b.out (j := 9) rfl
        have cv0_2 := Rw.cell HRvv_2b.out (j := 0) rfl
        have cv1_2 := Rw.cell HRvv_2b.out (j := 1) rfl
        have cv2_2 := Rw.cell HRvv_2b.out (j := 2) rfl
        have cv3_2 := Rw.cell HRvv_2b.out (j := 3) rfl
        have cv4_2 := Rw.cell HRvv_2b.out (j := 4) rfl
        have cv5_2 := Rw.cell HRvv_2b.out (j := 5) rfl
        have cv6_2 := Rw.cell HRvv_2b.out (j := 6) rfl
        have cv7_2 := Rw.cell HRvv_2b.out (j := 7) rfl
        have cv8_2 := Rw.cell HRvv_2b.out (j := 8) rfl
        have cv9_2 := Rw.cell HRvv_2b.out (j := 9) rfl
        go_wp2_with fail
        refine (C1.out _).mono ?_
        rintro e w3 ⟨rfl, hb⟩
        have HB_3 := Lib.hid (below_then HBv_2b.out hb)
        have HRu_3 := Lib.hid (Rw.below HRvu_2b.out hb)
        have HRv_3 := Lib.hid (Rw.below HRvv_2b.out hb)
        clear hb cu0_2 cu1_2 cu2_2 cu3_2 cu4_2 cu5_2 cu6_2 cu7_2 cu8_2 cu9_2 cv0_2 cv1_2 cv2_2 cv3_2 cv4_2 cv5_2 cv6_2 cv7_2 cv8_2 cv9_2
        have HBv_3b : Hid (Below w.heap.size w (w3.alloc (.cells #[.int .i64 2, .string ⟨#[]⟩, .string ⟨#[]⟩, .string ⟨#[]⟩, .string ⟨#[]⟩] 24))) := Lib.hid (below_more HB_3.out _)
        have HRvu_3b : Hid (Rw (w3.alloc (.cells #[.int .i64 2, .string ⟨#[]⟩, .string ⟨#[]⟩, .string ⟨#[]⟩, .string ⟨#[]⟩] 24)) 0 w1.heap.size 31 [.string S, .string U, .string P, .string H, .int .i64 pt, .string T, .bool hq, .string Q, .bool hf, .string F]) := Lib.hid (Rw.more HRu_3.out _)
        have HRvv_3b : Hid (Rw (w3.alloc (.cells #[.int .i64 2, .string ⟨#[]⟩, .string ⟨#[]⟩, .string ⟨#[]⟩, .string ⟨#[]⟩] 24)) 0 w2.heap.size 31 [.string S3, .string U3, .string P3, .string H3, .int .i64 pt3, .string T3, .bool hq3, .string Q3, .bool hf3, .string F3]) := Lib.hid (Rw.more HRv_3.out _)
        have HRve_3b : Hid (Rw (w3.alloc (.cells #[.int .i64 2, .string ⟨#[]⟩, .string ⟨#[]⟩, .string ⟨#[]⟩, .string ⟨#[]⟩] 24)) 0 w3.heap.size 24 [.int .i64 2, .string ⟨#[]⟩, .string ⟨#[]⟩, .string ⟨#[]⟩, .string ⟨#[]⟩]) := Lib.hid (Rw.alloc w3 _ _ (Nat.zero_le _))
        have cu0_3 := Rw.cell HRvu_3b.out (j := 0) rfl
        have cu1_3 := Rw.cell HRvu_3b.out (j := 1) rfl
        have cu2_3 := Rw.cell HRvu_3b.out (j := 2) rfl
        have cu3_3 := Rw.cell HRvu_3b.out (j := 3) rfl
        have cu4_3 := Rw.cell HRvu_3b.out (j := 4) rfl
        have cu5_3 := Rw.cell HRvu_3b.out (j := 5) rfl
        have cu6_3 := Rw.cell HRvu_3b.out (j := 6) rfl
        have cu7_3 := Rw.cell HRvu_3b.out (j := 7) rfl
        have cu8_3 := Rw.cell HRvu_3b.out (j := 8) rfl
        have cu9_3 := Rw.cell HRvu_3b.out (j := 9) rfl
        have cv0_3 := Rw.cell HRvv_3b.out (j := 0) rfl
        have cv1_3 := Rw.cell HRvv_3b.out (j := 1) rfl
        have cv2_3 := Rw.cell HRvv_3b.out (j := 2) rfl
        have cv3_3 := Rw.cell HRvv_3b.out (j := 3) rfl
        have cv4_3 := Rw.cell HRvv_3b.out (j := 4) rfl
        have cv5_3 := Rw.cell HRvv_3b.out (j := 5) rfl
        have cv6_3 := Rw.cell HRvv_3b.out (j := 6) rfl
        have cv7_3 := Rw.cell HRvv_3b.out (j := 7) rfl
        have cv8_3 := Rw.cell HRvv_3b.out (j := 8) rfl
        have cv9_3 := Rw.cell HRvv_3b.out (j := 9) rfl
        have ce0_3 := Rw.cell HRve_3b.out (j := 0) rfl
        have ce1_3 := Rw.cell HRve_3b.out (j := 1) rfl
        have ce2_3 := Rw.cell HRve_3b.out (j := 2) rfl
        have ce3_3 := Rw.cell HRve_3b.out (j := 3) rfl
        have ce4_3 := Rw.cell HRve_3b.out (j := 4) rfl
        go_wp2_with fail
        refine (C2.out _).mono ?_
        rintro e w4 ⟨rfl, hb⟩
        have HB_4 := Lib.hid (below_then HBv_3b.out hb)
        have HRu_4 := Lib.hid (Rw.below HRvu_3b.out hb)
        have HRv_4 := Lib.hid (Rw.below HRvv_3b.out hb)
        have HRe_4 := Lib.hid (Rw.below HRve_3b.out hb)
        clear hb cu0_3 cu1_3 cu2_3 cu3_3 cu4_3 cu5_3 cu6_3 cu7_3 cu8_3 cu9_3 cv0_3 cv1_3 cv2_3 cv3_3 cv4_3 cv5_3 cv6_3 cv7_3 cv8_3 cv9_3 ce0_3 ce1_3 ce2_3 ce3_3 ce4_3
        have HBv_4b : Hid (Below w.heap.size w (w4.alloc (.cells #[.string S, .string H, .int .i64 p] 42))) := Lib.hid (below_more HB_4.out _)
        have HRvu_4b : Hid (Rw (w4.alloc (.cells #[.string S, .string H, .int .i64 p] 42)) 0 w1.heap.size 31 [.string S, .string U, .string P, .string H, .int .i64 pt, .string T, .bool hq, .string Q, .bool hf, .string F]) := Lib.hid (Rw.more HRu_4.out _)
        have HRvv_4b : Hid (Rw (w4.alloc (.cells #[.string S, .string H, .int .i64 p] 42)) 0 w2.heap.size 31 [.string S3, .string U3, .string P3, .string H3, .int .i64 pt3, .string T3, .bool hq3, .string Q3, .bool hf3, .string F3]) := Lib.hid (Rw.more HRv_4.out _)
        have HRve_4b : Hid (Rw (w4.alloc (.cells #[.string S, .string H, .int .i64 p] 42)) 0 w3.heap.size 24 [.int .i64 2, .string ⟨#[]⟩, .string ⟨#[]⟩, .string ⟨#[]⟩, .string ⟨#[]⟩]) := Lib.hid (Rw.more HRe_4.out _)
        have HRvo_4b : Hid (Rw (w4.alloc (.cells #[.string S, .string H, .int .i64 p] 42)) 0 w4.heap.size 42 [.string S, .string H, .int .i64 p]) := Lib.hid (Rw.alloc w4 _ _ (Nat.zero_le _))
        have cu0_4 := Rw.cell HRvu_4b.out (j := 0) rfl
        have cu1_4 := Rw.cell HRvu_4b.out (j := 1) rfl
        have cu2_4 := Rw.cell HRvu_4b.out (j := 2) rfl
        have cu3_4 := Rw.cell HRvu_4b.out (j := 3) rfl
        have cu4_4 := Rw.cell HRvu_4b.out (j := 4) rfl
        have cu5_4 := Rw.cell HRvu_4b.out (j := 5) rfl
        have cu6_4 := Rw.cell HRvu_4b.out (j := 6) rfl
        have cu7_4 := Rw.cell HRvu_4b.out (j := 7) rfl
        have cu8_4 := Rw.cell HRvu_4b.out (j := 8) rfl
        have cu9_4 := Rw.cell HRvu_4b.out (j := 9) rfl
        have cv0_4 := Rw.cell HRvv_4b.out (j := 0) rfl
        have cv1_4 := Rw.cell HRvv_4b.out (j := 1) rfl
        have cv2_4 := Rw.cell HRvv_4b.out (j := 2) rfl
        have cv3_4 := Rw.cell HRvv_4b.out (j := 3) rfl
        have cv4_4 := Rw.cell HRvv_4b.out (j := 4) rfl
        have cv5_4 := Rw.cell HRvv_4b.out (j := 5) rfl
        have cv6_4 := Rw.cell HRvv_4b.out (j := 6) rfl
        have cv7_4 := Rw.cell HRvv_4b.out (j := 7) rfl
        have cv8_4 := Rw.cell HRvv_4b.out (j := 8) rfl
        have cv9_4 := Rw.cell HRvv_4b.out (j := 9) rfl
        have ce0_4 := Rw.cell HRve_4b.out (j := 0) rfl
        have ce1_4 := Rw.cell HRve_4b.out (j := 1) rfl
        have ce2_4 := Rw.cell HRve_4b.out (j := 2) rfl
        have ce3_4 := Rw.cell HRve_4b.out (j := 3) rfl
        have ce4_4 := Rw.cell HRve_4b.out (j := 4) rfl
        have co0_4 := Rw.cell HRvo_4b.out (j := 0) rfl
        have co1_4 := Rw.cell HRvo_4b.out (j := 1) rfl
        have co2_4 := Rw.cell HRvo_4b.out (j := 2) rfl
        go_wp2_with fail
        refine (M1.out _ (tab10_below HT.out HBv_4b.out)).mono ?_
        rintro e w5 ⟨rfl, hb⟩
        have HB_5 := Lib.hid (below_then HBv_4b.out hb)
        have HRu_5 := Lib.hid (Rw.below HRvu_4b.out hb)
        have HRv_5 := Lib.hid (Rw.below HRvv_4b.out hb)
        have HRe_5 := Lib.hid (Rw.below HRve_4b.out hb)
        have HRo_5 := Lib.hid (Rw.below HRvo_4b.out hb)
        clear hb cu0_4 cu1_4 cu2_4 cu3_4 cu4_4 cu5_4 cu6_4 cu7_4 cu8_4 cu9_4 cv0_4 cv1_4 cv2_4 cv3_4 cv4_4 cv5_4 cv6_4 cv7_4 cv8_4 cv9_4 ce0_4 ce1_4 ce2_4 ce3_4 ce4_4 co0_4 co1_4 co2_4
        have cu0_5 := Rw.cell HRu_5.out (j := 0) rfl
        have cu1_5 := Rw.cell HRu_5.out (j := 1) rfl
        have cu2_5 := Rw.cell HRu_5.out (j := 2) rfl
        have cu3_5 := Rw.cell HRu_5.out (j := 3) rfl
        have cu4_5 := Rw.cell HRu_5.out (j := 4) rfl
        have cu5_5 := Rw.cell HRu_5.out (j := 5) rfl
        have cu6_5 := Rw.cell HRu_5.out (j := 6) rfl
        have cu7_5 := Rw.cell HRu_5.out (j := 7) rfl
        have cu8_5 := Rw.cell HRu_5.out (j := 8) rfl
        have cu9_5 := Rw.cell HRu_5.out (j := 9) rfl
        have cv0_5 := Rw.cell HRv_5.out (j := 0) rfl
        have cv1_5 := Rw.cell HRv_5.out (j := 1) rfl
        have cv2_5 := Rw.cell HRv_5.out (j := 2) rfl
        have cv3_5 := Rw.cell HRv_5.out (j := 3) rfl
        have cv4_5 := Rw.cell HRv_5.out (j := 4) rfl
        have cv5_5 := Rw.cell HRv_5.out (j := 5) rfl
        have cv6_5 := Rw.cell HRv_5.out (j := 6) rfl
        have cv7_5 := Rw.cell HRv_5.out (j := 7) rfl
        have cv8_5 := Rw.cell HRv_5.out (j := 8) rfl
        have cv9_5 := Rw.cell HRv_5.out (j := 9) rfl
        have ce0_5 := Rw.cell HRe_5.out (j := 0) rfl
        have ce1_5 := Rw.cell HRe_5.out (j := 1) rfl
        have ce2_5 := Rw.cell HRe_5.out (j := 2) rfl
        have ce3_5 := Rw.cell HRe_5.out (j := 3) rfl
        have ce4_5 := Rw.cell HRe_5.out (j := 4) rfl
        have co0_5 := Rw.cell HRo_5.out (j := 0) rfl
        have co1_5 := Rw.cell HRo_5.out (j := 1) rfl
        have co2_5 := Rw.cell HRo_5.out (j := 2) rfl
        go_wp2_with fail
        refine (M2.out _ (tab10_below HT.out HB_5.out)).mono ?_
        rintro e w6 ⟨rfl, hb⟩
        have HB_6 := Lib.hid (below_then HB_5.out hb)
        have HRu_6 := Lib.hid (Rw.below HRu_5.out hb)
        have HRv_6 := Lib.hid (Rw.below HRv_5.out hb)
        have HRe_6 := Lib.hid (Rw.below HRe_5.out hb)
        have HRo_6 := Lib.hid (Rw.below HRo_5.out hb)
        clear hb cu0_5 cu1_5 cu2_5 cu3_5 cu4_5 cu5_5 cu6_5 cu7_5 cu8_5 cu9_5 cv0_5 cv1_5 cv2_5 cv3_5 cv4_5 cv5_5 cv6_5 cv7_5 cv8_5 cv9_5 ce0_5 ce1_5 ce2_5 ce3_5 ce4_5 co0_5 co1_5 co2_5
        have cu0_6 := Rw.cell HRu_6.out (j := 0) rfl
        have cu1_6 := Rw.cell HRu_6.out (j := 1) rfl
        have cu2_6 := Rw.cell HRu_6.out (j := 2) rfl
        have cu3_6 := Rw.cell HRu_6.out (j := 3) rfl
        have cu4_6 := Rw.cell HRu_6.out (j := 4) rfl
        have cu5_6 := Rw.cell HRu_6.out (j := 5) rfl
        have cu6_6 := Rw.cell HRu_6.out (j := 6) rfl
        have cu7_6 := Rw.cell HRu_6.out (j := 7) rfl
        have cu8_6 := Rw.cell HRu_6.out (j := 8) rfl
        have cu9_6 := Rw.cell HRu_6.out (j := 9) rfl
        have cv0_6 := Rw.cell HRv_6.out (j := 0) rfl
        have cv1_6 := Rw.cell HRv_6.out (j := 1) rfl
        have cv2_6 := Rw.cell HRv_6.out (j := 2) rfl
        have cv3_6 := Rw.cell HRv_6.out (j := 3) rfl
        have cv4_6 := Rw.cell HRv_6.out (j := 4) rfl
        have cv5_6 := Rw.cell HRv_6.out (j := 5) rfl
        have cv6_6 := Rw.cell HRv_6.out (j := 6) rfl
        have cv7_6 := Rw.cell HRv_6.out (j := 7) rfl
        have cv8_6 := Rw.cell HRv_6.out (j := 8) rfl
        have cv9_6 := Rw.cell HRv_6.out (j := 9) rfl
        have ce0_6 := Rw.cell HRe_6.out (j := 0) rfl
        have ce1_6 := Rw.cell HRe_6.out (j := 1) rfl
        have ce2_6 := Rw.cell HRe_6.out (j := 2) rfl
        have ce3_6 := Rw.cell HRe_6.out (j := 3) rfl
        have ce4_6 := Rw.cell HRe_6.out (j := 4) rfl
        have co0_6 := Rw.cell HRo_6.out (j := 0) rfl
        have co1_6 := Rw.cell HRo_6.out (j := 1) rfl
        have co2_6 := Rw.cell HRo_6.out (j := 2) rfl
        go_wp2_with fail
        refine (M3.out _ (tab10_below HT.out HB_6.out)).mono ?_
        rintro e w7 ⟨rfl, hb⟩
        have HB_7 := Lib.hid (below_then HB_6.out hb)
        have HRu_7 := Lib.hid (Rw.below HRu_6.out hb)
        have HRv_7 := Lib.hid (Rw.below HRv_6.out hb)
        have HRe_7 := Lib.hid (Rw.below HRe_6.out hb)
        have HRo_7 := Lib.hid (Rw.below HRo_6.out hb)
        clear hb cu0_6 cu1_6 cu2_6 cu3_6 cu4_6 cu5_6 cu6_6 cu7_6 cu8_6 cu9_6 cv0_6 cv1_6 cv2_6 cv3_6 cv4_6 cv5_6 cv6_6 cv7_6 cv8_6 cv9_6 ce0_6 ce1_6 ce2_6 ce3_6 ce4_6 co0_6 co1_6 co2_6
        have cu0_7 := Rw.cell HRu_7.out (j := 0) rfl
        have cu1_7 := Rw.cell HRu_7.out (j := 1) rfl
        have cu2_7 := Rw.cell HRu_7.out (j := 2) rfl
        have cu3_7 := Rw.cell HRu_7.out (j := 3) rfl
        have cu4_7 := Rw.cell HRu_7.out (j := 4) rfl
        have cu5_7 := Rw.cell HRu_7.out (j := 5) rfl
        have cu6_7 := Rw.cell HRu_7.out (j := 6) rfl
        have cu7_7 := Rw.cell HRu_7.out (j := 7) rfl
        have cu8_7 := Rw.cell HRu_7.out (j := 8) rfl
        have cu9_7 := Rw.cell HRu_7.out (j := 9) rfl
        have cv0_7 := Rw.cell HRv_7.out (j := 0) rfl
        have cv1_7 := Rw.cell HRv_7.out (j := 1) rfl
        have cv2_7 := Rw.cell HRv_7.out (j := 2) rfl
        have cv3_7 := Rw.cell HRv_7.out (j := 3) rfl
        have cv4_7 := Rw.cell HRv_7.out (j := 4) rfl
        have cv5_7 := Rw.cell HRv_7.out (j := 5) rfl
        have cv6_7 := Rw.cell HRv_7.out (j := 6) rfl
        have cv7_7 := Rw.cell HRv_7.out (j := 7) rfl
        have cv8_7 := Rw.cell HRv_7.out (j := 8) rfl
        have cv9_7 := Rw.cell HRv_7.out (j := 9) rfl
        have ce0_7 := Rw.cell HRe_7.out (j := 0) rfl
        have ce1_7 := Rw.cell HRe_7.out (j := 1) rfl
        have ce2_7 := Rw.cell HRe_7.out (j := 2) rfl
        have ce3_7 := Rw.cell HRe_7.out (j := 3) rfl
        have ce4_7 := Rw.cell HRe_7.out (j := 4) rfl
        have co0_7 := Rw.cell HRo_7.out (j := 0) rfl
        have co1_7 := Rw.cell HRo_7.out (j := 1) rfl
        have co2_7 := Rw.cell HRo_7.out (j := 2) rfl
        go_wp2_with fail
        refine (sawake_any _ (tab10_below HT.out HB_7.out)).mono ?_
        rintro e w8 ⟨rfl, hb⟩
        have HB_8 := Lib.hid (below_then HB_7.out hb)
        have HRu_8 := Lib.hid (Rw.below HRu_7.out hb)
        have HRv_8 := Lib.hid (Rw.below HRv_7.out hb)
        have HRe_8 := Lib.hid (Rw.below HRe_7.out hb)
        have HRo_8 := Lib.hid (Rw.below HRo_7.out hb)
        clear hb cu0_7 cu1_7 cu2_7 cu3_7 cu4_7 cu5_7 cu6_7 cu7_7 cu8_7 cu9_7 cv0_7 cv1_7 cv2_7 cv3_7 cv4_7 cv5_7 cv6_7 cv7_7 cv8_7 cv9_7 ce0_7 ce1_7 ce2_7 ce3_7 ce4_7 co0_7 co1_7 co2_7
        have cu0_8 := Rw.cell HRu_8.out (j := 0) rfl
        have cu1_8 := Rw.cell HRu_8.out (j := 1) rfl
        have cu2_8 := Rw.cell HRu_8.out (j := 2) rfl
        have cu3_8 := Rw.cell HRu_8.out (j := 3) rfl
        have cu4_8 := Rw.cell HRu_8.out (j := 4) rfl
        have cu5_8 := Rw.cell HRu_8.out (j := 5) rfl
        have cu6_8 := Rw.cell HRu_8.out (j := 6) rfl
        have cu7_8 := Rw.cell HRu_8.out (j := 7) rfl
        have cu8_8 := Rw.cell HRu_8.out (j := 8) rfl
        have cu9_8 := Rw.cell HRu_8.out (j := 9) rfl
        have cv0_8 := Rw.cell HRv_8.out (j := 0) rfl
        have cv1_8 := Rw.cell HRv_8.out (j := 1) rfl
        have cv2_8 := Rw.cell HRv_8.out (j := 2) rfl
        have cv3_8 := Rw.cell HRv_8.out (j := 3) rfl
        have cv4_8 := Rw.cell HRv_8.out (j := 4) rfl
        have cv5_8 := Rw.cell HRv_8.out (j := 5) rfl
        have cv6_8 := Rw.cell HRv_8.out (j := 6) rfl
        have cv7_8 := Rw.cell HRv_8.out (j := 7) rfl
        have cv8_8 := Rw.cell HRv_8.out (j := 8) rfl
        have cv9_8 := Rw.cell HRv_8.out (j := 9) rfl
        have ce0_8 := Rw.cell HRe_8.out (j := 0) rfl
        have ce1_8 := Rw.cell HRe_8.out (j := 1) rfl
        have ce2_8 := Rw.cell HRe_8.out (j := 2) rfl
        have ce3_8 := Rw.cell HRe_8.out (j := 3) rfl
        have ce4_8 := Rw.cell HRe_8.out (j := 4) rfl
        have co0_8 := Rw.cell HRo_8.out (j := 0) rfl
        have co1_8 := Rw.cell HRo_8.out (j := 1) rfl
        have co2_8 := Rw.cell HRo_8.out (j := 2) rfl
        go_wp2_with fail
        go_ret
        exact ⟨rfl, HB_8.out⟩

theorem sourceSelf_own : ownKnob Tryz.prog.godebug = none := by kernel_rfl

theorem sourceSelf_contract (H : Type) (enc : TypeId × Value → H) (W : World) (base : Nat) (args : Array Value) (ds gs : List (DataW H)) (before : List MemPlace)
    (hval0 : ∀ (j : Nat) t v, Tryz.f7.params[j]? = some t → args[j]? = some v → Value.okWide Tryz.prog W .any base t v)
    (hW : DataW.Whole enc Tryz.prog Tryz.f7.params.toList Rows.sourceSelfSpec.vars false W args.toList ds gs before) {vt : List TypeId}
    (hsz0 : (DataW.weightsEach Tryz.prog (Tryz.f7.params.toList ++ vt) (ds ++ gs)).all (· ≤ reachBytes) = true) (hL : laidMetH Tryz.prog Rows.sourceSelfRow.laid W) :
    Calls Tryz.prog 7 args W fun e W' => ∃ v, e = .returned v ∧ Rows.sourceSelfSpec.post enc Tryz.prog Tryz.f7 false true false false W args v W' := by
  refine law_contract (by kernel_rfl) (of_decide_eq_true (by kernel_rfl)) (tb := 4) (by kernel_rfl) Tryz.underlying4 rfl (fun ds h => by match ds, h with | [d0, d1], _ => exact ⟨rfl, rfl, rfl⟩) hW hsz0 ?_
  intro p hA0 hlt hszz
  have hval := hval0
  have hA : DataW.TrodAll enc Tryz.prog W 0 (fun _ => true) true Tryz.f7.params.toList args.toList ds p := hA0
  have hsz : (DataW.weightsEach Tryz.prog Tryz.f7.params.toList ds).all (· ≤ reachBytes) = true := hszz
  clear hval0 hA0 hszz hsz0 hW
  rw [Tryz.params7] at hA hval hsz
  obtain ⟨v0, vs0, d0, ds0, p0, q0, hargs, rfl, rfl, h0, r0⟩ := trodAll_cons hA
  obtain ⟨v1, vs1, d1, ds1, p1, q1, rfl, rfl, rfl, h1, r1⟩ := trodAll_cons r0
  obtain ⟨rfl, rfl, rfl⟩ := trodAll_nil r1
  obtain rfl : args = #[v0, v1] := by cases args; simp_all
  obtain ⟨a0, rfl, rfl, rfl, w0⟩ := open_string Tryz.underlying9 (hval 0 9 v0 rfl rfl) h0
  have z0 := sized_string hsz (j := 0) rfl rfl
  rw [size_data] at z0
  obtain ⟨a1, rfl, rfl, rfl, w1⟩ := open_string Tryz.underlying9 (hval 1 9 v1 rfl rfl) h1
  have z1 := sized_string hsz (j := 1) rfl rfl
  rw [size_data] at z1
  exact sourceSelf_any (w := W) a0 z0 a1 z1 (tab10_of15 hL)

noncomputable def sourceSelf_world (os : Os) : World := laidIn Tryz.prog Rows.sourceSelfRow.laid (World.holding Tryz.prog os ⟨#[], #[], []⟩)

theorem sourceSelf_met (os : Os) : laidMet Tryz.prog Rows.sourceSelfRow.laid ((sourceSelf_world os).forCall (fun _ _ => 0) ⟨#[], #[.string ByteArray.empty, .string ByteArray.empty], []⟩).memory :=
  laidMet_of_run' 8 (by kernel_rfl) (by kernel_rfl)

theorem sourceSelf_reads (os : Os) {H : Type} (enc : TypeId × Value → H) : ∃ places, DataW.whole enc Tryz.prog ((sourceSelf_world os).forCall (fun _ _ => 0) ⟨#[], #[.string ByteArray.empty, .string ByteArray.empty], []⟩).memory Tryz.f7.params.toList Rows.sourceSelfSpec.vars false (#[.string ByteArray.empty, .string ByteArray.empty] : Array Value).toList 8 = some ([.lit (.string []), .lit (.string [])], [], places) :=
  ⟨[], by kernel_rfl⟩

set_option maxRecDepth 100000 in
theorem sourceSelf_lifted (os : Os) (started : os.Started) (H : Type) (enc : TypeId × Value → H) (F : Stop.Interp) :
    ReturnsInHanded {} Tryz.checked os 7 .any ((OpenSpec.ofChange Rows.sourceSelfSpec).preRow enc Tryz.prog Tryz.f7 Rows.sourceSelfRow.domain false Rows.sourceSelfRow.laid) (((OpenSpec.ofChange Rows.sourceSelfSpec).at F).post enc Tryz.prog Tryz.f7 false true false false) := by
  obtain ⟨places, hx⟩ := sourceSelf_reads os enc
  refine returnsInHanded_of_row (C := Tryz.checked) (s := OpenSpec.ofChange Rows.sourceSelfSpec) sourceSelf_own started (by kernel_rfl) Tryz.func7
    (witness_row_at (enc := enc) (C := Tryz.checked) false (sourceSelf_world os) #[.string ByteArray.empty, .string ByteArray.empty] rfl (by kernel_rfl) (by kernel_rfl) (by kernel_rfl)
      (OpenSpec.preRow_of_cond 8 hx (by kernel_rfl) (fun k hk => by cases hk) (by kernel_rfl) (sourceSelf_met os))) ?_
  intro W base args ds gs before hval hW _ _ hsz hL _ _
  exact sourceSelf_contract H enc W base args ds gs before hval hW hsz hL

theorem sourceSelf_said : Rows.SourceSelfSaid :=
  OpenClaim.holds_of_cond 7 Tryz.f7 rfl rfl rfl rfl rfl rfl rfl ⟨rfl, rfl, rfl, rfl, rfl⟩ rfl rfl rfl rfl rfl (by kernel_rfl) Tryz.func7 (by kernel_rfl)
    (of_decide_eq_true (by kernel_rfl)) (by unfold Func.isWrapper; first | (rw [if_pos (by decide +kernel)]; kernel_rfl) | (rw [if_neg (by decide +kernel)]; exact ⟨rfl, rfl⟩))
    (fun os started H enc _ F => by rw [OpenClaim.pre_eq_preRow]; exact sourceSelf_lifted os started H enc F)

theorem sourceSelf_plain (f : FuncId) (fn : Func) (hf : Tryz.pinned.checked.prog.funcNamed Tryz.f7.name = some f) (hfn : Tryz.pinned.checked.prog.funcs[f]? = some fn) :
    false = Tryz.pinned.checked.prog.looks [] ∧ ∀ (j : Nat) t, fn.params[j]? = some t → Tryz.pinned.checked.prog.wantsStandIn t = false := by
  obtain rfl : f = 7 := Option.some.inj ((show Tryz.prog.funcNamed Tryz.f7.name = some 7 by kernel_rfl).symm.trans hf) |>.symm
  obtain rfl : fn = Tryz.f7 := (Option.some.inj (Tryz.func7.symm.trans hfn)).symm
  refine ⟨by kernel_rfl, fun j t ht => ?_⟩
  have hall : ∀ t ∈ Tryz.f7.params, Tryz.prog.wantsStandIn t = false := of_decide_eq_true (by kernel_rfl)
  exact hall t (Array.mem_of_getElem? ht)

theorem sourceSelf_card : Rows.SourceSelfCardSaid :=
  Claim7.holds_tied_plain_at .later [] _ _ _ _ sourceSelf_said (fun _ h => by cases h) (by kernel_rfl) (fun _ h => by cases h) sourceSelf_row_tie rfl ⟨rfl, rfl⟩ (by kernel_rfl) rfl sourceSelf_plain (by kernel_rfl)
#print axioms sourceSelf_card

end Go.Proofs.YtnecjofgjbfheaaGreatDoor
