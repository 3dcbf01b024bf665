/-
  SourceWider: what matches with a path matches without it; behind a redirect no path is asked; what matches a scheme matches it made safe; the card's statement, its listed tables tied to the program's text. No condition.
-/
import Derived.Stop.LaidErr
import Derived.Deep.DeepHandedRow
import Derived.Test.YtnecjofgjbfheaaGreatDoorCards
import Derived.Test.YtnecjofgjbfheaaGreatDoorTie
import Derived.Test.YtnecjofgjbfheaaGreatDoorProg
import Derived.Test.YtnecjofgjbfheaaGreatDoorKit
import Derived.Test.YtnecjofgjbfheaaGreatDoorLaw
import Derived.Test.YtnecjofgjbfheaaGreatDoorRow
import Derived.Test.YtnecjofgjbfheaaGreatDoorHst1
import Derived.Test.YtnecjofgjbfheaaGreatDoorUrl0
import Derived.Test.YtnecjofgjbfheaaGreatDoorOrg0
import Derived.Test.YtnecjofgjbfheaaGreatDoorSrc0
import Derived.Test.YtnecjofgjbfheaaGreatDoorSrc8
import Derived.Test.YtnecjofgjbfheaaGreatDoorSrc16
namespace Go.Proofs.YtnecjofgjbfheaaGreatDoor
open Go.ChangeShapes Go.WideShapes Go.ChangeAt Go.RowKit Go.Proofs
open Go.ChangeMaps (open_string shut_string)
set_option maxRecDepth 100000

set_option maxRecDepth 100000 in
set_option maxHeartbeats 16000000 in
theorem sourceWider_any (text : ByteArray) (ht : text.size ≤ 140737488351232) (s : ByteArray) (hs : s.size ≤ 140737488351232) (doc : ByteArray) (hd : doc.size ≤ 140737488351232) (w : World) (hT : Tab10 w) :
    Calls Tryz.prog 6 #[.string text, .string s, .string doc] w fun e w' => e = .returned (.bool true) ∧ Below w.heap.size w w' := by
  have HT := Lib.hid hT
  have HB0 := Lib.hid (Below.refl w.heap.size w)
  have HP := Lib.hid (fun W => sparsed_any s hs W)
  have hok2 := @prs_ok s.data.toList
  obtain ⟨ok, hok⟩ : ∃ ok, ok = prsB s.data.toList := ⟨_, rfl⟩
  obtain ⟨u, hu⟩ : ∃ u, u = prsU s.data.toList := ⟨_, rfl⟩
  rw [← hok, ← hu] at HP
  rw [← hok, ← hu] at hok2
  clear hok hu hT
  obtain ⟨S, hSe⟩ : ∃ S : ByteArray, S = ⟨u.sch.toArray⟩ := ⟨_, rfl⟩
  obtain ⟨U, hUe⟩ : ∃ U : ByteArray, U = ⟨u.usr.toArray⟩ := ⟨_, rfl⟩
  obtain ⟨P, hPe⟩ : ∃ P : ByteArray, P = ⟨u.pas.toArray⟩ := ⟨_, rfl⟩
  obtain ⟨H, hHe⟩ : ∃ H : ByteArray, H = ⟨u.hos.toArray⟩ := ⟨_, rfl⟩
  obtain ⟨pt, hpte⟩ : ∃ pt, pt = u.prt := ⟨_, rfl⟩
  obtain ⟨T, hTe⟩ : ∃ T : ByteArray, T = ⟨u.pth.toArray⟩ := ⟨_, rfl⟩
  obtain ⟨hq, hhqe⟩ : ∃ hq, hq = u.hq := ⟨_, rfl⟩
  obtain ⟨Q, hQe⟩ : ∃ Q : ByteArray, Q = ⟨u.qry.toArray⟩ := ⟨_, rfl⟩
  obtain ⟨hf, hhfe⟩ : ∃ hf, hf = u.hf := ⟨_, rfl⟩
  obtain ⟨F, hFe⟩ : ∃ F : ByteArray, F = ⟨u.frg.toArray⟩ := ⟨_, rfl⟩
  have huv : urlV u = .agg #[.string S, .string U, .string P, .string H, .int .i64 pt, .string T, .bool hq, .string Q, .bool hf, .string F] := by rw [hSe, hUe, hPe, hHe, hpte, hTe, hhqe, hQe, hhfe, hFe]; rfl
  rw [huv] at HP
  have hHs : H.size = u.hos.length := by rw [hHe, mk_size]
  have hTs : T.size = u.pth.length := by rw [hTe, mk_size]
  clear huv
  clear hSe hUe hPe hHe hpte hTe hhqe hQe hhfe hFe
  cases ok
  case false =>
    clear hok2
    go_enter Tryz.func6, Tryz.ntmps6
    go_wp2_with fail
    refine (HP.out _).mono ?_
    rintro e w1 ⟨rfl, hb⟩
    have HB_1 := Lib.hid (below_then HB0.out hb)
    clear hb
    have HBv_1b : Hid (Below w.heap.size w (w1.alloc (.cells #[.string S, .string U, .string P, .string H, .int .i64 pt, .string T, .bool hq, .string Q, .bool hf, .string F] 31))) := Lib.hid (below_more HB_1.out _)
    have HRvu_1b : Hid (Rw (w1.alloc (.cells #[.string S, .string U, .string P, .string H, .int .i64 pt, .string T, .bool hq, .string Q, .bool hf, .string F] 31)) 0 w1.heap.size 31 [.string S, .string U, .string P, .string H, .int .i64 pt, .string T, .bool hq, .string Q, .bool hf, .string F]) := Lib.hid (Rw.alloc w1 _ _ (Nat.zero_le _))
    have cu0_1_1 := Rw.cell HRvu_1b.out (j := 0) rfl
    have cu1_1_1 := Rw.cell HRvu_1b.out (j := 1) rfl
    have cu2_1_1 := Rw.cell HRvu_1b.out (j := 2) rfl
    have cu3_1_1 := Rw.cell HRvu_1b.out (j := 3) rfl
    have cu4_1_1 := Rw.cell HRvu_1b.out (j := 4) rfl
    have cu5_1_1 := Rw.cell HRvu_1b.out (j := 5) rfl
    have cu6_1_1 := Rw.cell HRvu_1b.out (j := 6) rfl
    have cu7_1_1 := Rw.cell HRvu_1b.out (j := 7) rfl
    have cu8_1_1 := Rw.cell HRvu_1b.out (j := 8) rfl
    have cu9_1_1 := Rw.cell HRvu_1b.out (j := 9) rfl
    go_wp2_with fail
    refine (sawake_any _ (tab10_below HT.out HBv_1b.out)).mono ?_
    rintro e w2 ⟨rfl, hb⟩
    have HB_2 := Lib.hid (below_then HBv_1b.out hb)
    have HRu_2 := Lib.hid (Rw.below HRvu_1b.out hb)
    clear hb cu0_1_1 cu1_1_1 cu2_1_1 cu3_1_1 cu4_1_1 cu5_1_1 cu6_1_1 cu7_1_1 cu8_1_1 cu9_1_1
    have cu0_2_2 := Rw.cell HRu_2.out (j := 0) rfl
    have cu1_2_2 := Rw.cell HRu_2.out (j := 1) rfl
    have cu2_2_2 := Rw.cell HRu_2.out (j := 2) rfl
    have cu3_2_2 := Rw.cell HRu_2.out (j := 3) rfl
    have cu4_2_2 := Rw.cell HRu_2.out (j := 4) rfl
    have cu5_2_2 := Rw.cell HRu_2.out (j := 5) rfl
    have cu6_2_2 := Rw.cell HRu_2.out (j := 6) rfl
    have cu7_2_2 := Rw.cell HRu_2.out (j := 7) rfl
    have cu8_2_2 := Rw.cell HRu_2.out (j := 8) rfl
    have cu9_2_2 := Rw.cell HRu_2.out (j := 9) rfl
    go_wp2_with fail
    go_ret
    exact ⟨rfl, HB_2.out⟩
  case true =>
    obtain ⟨q1, q2, _⟩ := hok2 rfl
    by_cases hlong : 600 < (text.size : Int)
    case pos =>
      go_enter Tryz.func6, Tryz.ntmps6
      go_wp2_with fail
      refine (HP.out _).mono ?_
      rintro e w1 ⟨rfl, hb⟩
      have HB_1 := Lib.hid (below_then HB0.out hb)
      clear hb
      have HBv_1b : Hid (Below w.heap.size w (w1.alloc (.cells #[.string S, .string U, .string P, .string H, .int .i64 pt, .string T, .bool hq, .string Q, .bool hf, .string F] 31))) := Lib.hid (below_more HB_1.out _)
      have HRvu_1b : Hid (Rw (w1.alloc (.cells #[.string S, .string U, .string P, .string H, .int .i64 pt, .string T, .bool hq, .string Q, .bool hf, .string F] 31)) 0 w1.heap.size 31 [.string S, .string U, .string P, .string H, .int .i64 pt, .string T, .bool hq, .string Q, .bool hf, .string F]) := Lib.hid (Rw.alloc w1 _ _ (Nat.zero_le _))
      have cu0_1_1 := Rw.cell HRvu_1b.out (j := 0) rfl
      have cu1_1_1 := Rw.cell HRvu_1b.out (j := 1) rfl
      have cu2_1_1 := Rw.cell HRvu_1b.out (j := 2) rfl
      have cu3_1_1 := Rw.cell HRvu_1b.out (j := 3) rfl
      have cu4_1_1 := Rw.cell HRvu_1b.out (j := 4) rfl
      have cu5_1_1 := Rw.cell HRvu_1b.out (j := 5) rfl
      have cu6_1_1 := Rw.cell HRvu_1b.out (j := 6) rfl
      have cu7_1_1 := Rw.cell HRvu_1b.out (j := 7) rfl
      have cu8_1_1 := Rw.cell HRvu_1b.out (j := 8) rfl
      have cu9_1_1 := Rw.cell HRvu_1b.out (j := 9) rfl
      go_wp2_with fail
      refine (sawake_any _ (tab10_below HT.out HBv_1b.out)).mono ?_
      rintro e w2 ⟨rfl, hb⟩
      have HB_2 := Lib.hid (below_then HBv_1b.out hb)
      have HRu_2 := Lib.hid (Rw.below HRvu_1b.out hb)
      clear hb cu0_1_1 cu1_1_1 cu2_1_1 cu3_1_1 cu4_1_1 cu5_1_1 cu6_1_1 cu7_1_1 cu8_1_1 cu9_1_1
      have cu0_2_2 := Rw.cell HRu_2.out (j := 0) rfl
      have cu1_2_2 := Rw.cell HRu_2.out (j := 1) rfl
      have cu2_2_2 := Rw.cell HRu_2.out (j := 2) rfl
      have cu3_2_2 := Rw.cell HRu_2.out (j := 3) rfl
      have cu4_2_2 := Rw.cell HRu_2.out (j := 4) rfl
      have cu5_2_2 := Rw.cell HRu_2.out (j := 5) rfl
      have cu6_2_2 := Rw.cell HRu_2.out (j := 6) rfl
      have cu7_2_2 := Rw.cell HRu_2.out (j := 7) rfl
      have cu8_2_2 := Rw.cell HRu_2.out (j := 8) rfl
      have cu9_2_2 := Rw.cell HRu_2.out (j := 9) rfl
      go_wp2_with fail
      go_ret
      exact ⟨rfl, HB_2.out⟩
    case neg =>
      have C1 := Lib.hid (fun W => sparse_any text (by omega) W)
      obtain ⟨g1, g2, g3, g4⟩ := src_size text.data.toList
      have g5 := src_port text.data.toList
      rw [size_data] at g1 g2 g3 g4
      obtain ⟨E, hE⟩ : ∃ E, E = srcP text.data.toList := ⟨_, rfl⟩
      rw [← hE] at C1 g1 g2 g3 g4 g5
      obtain ⟨k, hk⟩ : ∃ k, k = E.ek := ⟨_, rfl⟩
      obtain ⟨e1, he1⟩ : ∃ e1 : ByteArray, e1 = ⟨E.esc.toArray⟩ := ⟨_, rfl⟩
      obtain ⟨e2, he2⟩ : ∃ e2 : ByteArray, e2 = ⟨E.eho.toArray⟩ := ⟨_, rfl⟩
      obtain ⟨e3, he3⟩ : ∃ e3 : ByteArray, e3 = ⟨E.epo.toArray⟩ := ⟨_, rfl⟩
      obtain ⟨e4, he4⟩ : ∃ e4 : ByteArray, e4 = ⟨E.epa.toArray⟩ := ⟨_, rfl⟩
      have hev : expV E = .agg #[.int .i64 k, .string e1, .string e2, .string e3, .string e4] := by rw [hk, he1, he2, he3, he4]; rfl
      rw [hev] at C1
      have b2 : e2.size ≤ 1048576 := by rw [he2, mk_size]; omega
      have b3 : e3.size ≤ 5 := by rw [he3, mk_size]; exact g5
      have b4 : e4.size ≤ 1048576 := by rw [he4, mk_size]; omega
      have C2 := Lib.hid (fun W => sself_any doc hd W)
      obtain ⟨oo, hoo⟩ : ∃ oo, oo = selO doc.data.toList := ⟨_, rfl⟩
      rw [← hoo] at C2
      obtain ⟨S2, hS2⟩ : ∃ S2 : ByteArray, S2 = ⟨oo.osc.toArray⟩ := ⟨_, rfl⟩
      obtain ⟨H2, hH2⟩ : ∃ H2 : ByteArray, H2 = ⟨oo.oho.toArray⟩ := ⟨_, rfl⟩
      obtain ⟨p2, hp2⟩ : ∃ p2, p2 = oo.opo := ⟨_, rfl⟩
      have hov : orgV oo = .agg #[.string S2, .string H2, .int .i64 p2] := by rw [hS2, hH2, hp2]; rfl
      rw [hov] at C2
      clear hE hk he1 he2 he3 he4 hev hoo hS2 hH2 hp2 hov g1 g2 g3 g4 g5
      have M1 := Lib.hid (fun W (hW : Tab10 W) => smat_any k e1 e2 e3 e4 S U P H T Q F pt hq hf S2 H2 p2 0 b2 b3 b4 (by omega) (by omega) W hW)
      have M2 := Lib.hid (fun W (hW : Tab10 W) => smat_any k e1 e2 e3 ⟨#[]⟩ S U P H T Q F pt hq hf S2 H2 p2 0 b2 b3 (by decide) (by omega) (by omega) W hW)
      have M3 := Lib.hid (fun W (hW : Tab10 W) => smat_any k e1 e2 e3 e4 S U P H T Q F pt hq hf S2 H2 p2 1 b2 b3 b4 (by omega) (by omega) W hW)
      have MX := Lib.hid (fun W (hW : Tab10 W) => smat_any 3 ⟨#[104, 116, 116, 112]⟩ ⟨#[]⟩ ⟨#[]⟩ ⟨#[]⟩ S U P H T Q F pt hq hf S2 H2 p2 0 (by decide) (by decide) (by decide) (by omega) (by omega) W hW)
      have MY := Lib.hid (fun W (hW : Tab10 W) => smat_any 3 ⟨#[104, 116, 116, 112, 115]⟩ ⟨#[]⟩ ⟨#[]⟩ ⟨#[]⟩ S U P H T Q F pt hq hf S2 H2 p2 0 (by decide) (by decide) (by decide) (by omega) (by omega) W hW)
      have f1 := mat_path ⟨k, e1.data.toList, e2.data.toList, e3.data.toList, e4.data.toList⟩ ⟨S.data.toList, H.data.toList, pU S.data.toList pt, T.data.toList⟩ ⟨S2.data.toList, H2.data.toList, p2⟩
      have f2 := mat_wide ⟨k, e1.data.toList, e2.data.toList, e3.data.toList, e4.data.toList⟩ ⟨S.data.toList, H.data.toList, pU S.data.toList pt, T.data.toList⟩ ⟨S2.data.toList, H2.data.toList, p2⟩ 1 (by decide)
      have f3 := sma_safe S.data.toList
      have fx : matB ⟨3, (⟨#[104, 116, 116, 112]⟩ : ByteArray).data.toList, (⟨#[]⟩ : ByteArray).data.toList, (⟨#[]⟩ : ByteArray).data.toList, (⟨#[]⟩ : ByteArray).data.toList⟩ ⟨S.data.toList, H.data.toList, pU S.data.toList pt, T.data.toList⟩ ⟨S2.data.toList, H2.data.toList, p2⟩ 0 = smaB httpL S.data.toList := rfl
      have fy : matB ⟨3, (⟨#[104, 116, 116, 112, 115]⟩ : ByteArray).data.toList, (⟨#[]⟩ : ByteArray).data.toList, (⟨#[]⟩ : ByteArray).data.toList, (⟨#[]⟩ : ByteArray).data.toList⟩ ⟨S.data.toList, H.data.toList, pU S.data.toList pt, T.data.toList⟩ ⟨S2.data.toList, H2.data.toList, p2⟩ 0 = smaB httpsL S.data.toList := rfl
      have f4 : matB ⟨k, e1.data.toList, e2.data.toList, e3.data.toList, (⟨#[]⟩ : ByteArray).data.toList⟩ ⟨S.data.toList, H.data.toList, pU S.data.toList pt, T.data.toList⟩ ⟨S2.data.toList, H2.data.toList, p2⟩ 0 = matB ⟨k, e1.data.toList, e2.data.toList, e3.data.toList, []⟩ ⟨S.data.toList, H.data.toList, pU S.data.toList pt, T.data.toList⟩ ⟨S2.data.toList, H2.data.toList, p2⟩ 0 := rfl
      dsimp only at f1 f2
      rw [f4] at M2
      rw [← f2] at M3
      rw [fx] at MX
      rw [fy] at MY
      obtain ⟨a, ha⟩ : ∃ a, a = matB ⟨k, e1.data.toList, e2.data.toList, e3.data.toList, e4.data.toList⟩ ⟨S.data.toList, H.data.toList, pU S.data.toList pt, T.data.toList⟩ ⟨S2.data.toList, H2.data.toList, p2⟩ 0 := ⟨_, rfl⟩
      obtain ⟨b, hb'⟩ : ∃ b, b = matB ⟨k, e1.data.toList, e2.data.toList, e3.data.toList, []⟩ ⟨S.data.toList, H.data.toList, pU S.data.toList pt, T.data.toList⟩ ⟨S2.data.toList, H2.data.toList, p2⟩ 0 := ⟨_, rfl⟩
      obtain ⟨x, hx⟩ : ∃ x, x = smaB httpL S.data.toList := ⟨_, rfl⟩
      obtain ⟨y, hy⟩ : ∃ y, y = smaB httpsL S.data.toList := ⟨_, rfl⟩
      rw [← ha] at M1 f1
      rw [← hb'] at M2 M3 f1
      rw [← hx] at MX f3
      rw [← hy] at MY f3
      clear ha hb' hx hy f2 fx fy f4 q1 q2 hHs hTs b2 b3 b4
      cases a
      case true =>
        have hbt : b = true := f1 rfl
        subst hbt
        clear f1
        cases y
        case false =>
          clear f3 MX
          go_enter Tryz.func6, Tryz.ntmps6
          go_wp2_with fail
          refine (HP.out _).mono ?_
          rintro e w1 ⟨rfl, hb⟩
          have HB_1 := Lib.hid (below_then HB0.out hb)
          clear hb
          have HBv_1b : Hid (Below w.heap.size w (w1.alloc (.cells #[.string S, .string U, .string P, .string H, .int .i64 pt, .string T, .bool hq, .string Q, .bool hf, .string F] 31))) := Lib.hid (below_more HB_1.out _)
          have HRvu_1b : Hid (Rw (w1.alloc (.cells #[.string S, .string U, .string P, .string H, .int .i64 pt, .string T, .bool hq, .string Q, .bool hf, .string F] 31)) 0 w1.heap.size 31 [.string S, .string U, .string P, .string H, .int .i64 pt, .string T, .bool hq, .string Q, .bool hf, .string F]) := Lib.hid (Rw.alloc w1 _ _ (Nat.zero_le _))
          have cu0_1_1 := Rw.cell HRvu_1b.out (j := 0) rfl
          have cu1_1_1 := Rw.cell HRvu_1b.out (j := 1) rfl
          have cu2_1_1 := Rw.cell HRvu_1b.out (j := 2) rfl
          have cu3_1_1 := Rw.cell HRvu_1b.out (j := 3) rfl
          have cu4_1_1 := Rw.cell HRvu_1b.out (j := 4) rfl
          have cu5_1_1 := Rw.cell HRvu_1b.out (j := 5) rfl
          have cu6_1_1 := Rw.cell HRvu_1b.out (j := 6) rfl
          have cu7_1_1 := Rw.cell HRvu_1b.out (j := 7) rfl
          have cu8_1_1 := Rw.cell HRvu_1b.out (j := 8) rfl
          have cu9_1_1 := Rw.cell HRvu_1b.out (j := 9) rfl
          go_wp2_with fail
          refine (C1.out _).mono ?_
          rintro e w2 ⟨rfl, hb⟩
          have HB_2 := Lib.hid (below_then HBv_1b.out hb)
          have HRu_2 := Lib.hid (Rw.below HRvu_1b.out hb)
          clear hb cu0_1_1 cu1_1_1 cu2_1_1 cu3_1_1 cu4_1_1 cu5_1_1 cu6_1_1 cu7_1_1 cu8_1_1 cu9_1_1
          have HBv_2b : Hid (Below w.heap.size w (w2.alloc (.cells #[.int .i64 k, .string e1, .string e2, .string e3, .string e4] 24))) := Lib.hid (below_more HB_2.out _)
          have HRvu_2b : Hid (Rw (w2.alloc (.cells #[.int .i64 k, .string e1, .string e2, .string e3, .string e4] 24)) 0 w1.heap.size 31 [.string S, .string U, .string P, .string H, .int .i64 pt, .string T, .bool hq, .string Q, .bool hf, .string F]) := Lib.hid (Rw.more HRu_2.out _)
          have HRve_2b : Hid (Rw (w2.alloc (.cells #[.int .i64 k, .string e1, .string e2, .string e3, .string e4] 24)) 0 w2.heap.size 24 [.int .i64 k, .string e1, .string e2, .string e3, .string e4]) := Lib.hid (Rw.alloc w2 _ _ (Nat.zero_le _))
          have cu0_2_2 := Rw.cell HRvu_2b.out (j := 0) rfl
          have cu1_2_2 := Rw.cell HRvu_2b.out (j := 1) rfl
          have cu2_2_2 := Rw.cell HRvu_2b.out (j := 2) rfl
          have cu3_2_2 := Rw.cell HRvu_2b.out (j := 3) rfl
          have cu4_2_2 := Rw.cell HRvu_2b.out (j := 4) rfl
          have cu5_2_2 := Rw.cell HRvu_2b.out (j := 5) rfl
          have cu6_2_2 := Rw.cell HRvu_2b.out (j := 6) rfl
          have cu7_2_2 := Rw.cell HRvu_2b.out (j := 7) rfl
          have cu8_2_2 := Rw.cell HRvu_2b.out (j := 8) rfl
          have cu9_2_2 := Rw.cell HRvu_2b.out (j := 9) rfl
          have ce0_2_2 := Rw.cell HRve_2b.out (j := 0) rfl
          have ce1_2_2 := Rw.cell HRve_2b.out (j := 1) rfl
          have ce2_2_2 := Rw.cell HRve_2b.out (j := 2) rfl
          have ce3_2_2 := Rw.cell HRve_2b.out (j := 3) rfl
          have ce4_2_2 := Rw.cell HRve_2b.out (j := 4) rfl
          go_wp2_with fail
          refine (C2.out _).mono ?_
          rintro e w3 ⟨rfl, hb⟩
          have HB_3 := Lib.hid (below_then HBv_2b.out hb)
          have HRu_3 := Lib.hid (Rw.below HRvu_2b.out hb)
          have HRe_3 := Lib.hid (Rw.below HRve_2b.out hb)
          clear hb cu0_2_2 cu1_2_2 cu2_2_2 cu3_2_2 cu4_2_2 cu5_2_2 cu6_2_2 cu7_2_2 cu8_2_2 cu9_2_2 ce0_2_2 ce1_2_2 ce2_2_2 ce3_2_2 ce4_2_2
          have HBv_3b : Hid (Below w.heap.size w (w3.alloc (.cells #[.string S2, .string H2, .int .i64 p2] 42))) := Lib.hid (below_more HB_3.out _)
          have HRvu_3b : Hid (Rw (w3.alloc (.cells #[.string S2, .string H2, .int .i64 p2] 42)) 0 w1.heap.size 31 [.string S, .string U, .string P, .string H, .int .i64 pt, .string T, .bool hq, .string Q, .bool hf, .string F]) := Lib.hid (Rw.more HRu_3.out _)
          have HRve_3b : Hid (Rw (w3.alloc (.cells #[.string S2, .string H2, .int .i64 p2] 42)) 0 w2.heap.size 24 [.int .i64 k, .string e1, .string e2, .string e3, .string e4]) := Lib.hid (Rw.more HRe_3.out _)
          have HRvo_3b : Hid (Rw (w3.alloc (.cells #[.string S2, .string H2, .int .i64 p2] 42)) 0 w3.heap.size 42 [.string S2, .string H2, .int .i64 p2]) := Lib.hid (Rw.alloc w3 _ _ (Nat.zero_le _))
          have cu0_3_3 := Rw.cell HRvu_3b.out (j := 0) rfl
          have cu1_3_3 := Rw.cell HRvu_3b.out (j := 1) rfl
          have cu2_3_3 := Rw.cell HRvu_3b.out (j := 2) rfl
          have cu3_3_3 := Rw.cell HRvu_3b.out (j := 3) rfl
          have cu4_3_3 := Rw.cell HRvu_3b.out (j := 4) rfl
          have cu5_3_3 := Rw.cell HRvu_3b.out (j := 5) rfl
          have cu6_3_3 := Rw.cell HRvu_3b.out (j := 6) rfl
          have cu7_3_3 := Rw.cell HRvu_3b.out (j := 7) rfl
          have cu8_3_3 := Rw.cell HRvu_3b.out (j := 8) rfl
          have cu9_3_3 := Rw.cell HRvu_3b.out (j := 9) rfl
          have ce0_3_3 := Rw.cell HRve_3b.out (j := 0) rfl
          have ce1_3_3 := Rw.cell HRve_3b.out (j := 1) rfl
          have ce2_3_3 := Rw.cell HRve_3b.out (j := 2) rfl
          have ce3_3_3 := Rw.cell HRve_3b.out (j := 3) rfl
          have ce4_3_3 := Rw.cell HRve_3b.out (j := 4) rfl
          have co0_3_3 := Rw.cell HRvo_3b.out (j := 0) rfl
          have co1_3_3 := Rw.cell HRvo_3b.out (j := 1) rfl
          have co2_3_3 := Rw.cell HRvo_3b.out (j := 2) rfl
          have HBv_3c : Hid (Below w.heap.size w ((w3.alloc (.cells #[.string S2, .string H2, .int .i64 p2] 42)).alloc (.cells #[.int .i64 k, .string e1, .string e2, .string e3, .string ⟨#[]⟩] 24))) := Lib.hid (below_more HBv_3b.out _)
          have HRvu_3c : Hid (Rw ((w3.alloc (.cells #[.string S2, .string H2, .int .i64 p2] 42)).alloc (.cells #[.int .i64 k, .string e1, .string e2, .string e3, .string ⟨#[]⟩] 24)) 0 w1.heap.size 31 [.string S, .string U, .string P, .string H, .int .i64 pt, .string T, .bool hq, .string Q, .bool hf, .string F]) := Lib.hid (Rw.more HRvu_3b.out _)
          have HRve_3c : Hid (Rw ((w3.alloc (.cells #[.string S2, .string H2, .int .i64 p2] 42)).alloc (.cells #[.int .i64 k, .string e1, .string e2, .string e3, .string ⟨#[]⟩] 24)) 0 w2.heap.size 24 [.int .i64 k, .string e1, .string e2, .string e3, .string e4]) := Lib.hid (Rw.more HRve_3b.out _)
          have HRvo_3c : Hid (Rw ((w3.alloc (.cells #[.string S2, .string H2, .int .i64 p2] 42)).alloc (.cells #[.int .i64 k, .string e1, .string e2, .string e3, .string ⟨#[]⟩] 24)) 0 w3.heap.size 42 [.string S2, .string H2, .int .i64 p2]) := Lib.hid (Rw.more HRvo_3b.out _)
          have HRvf_3c : Hid (Rw ((w3.alloc (.cells #[.string S2, .string H2, .int .i64 p2] 42)).alloc (.cells #[.int .i64 k, .string e1, .string e2, .string e3, .string ⟨#[]⟩] 24)) 0 (w3.heap.size + 1) 24 [.int .i64 k, .string e1, .string e2, .string e3, .string ⟨#[]⟩]) := Lib.hid (by have h := Rw.alloc (w3.alloc (.cells #[.string S2, .string H2, .int .i64 p2] 42)) 24 #[.int .i64 k, .string e1, .string e2, .string e3, .string ⟨#[]⟩] (Nat.zero_le (w3.alloc (.cells #[.string S2, .string H2, .int .i64 p2] 42)).heap.size); have hs : (w3.alloc (.cells #[.string S2, .string H2, .int .i64 p2] 42)).heap.size = (w3.heap.size + 1) := (by first | exact Array.size_push .. | (show (Array.push _ _).size = _; rw [Array.size_push]; rfl)); rw [hs] at h; exact h)
          have cu0_3_4 := Rw.cell HRvu_3c.out (j := 0) rfl
          have cu1_3_4 := Rw.cell HRvu_3c.out (j := 1) rfl
          have cu2_3_4 := Rw.cell HRvu_3c.out (j := 2) rfl
          have cu3_3_4 := Rw.cell HRvu_3c.out (j := 3) rfl
          have cu4_3_4 := Rw.cell HRvu_3c.out (j := 4) rfl
          have cu5_3_4 := Rw.cell HRvu_3c.out (j := 5) rfl
          have cu6_3_4 := Rw.cell HRvu_3c.out (j := 6) rfl
          have cu7_3_4 := Rw.cell HRvu_3c.out (j := 7) rfl
          have cu8_3_4 := Rw.cell HRvu_3c.out (j := 8) rfl
          have cu9_3_4 := Rw.cell HRvu_3c.out (j := 9) rfl
          have ce0_3_4 := Rw.cell HRve_3c.out (j := 0) rfl
          have ce1_3_4 := Rw.cell HRve_3c.out (j := 1) rfl
          have ce2_3_4 := Rw.cell HRve_3c.out (j := 2) rfl
          have ce3_3_4 := Rw.cell HRve_3c.out (j := 3) rfl
          have ce4_3_4 := Rw.cell HRve_3c.out (j := 4) rfl
          have co0_3_4 := Rw.cell HRvo_3c.out (j := 0) rfl
          have co1_3_4 := Rw.cell HRvo_3c.out (j := 1) rfl
          have co2_3_4 := Rw.cell HRvo_3c.out (j := 2) rfl
          have cf0_3_4 := Rw.cell HRvf_3c.out (j := 0) rfl
          have cf1_3_4 := Rw.cell HRvf_3c.out (j := 1) rfl
          have cf2_3_4 := Rw.cell HRvf_3c.out (j := 2) rfl
          have cf3_3_4 := Rw.cell HRvf_3c.out (j := 3) rfl
          have cf4_3_4 := Rw.cell HRvf_3c.out (j := 4) rfl
          go_wp2_with fail
          refine (M1.out _ (tab10_below HT.out HBv_3c.out)).mono ?_
          rintro e w4 ⟨rfl, hb⟩
          have HB_4 := Lib.hid (below_then HBv_3c.out hb)
          have HRu_4 := Lib.hid (Rw.below HRvu_3c.out hb)
          have HRe_4 := Lib.hid (Rw.below HRve_3c.out hb)
          have HRo_4 := Lib.hid (Rw.below HRvo_3c.out hb)
          have HRf_4 := Lib.hid (Rw.below HRvf_3c.out hb)
          clear hb cu0_3_3 cu1_3_3 cu2_3_3 cu3_3_3 cu4_3_3 cu5_3_3 cu6_3_3 cu7_3_3 cu8_3_3 cu9_3_3 ce0_3_3 ce1_3_3 ce2_3_3 ce3_3_3 ce4_3_3 co0_3_3 co1_3_3 co2_3_3 cu0_3_4 cu1_3_4 cu2_3_4 cu3_3_4 cu4_3_4 cu5_3_4 cu6_3_4 cu7_3_4 cu8_3_4 cu9_3_4 ce0_3_4 ce1_3_4 ce2_3_4 ce3_3_4 ce4_3_4 co0_3_4 co1_3_4 co2_3_4 cf0_3_4 cf1_3_4 cf2_3_4 cf3_3_4 cf4_3_4
          have cu0_4_5 := Rw.cell HRu_4.out (j := 0) rfl
          have cu1_4_5 := Rw.cell HRu_4.out (j := 1) rfl
          have cu2_4_5 := Rw.cell HRu_4.out (j := 2) rfl
          have cu3_4_5 := Rw.cell HRu_4.out (j := 3) rfl
          have cu4_4_5 := Rw.cell HRu_4.out (j := 4) rfl
          have cu5_4_5 := Rw.cell HRu_4.out (j := 5) rfl
          have cu6_4_5 := Rw.cell HRu_4.out (j := 6) rfl
          have cu7_4_5 := Rw.cell HRu_4.out (j := 7) rfl
          have cu8_4_5 := Rw.cell HRu_4.out (j := 8) rfl
          have cu9_4_5 := Rw.cell HRu_4.out (j := 9) rfl
          have ce0_4_5 := Rw.cell HRe_4.out (j := 0) rfl
          have ce1_4_5 := Rw.cell HRe_4.out (j := 1) rfl
          have ce2_4_5 := Rw.cell HRe_4.out (j := 2) rfl
          have ce3_4_5 := Rw.cell HRe_4.out (j := 3) rfl
          have ce4_4_5 := Rw.cell HRe_4.out (j := 4) rfl
          have co0_4_5 := Rw.cell HRo_4.out (j := 0) rfl
          have co1_4_5 := Rw.cell HRo_4.out (j := 1) rfl
          have co2_4_5 := Rw.cell HRo_4.out (j := 2) rfl
          have cf0_4_5 := Rw.cell HRf_4.out (j := 0) rfl
          have cf1_4_5 := Rw.cell HRf_4.out (j := 1) rfl
          have cf2_4_5 := Rw.cell HRf_4.out (j := 2) rfl
          have cf3_4_5 := Rw.cell HRf_4.out (j := 3) rfl
          have cf4_4_5 := Rw.cell HRf_4.out (j := 4) rfl
          go_wp2_with fail
          refine (M2.out _ (tab10_below HT.out HB_4.out)).mono ?_
          rintro e w5 ⟨rfl, hb⟩
          have HB_5 := Lib.hid (below_then HB_4.out hb)
          have HRu_5 := Lib.hid (Rw.below HRu_4.out hb)
          have HRe_5 := Lib.hid (Rw.below HRe_4.out hb)
          have HRo_5 := Lib.hid (Rw.below HRo_4.out hb)
          have HRf_5 := Lib.hid (Rw.below HRf_4.out hb)
          clear hb cu0_4_5 cu1_4_5 cu2_4_5 cu3_4_5 cu4_4_5 cu5_4_5 cu6_4_5 cu7_4_5 cu8_4_5 cu9_4_5 ce0_4_5 ce1_4_5 ce2_4_5 ce3_4_5 ce4_4_5 co0_4_5 co1_4_5 co2_4_5 cf0_4_5 cf1_4_5 cf2_4_5 cf3_4_5 cf4_4_5
          have cu0_5_6 := Rw.cell HRu_5.out (j := 0) rfl
          have cu1_5_6 := Rw.cell HRu_5.out (j := 1) rfl
          have cu2_5_6 := Rw.cell HRu_5.out (j := 2) rfl
          have cu3_5_6 := Rw.cell HRu_5.out (j := 3) rfl
          have cu4_5_6 := Rw.cell HRu_5.out (j := 4) rfl
          have cu5_5_6 := Rw.cell HRu_5.out (j := 5) rfl
          have cu6_5_6 := Rw.cell HRu_5.out (j := 6) rfl
          have cu7_5_6 := Rw.cell HRu_5.out (j := 7) rfl
          have cu8_5_6 := Rw.cell HRu_5.out (j := 8) rfl
          have cu9_5_6 := Rw.cell HRu_5.out (j := 9) rfl
          have ce0_5_6 := Rw.cell HRe_5.out (j := 0) rfl
          have ce1_5_6 := Rw.cell HRe_5.out (j := 1) rfl
          have ce2_5_6 := Rw.cell HRe_5.out (j := 2) rfl
          have ce3_5_6 := Rw.cell HRe_5.out (j := 3) rfl
          have ce4_5_6 := Rw.cell HRe_5.out (j := 4) rfl
          have co0_5_6 := Rw.cell HRo_5.out (j := 0) rfl
          have co1_5_6 := Rw.cell HRo_5.out (j := 1) rfl
          have co2_5_6 := Rw.cell HRo_5.out (j := 2) rfl
          have cf0_5_6 := Rw.cell HRf_5.out (j := 0) rfl
          have cf1_5_6 := Rw.cell HRf_5.out (j := 1) rfl
          have cf2_5_6 := Rw.cell HRf_5.out (j := 2) rfl
          have cf3_5_6 := Rw.cell HRf_5.out (j := 3) rfl
          have cf4_5_6 := Rw.cell HRf_5.out (j := 4) rfl
          go_wp2_with fail
          refine (M3.out _ (tab10_below HT.out HB_5.out)).mono ?_
          rintro e w6 ⟨rfl, hb⟩
          have HB_6 := Lib.hid (below_then HB_5.out hb)
          have HRu_6 := Lib.hid (Rw.below HRu_5.out hb)
          have HRe_6 := Lib.hid (Rw.below HRe_5.out hb)
          have HRo_6 := Lib.hid (Rw.below HRo_5.out hb)
          have HRf_6 := Lib.hid (Rw.below HRf_5.out hb)
          clear hb cu0_5_6 cu1_5_6 cu2_5_6 cu3_5_6 cu4_5_6 cu5_5_6 cu6_5_6 cu7_5_6 cu8_5_6 cu9_5_6 ce0_5_6 ce1_5_6 ce2_5_6 ce3_5_6 ce4_5_6 co0_5_6 co1_5_6 co2_5_6 cf0_5_6 cf1_5_6 cf2_5_6 cf3_5_6 cf4_5_6
          have HBv_6b : Hid (Below w.heap.size w (w6.alloc (.cells #[.int .i64 3, .string ⟨#[104, 116, 116, 112]⟩, .string ⟨#[]⟩, .string ⟨#[]⟩, .string ⟨#[]⟩] 24))) := Lib.hid (below_more HB_6.out _)
          have HRvu_6b : Hid (Rw (w6.alloc (.cells #[.int .i64 3, .string ⟨#[104, 116, 116, 112]⟩, .string ⟨#[]⟩, .string ⟨#[]⟩, .string ⟨#[]⟩] 24)) 0 w1.heap.size 31 [.string S, .string U, .string P, .string H, .int .i64 pt, .string T, .bool hq, .string Q, .bool hf, .string F]) := Lib.hid (Rw.more HRu_6.out _)
          have HRve_6b : Hid (Rw (w6.alloc (.cells #[.int .i64 3, .string ⟨#[104, 116, 116, 112]⟩, .string ⟨#[]⟩, .string ⟨#[]⟩, .string ⟨#[]⟩] 24)) 0 w2.heap.size 24 [.int .i64 k, .string e1, .string e2, .string e3, .string e4]) := Lib.hid (Rw.more HRe_6.out _)
          have HRvo_6b : Hid (Rw (w6.alloc (.cells #[.int .i64 3, .string ⟨#[104, 116, 116, 112]⟩, .string ⟨#[]⟩, .string ⟨#[]⟩, .string ⟨#[]⟩] 24)) 0 w3.heap.size 42 [.string S2, .string H2, .int .i64 p2]) := Lib.hid (Rw.more HRo_6.out _)
          have HRvf_6b : Hid (Rw (w6.alloc (.cells #[.int .i64 3, .string ⟨#[104, 116, 116, 112]⟩, .string ⟨#[]⟩, .string ⟨#[]⟩, .string ⟨#[]⟩] 24)) 0 (w3.heap.size + 1) 24 [.int .i64 k, .string e1, .string e2, .string e3, .string ⟨#[]⟩]) := Lib.hid (Rw.more HRf_6.out _)
          have HRvx_6b : Hid (Rw (w6.alloc (.cells #[.int .i64 3, .string ⟨#[104, 116, 116, 112]⟩, .string ⟨#[]⟩, .string ⟨#[]⟩, .string ⟨#[]⟩] 24)) 0 w6.heap.size 24 [.int .i64 3, .string ⟨#[104, 116, 116, 112]⟩, .string ⟨#[]⟩, .string ⟨#[]⟩, .string ⟨#[]⟩]) := Lib.hid (Rw.alloc w6 _ _ (Nat.zero_le _))
          have cu0_6_7 := Rw.cell HRvu_6b.out (j := 0) rfl
          have cu1_6_7 := Rw.cell HRvu_6b.out (j := 1) rfl
          have cu2_6_7 := Rw.cell HRvu_6b.out (j := 2) rfl
          have cu3_6_7 := Rw.cell HRvu_6b.out (j := 3) rfl
          have cu4_6_7 := Rw.cell HRvu_6b.out (j := 4) rfl
          have cu5_6_7 := Rw.cell HRvu_6b.out (j := 5) rfl
          have cu6_6_7 := Rw.cell HRvu_6b.out (j := 6) rfl
          have cu7_6_7 := Rw.cell HRvu_6b.out (j := 7) rfl
          have cu8_6_7 := Rw.cell HRvu_6b.out (j := 8) rfl
          have cu9_6_7 := Rw.cell HRvu_6b.out (j := 9) rfl
          have ce0_6_7 := Rw.cell HRve_6b.out (j := 0) rfl
          have ce1_6_7 := Rw.cell HRve_6b.out (j := 1) rfl
          have ce2_6_7 := Rw.cell HRve_6b.out (j := 2) rfl
          have ce3_6_7 := Rw.cell HRve_6b.out (j := 3) rfl
          have ce4_6_7 := Rw.cell HRve_6b.out (j := 4) rfl
          have co0_6_7 := Rw.cell HRvo_6b.out (j := 0) rfl
          have co1_6_7 := Rw.cell HRvo_6b.out (j := 1) rfl
          have co2_6_7 := Rw.cell HRvo_6b.out (j := 2) rfl
          have cf0_6_7 := Rw.cell HRvf_6b.out (j := 0) rfl
          have cf1_6_7 := Rw.cell HRvf_6b.out (j := 1) rfl
          have cf2_6_7 := Rw.cell HRvf_6b.out (j := 2) rfl
          have cf3_6_7 := Rw.cell HRvf_6b.out (j := 3) rfl
          have cf4_6_7 := Rw.cell HRvf_6b.out (j := 4) rfl
          have cx0_6_7 := Rw.cell HRvx_6b.out (j := 0) rfl
          have cx1_6_7 := Rw.cell HRvx_6b.out (j := 1) rfl
          have cx2_6_7 := Rw.cell HRvx_6b.out (j := 2) rfl
          have cx3_6_7 := Rw.cell HRvx_6b.out (j := 3) rfl
          have cx4_6_7 := Rw.cell HRvx_6b.out (j := 4) rfl
          have HBv_6c : Hid (Below w.heap.size w ((w6.alloc (.cells #[.int .i64 3, .string ⟨#[104, 116, 116, 112]⟩, .string ⟨#[]⟩, .string ⟨#[]⟩, .string ⟨#[]⟩] 24)).alloc (.cells #[.int .i64 3, .string ⟨#[104, 116, 116, 112, 115]⟩, .string ⟨#[]⟩, .string ⟨#[]⟩, .string ⟨#[]⟩] 24))) := Lib.hid (below_more HBv_6b.out _)
          have HRvu_6c : Hid (Rw ((w6.alloc (.cells #[.int .i64 3, .string ⟨#[104, 116, 116, 112]⟩, .string ⟨#[]⟩, .string ⟨#[]⟩, .string ⟨#[]⟩] 24)).alloc (.cells #[.int .i64 3, .string ⟨#[104, 116, 116, 112, 115]⟩, .string ⟨#[]⟩, .string ⟨#[]⟩, .string ⟨#[]⟩] 24)) 0 w1.heap.size 31 [.string S, .string U, .string P, .string H, .int .i64 pt, .string T, .bool hq, .string Q, .bool hf, .string F]) := Lib.hid (Rw.more HRvu_6b.out _)
          have HRve_6c : Hid (Rw ((w6.alloc (.cells #[.int .i64 3, .string ⟨#[104, 116, 116, 112]⟩, .string ⟨#[]⟩, .string ⟨#[]⟩, .string ⟨#[]⟩] 24)).alloc (.cells #[.int .i64 3, .string ⟨#[104, 116, 116, 112, 115]⟩, .string ⟨#[]⟩, .string ⟨#[]⟩, .string ⟨#[]⟩] 24)) 0 w2.heap.size 24 [.int .i64 k, .string e1, .string e2, .string e3, .string e4]) := Lib.hid (Rw.more HRve_6b.out _)
          have HRvo_6c : Hid (Rw ((w6.alloc (.cells #[.int .i64 3, .string ⟨#[104, 116, 116, 112]⟩, .string ⟨#[]⟩, .string ⟨#[]⟩, .string ⟨#[]⟩] 24)).alloc (.cells #[.int .i64 3, .string ⟨#[104, 116, 116, 112, 115]⟩, .string ⟨#[]⟩, .string ⟨#[]⟩, .string ⟨#[]⟩] 24)) 0 w3.heap.size 42 [.string S2, .string H2, .int .i64 p2]) := Lib.hid (Rw.more HRvo_6b.out _)
          have HRvf_6c : Hid (Rw ((w6.alloc (.cells #[.int .i64 3, .string ⟨#[104, 116, 116, 112]⟩, .string ⟨#[]⟩, .string ⟨#[]⟩, .string ⟨#[]⟩] 24)).alloc (.cells #[.int .i64 3, .string ⟨#[104, 116, 116, 112, 115]⟩, .string ⟨#[]⟩, .string ⟨#[]⟩, .string ⟨#[]⟩] 24)) 0 (w3.heap.size + 1) 24 [.int .i64 k, .string e1, .string e2, .string e3, .string ⟨#[]⟩]) := Lib.hid (Rw.more HRvf_6b.out _)
          have HRvx_6c : Hid (Rw ((w6.alloc (.cells #[.int .i64 3, .string ⟨#[104, 116, 116, 112]⟩, .string ⟨#[]⟩, .string ⟨#[]⟩, .string ⟨#[]⟩] 24)).alloc (.cells #[.int .i64 3, .string ⟨#[104, 116, 116, 112, 115]⟩, .string ⟨#[]⟩, .string ⟨#[]⟩, .string ⟨#[]⟩] 24)) 0 w6.heap.size 24 [.int .i64 3, .string ⟨#[104, 116, 116, 112]⟩, .string ⟨#[]⟩, .string ⟨#[]⟩, .string ⟨#[]⟩]) := Lib.hid (Rw.more HRvx_6b.out _)
          have HRvy_6c : Hid (Rw ((w6.alloc (.cells #[.int .i64 3, .string ⟨#[104, 116, 116, 112]⟩, .string ⟨#[]⟩, .string ⟨#[]⟩, .string ⟨#[]⟩] 24)).alloc (.cells #[.int .i64 3, .string ⟨#[104, 116, 116, 112, 115]⟩, .string ⟨#[]⟩, .string ⟨#[]⟩, .string ⟨#[]⟩] 24)) 0 (w6.heap.size + 1) 24 [.int .i64 3, .string ⟨#[104, 116, 116, 112, 115]⟩, .string ⟨#[]⟩, .string ⟨#[]⟩, .string ⟨#[]⟩]) := Lib.hid (by have h := Rw.alloc (w6.alloc (.cells #[.int .i64 3, .string ⟨#[104, 116, 116, 112]⟩, .string ⟨#[]⟩, .string ⟨#[]⟩, .string ⟨#[]⟩] 24)) 24 #[.int .i64 3, .string ⟨#[104, 116, 116, 112, 115]⟩, .string ⟨#[]⟩, .string ⟨#[]⟩, .string ⟨#[]⟩] (Nat.zero_le (w6.alloc (.cells #[.int .i64 3, .string ⟨#[104, 116, 116, 112]⟩, .string ⟨#[]⟩, .string ⟨#[]⟩, .string ⟨#[]⟩] 24)).heap.size); have hs : (w6.alloc (.cells #[.int .i64 3, .string ⟨#[104, 116, 116, 112]⟩, .string ⟨#[]⟩, .string ⟨#[]⟩, .string ⟨#[]⟩] 24)).heap.size = (w6.heap.size + 1) := (by first | exact Array.size_push .. | (show (Array.push _ _).size = _; rw [Array.size_push]; rfl)); rw [hs] at h; exact h)
          have cu0_6_8 := Rw.cell HRvu_6c.out (j := 0) rfl
          have cu1_6_8 := Rw.cell HRvu_6c.out (j := 1) rfl
          have cu2_6_8 := Rw.cell HRvu_6c.out (j := 2) rfl
          have cu3_6_8 := Rw.cell HRvu_6c.out (j := 3) rfl
          have cu4_6_8 := Rw.cell HRvu_6c.out (j := 4) rfl
          have cu5_6_8 := Rw.cell HRvu_6c.out (j := 5) rfl
          have cu6_6_8 := Rw.cell HRvu_6c.out (j := 6) rfl
          have cu7_6_8 := Rw.cell HRvu_6c.out (j := 7) rfl
          have cu8_6_8 := Rw.cell HRvu_6c.out (j := 8) rfl
          have cu9_6_8 := Rw.cell HRvu_6c.out (j := 9) rfl
          have ce0_6_8 := Rw.cell HRve_6c.out (j := 0) rfl
          have ce1_6_8 := Rw.cell HRve_6c.out (j := 1) rfl
          have ce2_6_8 := Rw.cell HRve_6c.out (j := 2) rfl
          have ce3_6_8 := Rw.cell HRve_6c.out (j := 3) rfl
          have ce4_6_8 := Rw.cell HRve_6c.out (j := 4) rfl
          have co0_6_8 := Rw.cell HRvo_6c.out (j := 0) rfl
          have co1_6_8 := Rw.cell HRvo_6c.out (j := 1) rfl
          have co2_6_8 := Rw.cell HRvo_6c.out (j := 2) rfl
          have cf0_6_8 := Rw.cell HRvf_6c.out (j := 0) rfl
          have cf1_6_8 := Rw.cell HRvf_6c.out (j := 1) rfl
          have cf2_6_8 := Rw.cell HRvf_6c.out (j := 2) rfl
          have cf3_6_8 := Rw.cell HRvf_6c.out (j := 3) rfl
          have cf4_6_8 := Rw.cell HRvf_6c.out (j := 4) rfl
          have cx0_6_8 := Rw.cell HRvx_6c.out (j := 0) rfl
          have cx1_6_8 := Rw.cell HRvx_6c.out (j := 1) rfl
          have cx2_6_8 := Rw.cell HRvx_6c.out (j := 2) rfl
          have cx3_6_8 := Rw.cell HRvx_6c.out (j := 3) rfl
          have cx4_6_8 := Rw.cell HRvx_6c.out (j := 4) rfl
          have cy0_6_8 := Rw.cell HRvy_6c.out (j := 0) rfl
          have cy1_6_8 := Rw.cell HRvy_6c.out (j := 1) rfl
          have cy2_6_8 := Rw.cell HRvy_6c.out (j := 2) rfl
          have cy3_6_8 := Rw.cell HRvy_6c.out (j := 3) rfl
          have cy4_6_8 := Rw.cell HRvy_6c.out (j := 4) rfl
          go_wp2_with fail
          refine (MY.out _ (tab10_below HT.out HBv_6c.out)).mono ?_
          rintro e w7 ⟨rfl, hb⟩
          have HB_7 := Lib.hid (below_then HBv_6c.out hb)
          have HRu_7 := Lib.hid (Rw.below HRvu_6c.out hb)
          have HRe_7 := Lib.hid (Rw.below HRve_6c.out hb)
          have HRo_7 := Lib.hid (Rw.below HRvo_6c.out hb)
          have HRf_7 := Lib.hid (Rw.below HRvf_6c.out hb)
          have HRx_7 := Lib.hid (Rw.below HRvx_6c.out hb)
          have HRy_7 := Lib.hid (Rw.below HRvy_6c.out hb)
          clear hb cu0_6_7 cu1_6_7 cu2_6_7 cu3_6_7 cu4_6_7 cu5_6_7 cu6_6_7 cu7_6_7 cu8_6_7 cu9_6_7 ce0_6_7 ce1_6_7 ce2_6_7 ce3_6_7 ce4_6_7 co0_6_7 co1_6_7 co2_6_7 cf0_6_7 cf1_6_7 cf2_6_7 cf3_6_7 cf4_6_7 cx0_6_7 cx1_6_7 cx2_6_7 cx3_6_7 cx4_6_7 cu0_6_8 cu1_6_8 cu2_6_8 cu3_6_8 cu4_6_8 cu5_6_8 cu6_6_8 cu7_6_8 cu8_6_8 cu9_6_8 ce0_6_8 ce1_6_8 ce2_6_8 ce3_6_8 ce4_6_8 co0_6_8 co1_6_8 co2_6_8 cf0_6_8 cf1_6_8 cf2_6_8 cf3_6_8 cf4_6_8 cx0_6_8 cx1_6_8 cx2_6_8 cx3_6_8 cx4_6_8 cy0_6_8 cy1_6_8 cy2_6_8 cy3_6_8 cy4_6_8
          have cu0_7_9 := Rw.cell HRu_7.out (j := 0) rfl
          have cu1_7_9 := Rw.cell HRu_7.out (j := 1) rfl
          have cu2_7_9 := Rw.cell HRu_7.out (j := 2) rfl
          have cu3_7_9 := Rw.cell HRu_7.out (j := 3) rfl
          have cu4_7_9 := Rw.cell HRu_7.out (j := 4) rfl
          have cu5_7_9 := Rw.cell HRu_7.out (j := 5) rfl
          have cu6_7_9 := Rw.cell HRu_7.out (j := 6) rfl
          have cu7_7_9 := Rw.cell HRu_7.out (j := 7) rfl
          have cu8_7_9 := Rw.cell HRu_7.out (j := 8) rfl
          have cu9_7_9 := Rw.cell HRu_7.out (j := 9) rfl
          have ce0_7_9 := Rw.cell HRe_7.out (j := 0) rfl
          have ce1_7_9 := Rw.cell HRe_7.out (j := 1) rfl
          have ce2_7_9 := Rw.cell HRe_7.out (j := 2) rfl
          have ce3_7_9 := Rw.cell HRe_7.out (j := 3) rfl
          have ce4_7_9 := Rw.cell HRe_7.out (j := 4) rfl
          have co0_7_9 := Rw.cell HRo_7.out (j := 0) rfl
          have co1_7_9 := Rw.cell HRo_7.out (j := 1) rfl
          have co2_7_9 := Rw.cell HRo_7.out (j := 2) rfl
          have cf0_7_9 := Rw.cell HRf_7.out (j := 0) rfl
          have cf1_7_9 := Rw.cell HRf_7.out (j := 1) rfl
          have cf2_7_9 := Rw.cell HRf_7.out (j := 2) rfl
          have cf3_7_9 := Rw.cell HRf_7.out (j := 3) rfl
          have cf4_7_9 := Rw.cell HRf_7.out (j := 4) rfl
          have cx0_7_9 := Rw.cell HRx_7.out (j := 0) rfl
          have cx1_7_9 := Rw.cell HRx_7.out (j := 1) rfl
          have cx2_7_9 := Rw.cell HRx_7.out (j := 2) rfl
          have cx3_7_9 := Rw.cell HRx_7.out (j := 3) rfl
          have cx4_7_9 := Rw.cell HRx_7.out (j := 4) rfl
          have cy0_7_9 := Rw.cell HRy_7.out (j := 0) rfl
          have cy1_7_9 := Rw.cell HRy_7.out (j := 1) rfl
          have cy2_7_9 := Rw.cell HRy_7.out (j := 2) rfl
          have cy3_7_9 := Rw.cell HRy_7.out (j := 3) rfl
          have cy4_7_9 := Rw.cell HRy_7.out (j := 4) rfl
          go_wp2_with fail
          refine (sawake_any _ (tab10_below HT.out HB_7.out)).mono ?_
          rintro e w8 ⟨rfl, hb⟩
          have HB_8 := Lib.hid (below_then HB_7.out hb)
          have HRu_8 := Lib.hid (Rw.below HRu_7.out hb)
          have HRe_8 := Lib.hid (Rw.below HRe_7.out hb)
          have HRo_8 := Lib.hid (Rw.below HRo_7.out hb)
          have HRf_8 := Lib.hid (Rw.below HRf_7.out hb)
          have HRx_8 := Lib.hid (Rw.below HRx_7.out hb)
          have HRy_8 := Lib.hid (Rw.below HRy_7.out hb)
          clear hb cu0_7_9 cu1_7_9 cu2_7_9 cu3_7_9 cu4_7_9 cu5_7_9 cu6_7_9 cu7_7_9 cu8_7_9 cu9_7_9 ce0_7_9 ce1_7_9 ce2_7_9 ce3_7_9 ce4_7_9 co0_7_9 co1_7_9 co2_7_9 cf0_7_9 cf1_7_9 cf2_7_9 cf3_7_9 cf4_7_9 cx0_7_9 cx1_7_9 cx2_7_9 cx3_7_9 cx4_7_9 cy0_7_9 cy1_7_9 cy2_7_9 cy3_7_9 cy4_7_9
          have cu0_8_10 := Rw.cell HRu_8.out (j := 0) rfl
          have cu1_8_10 := Rw.cell HRu_8.out (j := 1) rfl
          have cu2_8_10 := Rw.cell HRu_8.out (j := 2) rfl
          have cu3_8_10 := Rw.cell HRu_8.out (j := 3) rfl
          have cu4_8_10 := Rw.cell HRu_8.out (j := 4) rfl
          have cu5_8_10 := Rw.cell HRu_8.out (j := 5) rfl
          have cu6_8_10 := Rw.cell HRu_8.out (j := 6) rfl
          have cu7_8_10 := Rw.cell HRu_8.out (j := 7) rfl
          have cu8_8_10 := Rw.cell HRu_8.out (j := 8) rfl
          have cu9_8_10 := Rw.cell HRu_8.out (j := 9) rfl
          have ce0_8_10 := Rw.cell HRe_8.out (j := 0) rfl
          have ce1_8_10 := Rw.cell HRe_8.out (j := 1) rfl
          have ce2_8_10 := Rw.cell HRe_8.out (j := 2) rfl
          have ce3_8_10 := Rw.cell HRe_8.out (j := 3) rfl
          have ce4_8_10 := Rw.cell HRe_8.out (j := 4) rfl
          have co0_8_10 := Rw.cell HRo_8.out (j := 0) rfl
          have co1_8_10 := Rw.cell HRo_8.out (j := 1) rfl
          have co2_8_10 := Rw.cell HRo_8.out (j := 2) rfl
          have cf0_8_10 := Rw.cell HRf_8.out (j := 0) rfl
          have cf1_8_10 := Rw.cell HRf_8.out (j := 1) rfl
          have cf2_8_10 := Rw.cell HRf_8.out (j := 2) rfl
          have cf3_8_10 := Rw.cell HRf_8.out (j := 3) rfl
          have cf4_8_10 := Rw.cell HRf_8.out (j := 4) rfl
          have cx0_8_10 := Rw.cell HRx_8.out (j := 0) rfl
          have cx1_8_10 := Rw.cell HRx_8.out (j := 1) rfl
          have cx2_8_10 := Rw.cell HRx_8.out (j := 2) rfl
          have cx3_8_10 := Rw.cell HRx_8.out (j := 3) rfl
          have cx4_8_10 := Rw.cell HRx_8.out (j := 4) rfl
          have cy0_8_10 := Rw.cell HRy_8.out (j := 0) rfl
          have cy1_8_10 := Rw.cell HRy_8.out (j := 1) rfl
          have cy2_8_10 := Rw.cell HRy_8.out (j := 2) rfl
          have cy3_8_10 := Rw.cell HRy_8.out (j := 3) rfl
          have cy4_8_10 := Rw.cell HRy_8.out (j := 4) rfl
          go_wp2_with fail
          go_ret
          exact ⟨rfl, HB_8.out⟩
        case true =>
          have hxt : x = true := f3 rfl
          subst hxt
          clear f3
          go_enter Tryz.func6, Tryz.ntmps6
          go_wp2_with fail
          refine (HP.out _).mono ?_
          rintro e w1 ⟨rfl, hb⟩
          have HB_1 := Lib.hid (below_then HB0.out hb)
          clear hb
          have HBv_1b : Hid (Below w.heap.size w (w1.alloc (.cells #[.string S, .string U, .string P, .string H, .int .i64 pt, .string T, .bool hq, .string Q, .bool hf, .string F] 31))) := Lib.hid (below_more HB_1.out _)
          have HRvu_1b : Hid (Rw (w1.alloc (.cells #[.string S, .string U, .string P, .string H, .int .i64 pt, .string T, .bool hq, .string Q, .bool hf, .string F] 31)) 0 w1.heap.size 31 [.string S, .string U, .string P, .string H, .int .i64 pt, .string T, .bool hq, .string Q, .bool hf, .string F]) := Lib.hid (Rw.alloc w1 _ _ (Nat.zero_le _))
          have cu0_1_1 := Rw.cell HRvu_1b.out (j := 0) rfl
          have cu1_1_1 := Rw.cell HRvu_1b.out (j := 1) rfl
          have cu2_1_1 := Rw.cell HRvu_1b.out (j := 2) rfl
          have cu3_1_1 := Rw.cell HRvu_1b.out (j := 3) rfl
          have cu4_1_1 := Rw.cell HRvu_1b.out (j := 4) rfl
          have cu5_1_1 := Rw.cell HRvu_1b.out (j := 5) rfl
          have cu6_1_1 := Rw.cell HRvu_1b.out (j := 6) rfl
          have cu7_1_1 := Rw.cell HRvu_1b.out (j := 7) rfl
          have cu8_1_1 := Rw.cell HRvu_1b.out (j := 8) rfl
          have cu9_1_1 := Rw.cell HRvu_1b.out (j := 9) rfl
          go_wp2_with fail
          refine (C1.out _).mono ?_
          rintro e w2 ⟨rfl, hb⟩
          have HB_2 := Lib.hid (below_then HBv_1b.out hb)
          have HRu_2 := Lib.hid (Rw.below HRvu_1b.out hb)
          clear hb cu0_1_1 cu1_1_1 cu2_1_1 cu3_1_1 cu4_1_1 cu5_1_1 cu6_1_1 cu7_1_1 cu8_1_1 cu9_1_1
          have HBv_2b : Hid (Below w.heap.size w (w2.alloc (.cells #[.int .i64 k, .string e1, .string e2, .string e3, .string e4] 24))) := Lib.hid (below_more HB_2.out _)
          have HRvu_2b : Hid (Rw (w2.alloc (.cells #[.int .i64 k, .string e1, .string e2, .string e3, .string e4] 24)) 0 w1.heap.size 31 [.string S, .string U, .string P, .string H, .int .i64 pt, .string T, .bool hq, .string Q, .bool hf, .string F]) := Lib.hid (Rw.more HRu_2.out _)
          have HRve_2b : Hid (Rw (w2.alloc (.cells #[.int .i64 k, .string e1, .string e2, .string e3, .string e4] 24)) 0 w2.heap.size 24 [.int .i64 k, .string e1, .string e2, .string e3, .string e4]) := Lib.hid (Rw.alloc w2 _ _ (Nat.zero_le _))
          have cu0_2_2 := Rw.cell HRvu_2b.out (j := 0) rfl
          have cu1_2_2 := Rw.cell HRvu_2b.out (j := 1) rfl
          have cu2_2_2 := Rw.cell HRvu_2b.out (j := 2) rfl
          have cu3_2_2 := Rw.cell HRvu_2b.out (j := 3) rfl
          have cu4_2_2 := Rw.cell HRvu_2b.out (j := 4) rfl
          have cu5_2_2 := Rw.cell HRvu_2b.out (j := 5) rfl
          have cu6_2_2 := Rw.cell HRvu_2b.out (j := 6) rfl
          have cu7_2_2 := Rw.cell HRvu_2b.out (j := 7) rfl
          have cu8_2_2 := Rw.cell HRvu_2b.out (j := 8) rfl
          have cu9_2_2 := Rw.cell HRvu_2b.out (j := 9) rfl
          have ce0_2_2 := Rw.cell HRve_2b.out (j := 0) rfl
          have ce1_2_2 := Rw.cell HRve_2b.out (j := 1) rfl
          have ce2_2_2 := Rw.cell HRve_2b.out (j := 2) rfl
          have ce3_2_2 := Rw.cell HRve_2b.out (j := 3) rfl
          have ce4_2_2 := Rw.cell HRve_2b.out (j := 4) rfl
          go_wp2_with fail
          refine (C2.out _).mono ?_
          rintro e w3 ⟨rfl, hb⟩
          have HB_3 := Lib.hid (below_then HBv_2b.out hb)
          have HRu_3 := Lib.hid (Rw.below HRvu_2b.out hb)
          have HRe_3 := Lib.hid (Rw.below HRve_2b.out hb)
          clear hb cu0_2_2 cu1_2_2 cu2_2_2 cu3_2_2 cu4_2_2 cu5_2_2 cu6_2_2 cu7_2_2 cu8_2_2 cu9_2_2 ce0_2_2 ce1_2_2 ce2_2_2 ce3_2_2 ce4_2_2
          have HBv_3b : Hid (Below w.heap.size w (w3.alloc (.cells #[.string S2, .string H2, .int .i64 p2] 42))) := Lib.hid (below_more HB_3.out _)
          have HRvu_3b : Hid (Rw (w3.alloc (.cells #[.string S2, .string H2, .int .i64 p2] 42)) 0 w1.heap.size 31 [.string S, .string U, .string P, .string H, .int .i64 pt, .string T, .bool hq, .string Q, .bool hf, .string F]) := Lib.hid (Rw.more HRu_3.out _)
          have HRve_3b : Hid (Rw (w3.alloc (.cells #[.string S2, .string H2, .int .i64 p2] 42)) 0 w2.heap.size 24 [.int .i64 k, .string e1, .string e2, .string e3, .string e4]) := Lib.hid (Rw.more HRe_3.out _)
          have HRvo_3b : Hid (Rw (w3.alloc (.cells #[.string S2, .string H2, .int .i64 p2] 42)) 0 w3.heap.size 42 [.string S2, .string H2, .int .i64 p2]) := Lib.hid (Rw.alloc w3 _ _ (Nat.zero_le _))
          have cu0_3_3 := Rw.cell HRvu_3b.out (j := 0) rfl
          have cu1_3_3 := Rw.cell HRvu_3b.out (j := 1) rfl
          have cu2_3_3 := Rw.cell HRvu_3b.out (j := 2) rfl
          have cu3_3_3 := Rw.cell HRvu_3b.out (j := 3) rfl
          have cu4_3_3 := Rw.cell HRvu_3b.out (j := 4) rfl
          have cu5_3_3 := Rw.cell HRvu_3b.out (j := 5) rfl
          have cu6_3_3 := Rw.cell HRvu_3b.out (j := 6) rfl
          have cu7_3_3 := Rw.cell HRvu_3b.out (j := 7) rfl
          have cu8_3_3 := Rw.cell HRvu_3b.out (j := 8) rfl
          have cu9_3_3 := Rw.cell HRvu_3b.out (j := 9) rfl
          have ce0_3_3 := Rw.cell HRve_3b.out (j := 0) rfl
          have ce1_3_3 := Rw.cell HRve_3b.out (j := 1) rfl
          have ce2_3_3 := Rw.cell HRve_3b.out (j := 2) rfl
          have ce3_3_3 := Rw.cell HRve_3b.out (j := 3) rfl
          have ce4_3_3 := Rw.cell HRve_3b.out (j := 4) rfl
          have co0_3_3 := Rw.cell HRvo_3b.out (j := 0) rfl
          have co1_3_3 := Rw.cell HRvo_3b.out (j := 1) rfl
          have co2_3_3 := Rw.cell HRvo_3b.out (j := 2) rfl
          have HBv_3c : Hid (Below w.heap.size w ((w3.alloc (.cells #[.string S2, .string H2, .int .i64 p2] 42)).alloc (.cells #[.int .i64 k, .string e1, .string e2, .string e3, .string ⟨#[]⟩] 24))) := Lib.hid (below_more HBv_3b.out _)
          have HRvu_3c : Hid (Rw ((w3.alloc (.cells #[.string S2, .string H2, .int .i64 p2] 42)).alloc (.cells #[.int .i64 k, .string e1, .string e2, .string e3, .string ⟨#[]⟩] 24)) 0 w1.heap.size 31 [.string S, .string U, .string P, .string H, .int .i64 pt, .string T, .bool hq, .string Q, .bool hf, .string F]) := Lib.hid (Rw.more HRvu_3b.out _)
          have HRve_3c : Hid (Rw ((w3.alloc (.cells #[.string S2, .string H2, .int .i64 p2] 42)).alloc (.cells #[.int .i64 k, .string e1, .string e2, .string e3, .string ⟨#[]⟩] 24)) 0 w2.heap.size 24 [.int .i64 k, .string e1, .string e2, .string e3, .string e4]) := Lib.hid (Rw.more HRve_3b.out _)
          have HRvo_3c : Hid (Rw ((w3.alloc (.cells #[.string S2, .string H2, .int .i64 p2] 42)).alloc (.cells #[.int .i64 k, .string e1, .string e2, .string e3, .string ⟨#[]⟩] 24)) 0 w3.heap.size 42 [.string S2, .string H2, .int .i64 p2]) := Lib.hid (Rw.more HRvo_3b.out _)
          have HRvf_3c : Hid (Rw ((w3.alloc (.cells #[.string S2, .string H2, .int .i64 p2] 42)).alloc (.cells #[.int .i64 k, .string e1, .string e2, .string e3, .string ⟨#[]⟩] 24)) 0 (w3.heap.size + 1) 24 [.int .i64 k, .string e1, .string e2, .string e3, .string ⟨#[]⟩]) := Lib.hid (by have h := Rw.alloc (w3.alloc (.cells #[.string S2, .string H2, .int .i64 p2] 42)) 24 #[.int .i64 k, .string e1, .string e2, .string e3, .string ⟨#[]⟩] (Nat.zero_le (w3.alloc (.cells #[.string S2, .string H2, .int .i64 p2] 42)).heap.size); have hs : (w3.alloc (.cells #[.string S2, .string H2, .int .i64 p2] 42)).heap.size = (w3.heap.size + 1) := (by first | exact Array.size_push .. | (show (Array.push _ _).size = _; rw [Array.size_push]; rfl)); rw [hs] at h; exact h)
          have cu0_3_4 := Rw.cell HRvu_3c.out (j := 0) rfl
          have cu1_3_4 := Rw.cell HRvu_3c.out (j := 1) rfl
          have cu2_3_4 := Rw.cell HRvu_3c.out (j := 2) rfl
          have cu3_3_4 := Rw.cell HRvu_3c.out (j := 3) rfl
          have cu4_3_4 := Rw.cell HRvu_3c.out (j := 4) rfl
          have cu5_3_4 := Rw.cell HRvu_3c.out (j := 5) rfl
          have cu6_3_4 := Rw.cell HRvu_3c.out (j := 6) rfl
          have cu7_3_4 := Rw.cell HRvu_3c.out (j := 7) rfl
          have cu8_3_4 := Rw.cell HRvu_3c.out (j := 8) rfl
          have cu9_3_4 := Rw.cell HRvu_3c.out (j := 9) rfl
          have ce0_3_4 := Rw.cell HRve_3c.out (j := 0) rfl
          have ce1_3_4 := Rw.cell HRve_3c.out (j := 1) rfl
          have ce2_3_4 := Rw.cell HRve_3c.out (j := 2) rfl
          have ce3_3_4 := Rw.cell HRve_3c.out (j := 3) rfl
          have ce4_3_4 := Rw.cell HRve_3c.out (j := 4) rfl
          have co0_3_4 := Rw.cell HRvo_3c.out (j := 0) rfl
          have co1_3_4 := Rw.cell HRvo_3c.out (j := 1) rfl
          have co2_3_4 := Rw.cell HRvo_3c.out (j := 2) rfl
          have cf0_3_4 := Rw.cell HRvf_3c.out (j := 0) rfl
          have cf1_3_4 := Rw.cell HRvf_3c.out (j := 1) rfl
          have cf2_3_4 := Rw.cell HRvf_3c.out (j := 2) rfl
          have cf3_3_4 := Rw.cell HRvf_3c.out (j := 3) rfl
          have cf4_3_4 := Rw.cell HRvf_3c.out (j := 4) rfl
          go_wp2_with fail
          refine (M1.out _ (tab10_below HT.out HBv_3c.out)).mono ?_
          rintro e w4 ⟨rfl, hb⟩
          have HB_4 := Lib.hid (below_then HBv_3c.out hb)
          have HRu_4 := Lib.hid (Rw.below HRvu_3c.out hb)
          have HRe_4 := Lib.hid (Rw.below HRve_3c.out hb)
          have HRo_4 := Lib.hid (Rw.below HRvo_3c.out hb)
          have HRf_4 := Lib.hid (Rw.below HRvf_3c.out hb)
          clear hb cu0_3_3 cu1_3_3 cu2_3_3 cu3_3_3 cu4_3_3 cu5_3_3 cu6_3_3 cu7_3_3 cu8_3_3 cu9_3_3 ce0_3_3 ce1_3_3 ce2_3_3 ce3_3_3 ce4_3_3 co0_3_3 co1_3_3 co2_3_3 cu0_3_4 cu1_3_4 cu2_3_4 cu3_3_4 cu4_3_4 cu5_3_4 cu6_3_4 cu7_3_4 cu8_3_4 cu9_3_4 ce0_3_4 ce1_3_4 ce2_3_4 ce3_3_4 ce4_3_4 co0_3_4 co1_3_4 co2_3_4 cf0_3_4 cf1_3_4 cf2_3_4 cf3_3_4 cf4_3_4
          have cu0_4_5 := Rw.cell HRu_4.out (j := 0) rfl
          have cu1_4_5 := Rw.cell HRu_4.out (j := 1) rfl
          have cu2_4_5 := Rw.cell HRu_4.out (j := 2) rfl
          have cu3_4_5 := Rw.cell HRu_4.out (j := 3) rfl
          have cu4_4_5 := Rw.cell HRu_4.out (j := 4) rfl
          have cu5_4_5 := Rw.cell HRu_4.out (j := 5) rfl
          have cu6_4_5 := Rw.cell HRu_4.out (j := 6) rfl
          have cu7_4_5 := Rw.cell HRu_4.out (j := 7) rfl
          have cu8_4_5 := Rw.cell HRu_4.out (j := 8) rfl
          have cu9_4_5 := Rw.cell HRu_4.out (j := 9) rfl
          have ce0_4_5 := Rw.cell HRe_4.out (j := 0) rfl
          have ce1_4_5 := Rw.cell HRe_4.out (j := 1) rfl
          have ce2_4_5 := Rw.cell HRe_4.out (j := 2) rfl
          have ce3_4_5 := Rw.cell HRe_4.out (j := 3) rfl
          have ce4_4_5 := Rw.cell HRe_4.out (j := 4) rfl
          have co0_4_5 := Rw.cell HRo_4.out (j := 0) rfl
          have co1_4_5 := Rw.cell HRo_4.out (j := 1) rfl
          have co2_4_5 := Rw.cell HRo_4.out (j := 2) rfl
          have cf0_4_5 := Rw.cell HRf_4.out (j := 0) rfl
          have cf1_4_5 := Rw.cell HRf_4.out (j := 1) rfl
          have cf2_4_5 := Rw.cell HRf_4.out (j := 2) rfl
          have cf3_4_5 := Rw.cell HRf_4.out (j := 3) rfl
          have cf4_4_5 := Rw.cell HRf_4.out (j := 4) rfl
          go_wp2_with fail
          refine (M2.out _ (tab10_below HT.out HB_4.out)).mono ?_
          rintro e w5 ⟨rfl, hb⟩
          have HB_5 := Lib.hid (below_then HB_4.out hb)
          have HRu_5 := Lib.hid (Rw.below HRu_4.out hb)
          have HRe_5 := Lib.hid (Rw.below HRe_4.out hb)
          have HRo_5 := Lib.hid (Rw.below HRo_4.out hb)
          have HRf_5 := Lib.hid (Rw.below HRf_4.out hb)
          clear hb cu0_4_5 cu1_4_5 cu2_4_5 cu3_4_5 cu4_4_5 cu5_4_5 cu6_4_5 cu7_4_5 cu8_4_5 cu9_4_5 ce0_4_5 ce1_4_5 ce2_4_5 ce3_4_5 ce4_4_5 co0_4_5 co1_4_5 co2_4_5 cf0_4_5 cf1_4_5 cf2_4_5 cf3_4_5 cf4_4_5
          have cu0_5_6 := Rw.cell HRu_5.out (j := 0) rfl
          have cu1_5_6 := Rw.cell HRu_5.out (j := 1) rfl
          have cu2_5_6 := Rw.cell HRu_5.out (j := 2) rfl
          have cu3_5_6 := Rw.cell HRu_5.out (j := 3) rfl
          have cu4_5_6 := Rw.cell HRu_5.out (j := 4) rfl
          have cu5_5_6 := Rw.cell HRu_5.out (j := 5) rfl
          have cu6_5_6 := Rw.cell HRu_5.out (j := 6) rfl
          have cu7_5_6 := Rw.cell HRu_5.out (j := 7) rfl
          have cu8_5_6 := Rw.cell HRu_5.out (j := 8) rfl
          have cu9_5_6 := Rw.cell HRu_5.out (j := 9) rfl
          have ce0_5_6 := Rw.cell HRe_5.out (j := 0) rfl
          have ce1_5_6 := Rw.cell HRe_5.out (j := 1) rfl
          have ce2_5_6 := Rw.cell HRe_5.out (j := 2) rfl
          have ce3_5_6 := Rw.cell HRe_5.out (j := 3) rfl
          have ce4_5_6 := Rw.cell HRe_5.out (j := 4) rfl
          have co0_5_6 := Rw.cell HRo_5.out (j := 0) rfl
          have co1_5_6 := Rw.cell HRo_5.out (j := 1) rfl
          have co2_5_6 := Rw.cell HRo_5.out (j := 2) rfl
          have cf0_5_6 := Rw.cell HRf_5.out (j := 0) rfl
          have cf1_5_6 := Rw.cell HRf_5.out (j := 1) rfl
          have cf2_5_6 := Rw.cell HRf_5.out (j := 2) rfl
          have cf3_5_6 := Rw.cell HRf_5.out (j := 3) rfl
          have cf4_5_6 := Rw.cell HRf_5.out (j := 4) rfl
          go_wp2_with fail
          refine (M3.out _ (tab10_below HT.out HB_5.out)).mono ?_
          rintro e w6 ⟨rfl, hb⟩
          have HB_6 := Lib.hid (below_then HB_5.out hb)
          have HRu_6 := Lib.hid (Rw.below HRu_5.out hb)
          have HRe_6 := Lib.hid (Rw.below HRe_5.out hb)
          have HRo_6 := Lib.hid (Rw.below HRo_5.out hb)
          have HRf_6 := Lib.hid (Rw.below HRf_5.out hb)
          clear hb cu0_5_6 cu1_5_6 cu2_5_6 cu3_5_6 cu4_5_6 cu5_5_6 cu6_5_6 cu7_5_6 cu8_5_6 cu9_5_6 ce0_5_6 ce1_5_6 ce2_5_6 ce3_5_6 ce4_5_6 co0_5_6 co1_5_6 co2_5_6 cf0_5_6 cf1_5_6 cf2_5_6 cf3_5_6 cf4_5_6
          have HBv_6b : Hid (Below w.heap.size w (w6.alloc (.cells #[.int .i64 3, .string ⟨#[104, 116, 116, 112]⟩, .string ⟨#[]⟩, .string ⟨#[]⟩, .string ⟨#[]⟩] 24))) := Lib.hid (below_more HB_6.out _)
          have HRvu_6b : Hid (Rw (w6.alloc (.cells #[.int .i64 3, .string ⟨#[104, 116, 116, 112]⟩, .string ⟨#[]⟩, .string ⟨#[]⟩, .string ⟨#[]⟩] 24)) 0 w1.heap.size 31 [.string S, .string U, .string P, .string H, .int .i64 pt, .string T, .bool hq, .string Q, .bool hf, .string F]) := Lib.hid (Rw.more HRu_6.out _)
          have HRve_6b : Hid (Rw (w6.alloc (.cells #[.int .i64 3, .string ⟨#[104, 116, 116, 112]⟩, .string ⟨#[]⟩, .string ⟨#[]⟩, .string ⟨#[]⟩] 24)) 0 w2.heap.size 24 [.int .i64 k, .string e1, .string e2, .string e3, .string e4]) := Lib.hid (Rw.more HRe_6.out _)
          have HRvo_6b : Hid (Rw (w6.alloc (.cells #[.int .i64 3, .string ⟨#[104, 116, 116, 112]⟩, .string ⟨#[]⟩, .string ⟨#[]⟩, .string ⟨#[]⟩] 24)) 0 w3.heap.size 42 [.string S2, .string H2, .int .i64 p2]) := Lib.hid (Rw.more HRo_6.out _)
          have HRvf_6b : Hid (Rw (w6.alloc (.cells #[.int .i64 3, .string ⟨#[104, 116, 116, 112]⟩, .string ⟨#[]⟩, .string ⟨#[]⟩, .string ⟨#[]⟩] 24)) 0 (w3.heap.size + 1) 24 [.int .i64 k, .string e1, .string e2, .string e3, .string ⟨#[]⟩]) := Lib.hid (Rw.more HRf_6.out _)
          have HRvx_6b : Hid (Rw (w6.alloc (.cells #[.int .i64 3, .string ⟨#[104, 116, 116, 112]⟩, .string ⟨#[]⟩, .string ⟨#[]⟩, .string ⟨#[]⟩] 24)) 0 w6.heap.size 24 [.int .i64 3, .string ⟨#[104, 116, 116, 112]⟩, .string ⟨#[]⟩, .string ⟨#[]⟩, .string ⟨#[]⟩]) := Lib.hid (Rw.alloc w6 _ _ (Nat.zero_le _))
          have cu0_6_7 := Rw.cell HRvu_6b.out (j := 0) rfl
          have cu1_6_7 := Rw.cell HRvu_6b.out (j := 1) rfl
          have cu2_6_7 := Rw.cell HRvu_6b.out (j := 2) rfl
          have cu3_6_7 := Rw.cell HRvu_6b.out (j := 3) rfl
          have cu4_6_7 := Rw.cell HRvu_6b.out (j := 4) rfl
          have cu5_6_7 := Rw.cell HRvu_6b.out (j := 5) rfl
          have cu6_6_7 := Rw.cell HRvu_6b.out (j := 6) rfl
          have cu7_6_7 := Rw.cell HRvu_6b.out (j := 7) rfl
          have cu8_6_7 := Rw.cell HRvu_6b.out (j := 8) rfl
          have cu9_6_7 := Rw.cell HRvu_6b.out (j := 9) rfl
          have ce0_6_7 := Rw.cell HRve_6b.out (j := 0) rfl
          have ce1_6_7 := Rw.cell HRve_6b.out (j := 1) rfl
          have ce2_6_7 := Rw.cell HRve_6b.out (j := 2) rfl
          have ce3_6_7 := Rw.cell HRve_6b.out (j := 3) rfl
          have ce4_6_7 := Rw.cell HRve_6b.out (j := 4) rfl
          have co0_6_7 := Rw.cell HRvo_6b.out (j := 0) rfl
          have co1_6_7 := Rw.cell HRvo_6b.out (j := 1) rfl
          have co2_6_7 := Rw.cell HRvo_6b.out (j := 2) rfl
          have cf0_6_7 := Rw.cell HRvf_6b.out (j := 0) rfl
          have cf1_6_7 := Rw.cell HRvf_6b.out (j := 1) rfl
          have cf2_6_7 := Rw.cell HRvf_6b.out (j := 2) rfl
          have cf3_6_7 := Rw.cell HRvf_6b.out (j := 3) rfl
          have cf4_6_7 := Rw.cell HRvf_6b.out (j := 4) rfl
          have cx0_6_7 := Rw.cell HRvx_6b.out (j := 0) rfl
          have cx1_6_7 := Rw.cell HRvx_6b.out (j := 1) rfl
          have cx2_6_7 := Rw.cell HRvx_6b.out (j := 2) rfl
          have cx3_6_7 := Rw.cell HRvx_6b.out (j := 3) rfl
          have cx4_6_7 := Rw.cell HRvx_6b.out (j := 4) rfl
          have HBv_6c : Hid (Below w.heap.size w ((w6.alloc (.cells #[.int .i64 3, .string ⟨#[104, 116, 116, 112]⟩, .string ⟨#[]⟩, .string ⟨#[]⟩, .string ⟨#[]⟩] 24)).alloc (.cells #[.int .i64 3, .string ⟨#[104, 116, 116, 112, 115]⟩, .string ⟨#[]⟩, .string ⟨#[]⟩, .string ⟨#[]⟩] 24))) := Lib.hid (below_more HBv_6b.out _)
          have HRvu_6c : Hid (Rw ((w6.alloc (.cells #[.int .i64 3, .string ⟨#[104, 116, 116, 112]⟩, .string ⟨#[]⟩, .string ⟨#[]⟩, .string ⟨#[]⟩] 24)).alloc (.cells #[.int .i64 3, .string ⟨#[104, 116, 116, 112, 115]⟩, .string ⟨#[]⟩, .string ⟨#[]⟩, .string ⟨#[]⟩] 24)) 0 w1.heap.size 31 [.string S, .string U, .string P, .string H, .int .i64 pt, .string T, .bool hq, .string Q, .bool hf, .string F]) := Lib.hid (Rw.more HRvu_6b.out _)
          have HRve_6c : Hid (Rw ((w6.alloc (.cells #[.int .i64 3, .string ⟨#[104, 116, 116, 112]⟩, .string ⟨#[]⟩, .string ⟨#[]⟩, .string ⟨#[]⟩] 24)).alloc (.cells #[.int .i64 3, .string ⟨#[104, 116, 116, 112, 115]⟩, .string ⟨#[]⟩, .string ⟨#[]⟩, .string ⟨#[]⟩] 24)) 0 w2.heap.size 24 [.int .i64 k, .string e1, .string e2, .string e3, .string e4]) := Lib.hid (Rw.more HRve_6b.out _)
          have HRvo_6c : Hid (Rw ((w6.alloc (.cells #[.int .i64 3, .string ⟨#[104, 116, 116, 112]⟩, .string ⟨#[]⟩, .string ⟨#[]⟩, .string ⟨#[]⟩] 24)).alloc (.cells #[.int .i64 3, .string ⟨#[104, 116, 116, 112, 115]⟩, .string ⟨#[]⟩, .string ⟨#[]⟩, .string ⟨#[]⟩] 24)) 0 w3.heap.size 42 [.string S2, .string H2, .int .i64 p2]) := Lib.hid (Rw.more HRvo_6b.out _)
          have HRvf_6c : Hid (Rw ((w6.alloc (.cells #[.int .i64 3, .string ⟨#[104, 116, 116, 112]⟩, .string ⟨#[]⟩, .string ⟨#[]⟩, .string ⟨#[]⟩] 24)).alloc (.cells #[.int .i64 3, .string ⟨#[104, 116, 116, 112, 115]⟩, .string ⟨#[]⟩, .string ⟨#[]⟩, .string ⟨#[]⟩] 24)) 0 (w3.heap.size + 1) 24 [.int .i64 k, .string e1, .string e2, .string e3, .string ⟨#[]⟩]) := Lib.hid (Rw.more HRvf_6b.out _)
          have HRvx_6c : Hid (Rw ((w6.alloc (.cells #[.int .i64 3, .string ⟨#[104, 116, 116, 112]⟩, .string ⟨#[]⟩, .string ⟨#[]⟩, .string ⟨#[]⟩] 24)).alloc (.cells #[.int .i64 3, .string ⟨#[104, 116, 116, 112, 115]⟩, .string ⟨#[]⟩, .string ⟨#[]⟩, .string ⟨#[]⟩] 24)) 0 w6.heap.size 24 [.int .i64 3, .string ⟨#[104, 116, 116, 112]⟩, .string ⟨#[]⟩, .string ⟨#[]⟩, .string ⟨#[]⟩]) := Lib.hid (Rw.more HRvx_6b.out _)
          have HRvy_6c : Hid (Rw ((w6.alloc (.cells #[.int .i64 3, .string ⟨#[104, 116, 116, 112]⟩, .string ⟨#[]⟩, .string ⟨#[]⟩, .string ⟨#[]⟩] 24)).alloc (.cells #[.int .i64 3, .string ⟨#[104, 116, 116, 112, 115]⟩, .string ⟨#[]⟩, .string ⟨#[]⟩, .string ⟨#[]⟩] 24)) 0 (w6.heap.size + 1) 24 [.int .i64 3, .string ⟨#[104, 116, 116, 112, 115]⟩, .string ⟨#[]⟩, .string ⟨#[]⟩, .string ⟨#[]⟩]) := Lib.hid (by have h := Rw.alloc (w6.alloc (.cells #[.int .i64 3, .string ⟨#[104, 116, 116, 112]⟩, .string ⟨#[]⟩, .string ⟨#[]⟩, .string ⟨#[]⟩] 24)) 24 #[.int .i64 3, .string ⟨#[104, 116, 116, 112, 115]⟩, .string ⟨#[]⟩, .string ⟨#[]⟩, .string ⟨#[]⟩] (Nat.zero_le (w6.alloc (.cells #[.int .i64 3, .string ⟨#[104, 116, 116, 112]⟩, .string ⟨#[]⟩, .string ⟨#[]⟩, .string ⟨#[]⟩] 24)).heap.size); have hs : (w6.alloc (.cells #[.int .i64 3, .string ⟨#[104, 116, 116, 112]⟩, .string ⟨#[]⟩, .string ⟨#[]⟩, .string ⟨#[]⟩] 24)).heap.size = (w6.heap.size + 1) := (by first | exact Array.size_push .. | (show (Array.push _ _).size = _; rw [Array.size_push]; rfl)); rw [hs] at h; exact h)
          have cu0_6_8 := Rw.cell HRvu_6c.out (j := 0) rfl
          have cu1_6_8 := Rw.cell HRvu_6c.out (j := 1) rfl
          have cu2_6_8 := Rw.cell HRvu_6c.out (j := 2) rfl
          have cu3_6_8 := Rw.cell HRvu_6c.out (j := 3) rfl
          have cu4_6_8 := Rw.cell HRvu_6c.out (j := 4) rfl
          have cu5_6_8 := Rw.cell HRvu_6c.out (j := 5) rfl
          have cu6_6_8 := Rw.cell HRvu_6c.out (j := 6) rfl
          have cu7_6_8 := Rw.cell HRvu_6c.out (j := 7) rfl
          have cu8_6_8 := Rw.cell HRvu_6c.out (j := 8) rfl
          have cu9_6_8 := Rw.cell HRvu_6c.out (j := 9) rfl
          have ce0_6_8 := Rw.cell HRve_6c.out (j := 0) rfl
          have ce1_6_8 := Rw.cell HRve_6c.out (j := 1) rfl
          have ce2_6_8 := Rw.cell HRve_6c.out (j := 2) rfl
          have ce3_6_8 := Rw.cell HRve_6c.out (j := 3) rfl
          have ce4_6_8 := Rw.cell HRve_6c.out (j := 4) rfl
          have co0_6_8 := Rw.cell HRvo_6c.out (j := 0) rfl
          have co1_6_8 := Rw.cell HRvo_6c.out (j := 1) rfl
          have co2_6_8 := Rw.cell HRvo_6c.out (j := 2) rfl
          have cf0_6_8 := Rw.cell HRvf_6c.out (j := 0) rfl
          have cf1_6_8 := Rw.cell HRvf_6c.out (j := 1) rfl
          have cf2_6_8 := Rw.cell HRvf_6c.out (j := 2) rfl
          have cf3_6_8 := Rw.cell HRvf_6c.out (j := 3) rfl
          have cf4_6_8 := Rw.cell HRvf_6c.out (j := 4) rfl
          have cx0_6_8 := Rw.cell HRvx_6c.out (j := 0) rfl
          have cx1_6_8 := Rw.cell HRvx_6c.out (j := 1) rfl
          have cx2_6_8 := Rw.cell HRvx_6c.out (j := 2) rfl
          have cx3_6_8 := Rw.cell HRvx_6c.out (j := 3) rfl
          have cx4_6_8 := Rw.cell HRvx_6c.out (j := 4) rfl
          have cy0_6_8 := Rw.cell HRvy_6c.out (j := 0) rfl
          have cy1_6_8 := Rw.cell HRvy_6c.out (j := 1) rfl
          have cy2_6_8 := Rw.cell HRvy_6c.out (j := 2) rfl
          have cy3_6_8 := Rw.cell HRvy_6c.out (j := 3) rfl
          have cy4_6_8 := Rw.cell HRvy_6c.out (j := 4) rfl
          go_wp2_with fail
          refine (MY.out _ (tab10_below HT.out HBv_6c.out)).mono ?_
          rintro e w7 ⟨rfl, hb⟩
          have HB_7 := Lib.hid (below_then HBv_6c.out hb)
          have HRu_7 := Lib.hid (Rw.below HRvu_6c.out hb)
          have HRe_7 := Lib.hid (Rw.below HRve_6c.out hb)
          have HRo_7 := Lib.hid (Rw.below HRvo_6c.out hb)
          have HRf_7 := Lib.hid (Rw.below HRvf_6c.out hb)
          have HRx_7 := Lib.hid (Rw.below HRvx_6c.out hb)
          have HRy_7 := Lib.hid (Rw.below HRvy_6c.out hb)
          clear hb cu0_6_7 cu1_6_7 cu2_6_7 cu3_6_7 cu4_6_7 cu5_6_7 cu6_6_7 cu7_6_7 cu8_6_7 cu9_6_7 ce0_6_7 ce1_6_7 ce2_6_7 ce3_6_7 ce4_6_7 co0_6_7 co1_6_7 co2_6_7 cf0_6_7 cf1_6_7 cf2_6_7 cf3_6_7 cf4_6_7 cx0_6_7 cx1_6_7 cx2_6_7 cx3_6_7 cx4_6_7 cu0_6_8 cu1_6_8 cu2_6_8 cu3_6_8 cu4_6_8 cu5_6_8 cu6_6_8 cu7_6_8 cu8_6_8 cu9_6_8 ce0_6_8 ce1_6_8 ce2_6_8 ce3_6_8 ce4_6_8 co0_6_8 co1_6_8 co2_6_8 cf0_6_8 cf1_6_8 cf2_6_8 cf3_6_8 cf4_6_8 cx0_6_8 cx1_6_8 cx2_6_8 cx3_6_8 cx4_6_8 cy0_6_8 cy1_6_8 cy2_6_8 cy3_6_8 cy4_6_8
          have cu0_7_9 := Rw.cell HRu_7.out (j := 0) rfl
          have cu1_7_9 := Rw.cell HRu_7.out (j := 1) rfl
          have cu2_7_9 := Rw.cell HRu_7.out (j := 2) rfl
          have cu3_7_9 := Rw.cell HRu_7.out (j := 3) rfl
          have cu4_7_9 := Rw.cell HRu_7.out (j := 4) rfl
          have cu5_7_9 := Rw.cell HRu_7.out (j := 5) rfl
          have cu6_7_9 := Rw.cell HRu_7.out (j := 6) rfl
          have cu7_7_9 := Rw.cell HRu_7.out (j := 7) rfl
          have cu8_7_9 := Rw.cell HRu_7.out (j := 8) rfl
          have cu9_7_9 := Rw.cell HRu_7.out (j := 9) rfl
          have ce0_7_9 := Rw.cell HRe_7.out (j := 0) rfl
          have ce1_7_9 := Rw.cell HRe_7.out (j := 1) rfl
          have ce2_7_9 := Rw.cell HRe_7.out (j := 2) rfl
          have ce3_7_9 := Rw.cell HRe_7.out (j := 3) rfl
          have ce4_7_9 := Rw.cell HRe_7.out (j := 4) rfl
          have co0_7_9 := Rw.cell HRo_7.out (j := 0) rfl
          have co1_7_9 := Rw.cell HRo_7.out (j := 1) rfl
          have co2_7_9 := Rw.cell HRo_7.out (j := 2) rfl
          have cf0_7_9 := Rw.cell HRf_7.out (j := 0) rfl
          have cf1_7_9 := Rw.cell HRf_7.out (j := 1) rfl
          have cf2_7_9 := Rw.cell HRf_7.out (j := 2) rfl
          have cf3_7_9 := Rw.cell HRf_7.out (j := 3) rfl
          have cf4_7_9 := Rw.cell HRf_7.out (j := 4) rfl
          have cx0_7_9 := Rw.cell HRx_7.out (j := 0) rfl
          have cx1_7_9 := Rw.cell HRx_7.out (j := 1) rfl
          have cx2_7_9 := Rw.cell HRx_7.out (j := 2) rfl
          have cx3_7_9 := Rw.cell HRx_7.out (j := 3) rfl
          have cx4_7_9 := Rw.cell HRx_7.out (j := 4) rfl
          have cy0_7_9 := Rw.cell HRy_7.out (j := 0) rfl
          have cy1_7_9 := Rw.cell HRy_7.out (j := 1) rfl
          have cy2_7_9 := Rw.cell HRy_7.out (j := 2) rfl
          have cy3_7_9 := Rw.cell HRy_7.out (j := 3) rfl
          have cy4_7_9 := Rw.cell HRy_7.out (j := 4) rfl
          go_wp2_with fail
          refine (MX.out _ (tab10_below HT.out HB_7.out)).mono ?_
          rintro e w8 ⟨rfl, hb⟩
          have HB_8 := Lib.hid (below_then HB_7.out hb)
          have HRu_8 := Lib.hid (Rw.below HRu_7.out hb)
          have HRe_8 := Lib.hid (Rw.below HRe_7.out hb)
          have HRo_8 := Lib.hid (Rw.below HRo_7.out hb)
          have HRf_8 := Lib.hid (Rw.below HRf_7.out hb)
          have HRx_8 := Lib.hid (Rw.below HRx_7.out hb)
          have HRy_8 := Lib.hid (Rw.below HRy_7.out hb)
          clear hb cu0_7_9 cu1_7_9 cu2_7_9 cu3_7_9 cu4_7_9 cu5_7_9 cu6_7_9 cu7_7_9 cu8_7_9 cu9_7_9 ce0_7_9 ce1_7_9 ce2_7_9 ce3_7_9 ce4_7_9 co0_7_9 co1_7_9 co2_7_9 cf0_7_9 cf1_7_9 cf2_7_9 cf3_7_9 cf4_7_9 cx0_7_9 cx1_7_9 cx2_7_9 cx3_7_9 cx4_7_9 cy0_7_9 cy1_7_9 cy2_7_9 cy3_7_9 cy4_7_9
          have cu0_8_10 := Rw.cell HRu_8.out (j := 0) rfl
          have cu1_8_10 := Rw.cell HRu_8.out (j := 1) rfl
          have cu2_8_10 := Rw.cell HRu_8.out (j := 2) rfl
          have cu3_8_10 := Rw.cell HRu_8.out (j := 3) rfl
          have cu4_8_10 := Rw.cell HRu_8.out (j := 4) rfl
          have cu5_8_10 := Rw.cell HRu_8.out (j := 5) rfl
          have cu6_8_10 := Rw.cell HRu_8.out (j := 6) rfl
          have cu7_8_10 := Rw.cell HRu_8.out (j := 7) rfl
          have cu8_8_10 := Rw.cell HRu_8.out (j := 8) rfl
          have cu9_8_10 := Rw.cell HRu_8.out (j := 9) rfl
          have ce0_8_10 := Rw.cell HRe_8.out (j := 0) rfl
          have ce1_8_10 := Rw.cell HRe_8.out (j := 1) rfl
          have ce2_8_10 := Rw.cell HRe_8.out (j := 2) rfl
          have ce3_8_10 := Rw.cell HRe_8.out (j := 3) rfl
          have ce4_8_10 := Rw.cell HRe_8.out (j := 4) rfl
          have co0_8_10 := Rw.cell HRo_8.out (j := 0) rfl
          have co1_8_10 := Rw.cell HRo_8.out (j := 1) rfl
          have co2_8_10 := Rw.cell HRo_8.out (j := 2) rfl
          have cf0_8_10 := Rw.cell HRf_8.out (j := 0) rfl
          have cf1_8_10 := Rw.cell HRf_8.out (j := 1) rfl
          have cf2_8_10 := Rw.cell HRf_8.out (j := 2) rfl
          have cf3_8_10 := Rw.cell HRf_8.out (j := 3) rfl
          have cf4_8_10 := Rw.cell HRf_8.out (j := 4) rfl
          have cx0_8_10 := Rw.cell HRx_8.out (j := 0) rfl
          have cx1_8_10 := Rw.cell HRx_8.out (j := 1) rfl
          have cx2_8_10 := Rw.cell HRx_8.out (j := 2) rfl
          have cx3_8_10 := Rw.cell HRx_8.out (j := 3) rfl
          have cx4_8_10 := Rw.cell HRx_8.out (j := 4) rfl
          have cy0_8_10 := Rw.cell HRy_8.out (j := 0) rfl
          have cy1_8_10 := Rw.cell HRy_8.out (j := 1) rfl
          have cy2_8_10 := Rw.cell HRy_8.out (j := 2) rfl
          have cy3_8_10 := Rw.cell HRy_8.out (j := 3) rfl
          have cy4_8_10 := Rw.cell HRy_8.out (j := 4) rfl
          go_wp2_with fail
          refine (sawake_any _ (tab10_below HT.out HB_8.out)).mono ?_
          rintro e w9 ⟨rfl, hb⟩
          have HB_9 := Lib.hid (below_then HB_8.out hb)
          have HRu_9 := Lib.hid (Rw.below HRu_8.out hb)
          have HRe_9 := Lib.hid (Rw.below HRe_8.out hb)
          have HRo_9 := Lib.hid (Rw.below HRo_8.out hb)
          have HRf_9 := Lib.hid (Rw.below HRf_8.out hb)
          have HRx_9 := Lib.hid (Rw.below HRx_8.out hb)
          have HRy_9 := Lib.hid (Rw.below HRy_8.out hb)
          clear hb cu0_8_10 cu1_8_10 cu2_8_10 cu3_8_10 cu4_8_10 cu5_8_10 cu6_8_10 cu7_8_10 cu8_8_10 cu9_8_10 ce0_8_10 ce1_8_10 ce2_8_10 ce3_8_10 ce4_8_10 co0_8_10 co1_8_10 co2_8_10 cf0_8_10 cf1_8_10 cf2_8_10 cf3_8_10 cf4_8_10 cx0_8_10 cx1_8_10 cx2_8_10 cx3_8_10 cx4_8_10 cy0_8_10 cy1_8_10 cy2_8_10 cy3_8_10 cy4_8_10
          have cu0_9_11 := Rw.cell HRu_9.out (j := 0) rfl
          have cu1_9_11 := Rw.cell HRu_9.out (j := 1) rfl
          have cu2_9_11 := Rw.cell HRu_9.out (j := 2) rfl
          have cu3_9_11 := Rw.cell HRu_9.out (j := 3) rfl
          have cu4_9_11 := Rw.cell HRu_9.out (j := 4) rfl
          have cu5_9_11 := Rw.cell HRu_9.out (j := 5) rfl
          have cu6_9_11 := Rw.cell HRu_9.out (j := 6) rfl
          have cu7_9_11 := Rw.cell HRu_9.out (j := 7) rfl
          have cu8_9_11 := Rw.cell HRu_9.out (j := 8) rfl
          have cu9_9_11 := Rw.cell HRu_9.out (j := 9) rfl
          have ce0_9_11 := Rw.cell HRe_9.out (j := 0) rfl
          have ce1_9_11 := Rw.cell HRe_9.out (j := 1) rfl
          have ce2_9_11 := Rw.cell HRe_9.out (j := 2) rfl
          have ce3_9_11 := Rw.cell HRe_9.out (j := 3) rfl
          have ce4_9_11 := Rw.cell HRe_9.out (j := 4) rfl
          have co0_9_11 := Rw.cell HRo_9.out (j := 0) rfl
          have co1_9_11 := Rw.cell HRo_9.out (j := 1) rfl
          have co2_9_11 := Rw.cell HRo_9.out (j := 2) rfl
          have cf0_9_11 := Rw.cell HRf_9.out (j := 0) rfl
          have cf1_9_11 := Rw.cell HRf_9.out (j := 1) rfl
          have cf2_9_11 := Rw.cell HRf_9.out (j := 2) rfl
          have cf3_9_11 := Rw.cell HRf_9.out (j := 3) rfl
          have cf4_9_11 := Rw.cell HRf_9.out (j := 4) rfl
          have cx0_9_11 := Rw.cell HRx_9.out (j := 0) rfl
          have cx1_9_11 := Rw.cell HRx_9.out (j := 1) rfl
          have cx2_9_11 := Rw.cell HRx_9.out (j := 2) rfl
          have cx3_9_11 := Rw.cell HRx_9.out (j := 3) rfl
          have cx4_9_11 := Rw.cell HRx_9.out (j := 4) rfl
          have cy0_9_11 := Rw.cell HRy_9.out (j := 0) rfl
          have cy1_9_11 := Rw.cell HRy_9.out (j := 1) rfl
          have cy2_9_11 := Rw.cell HRy_9.out (j := 2) rfl
          have cy3_9_11 := Rw.cell HRy_9.out (j := 3) rfl
          have cy4_9_11 := Rw.cell HRy_9.out (j := 4) rfl
          go_wp2_with fail
          go_ret
          exact ⟨rfl, HB_9.out⟩
      case false =>
        clear f1
        cases b
        case false =>
          cases y
          case false =>
            clear f3 MX
            go_enter Tryz.func6, Tryz.ntmps6
            go_wp2_with fail
            refine (HP.out _).mono ?_
            rintro e w1 ⟨rfl, hb⟩
            have HB_1 := Lib.hid (below_then HB0.out hb)
            clear hb
            have HBv_1b : Hid (Below w.heap.size w (w1.alloc (.cells #[.string S, .string U, .string P, .string H, .int .i64 pt, .string T, .bool hq, .string Q, .bool hf, .string F] 31))) := Lib.hid (below_more HB_1.out _)
            have HRvu_1b : Hid (Rw (w1.alloc (.cells #[.string S, .string U, .string P, .string H, .int .i64 pt, .string T, .bool hq, .string Q, .bool hf, .string F] 31)) 0 w1.heap.size 31 [.string S, .string U, .string P, .string H, .int .i64 pt, .string T, .bool hq, .string Q, .bool hf, .string F]) := Lib.hid (Rw.alloc w1 _ _ (Nat.zero_le _))
            have cu0_1_1 := Rw.cell HRvu_1b.out (j := 0) rfl
            have cu1_1_1 := Rw.cell HRvu_1b.out (j := 1) rfl
            have cu2_1_1 := Rw.cell HRvu_1b.out (j := 2) rfl
            have cu3_1_1 := Rw.cell HRvu_1b.out (j := 3) rfl
            have cu4_1_1 := Rw.cell HRvu_1b.out (j := 4) rfl
            have cu5_1_1 := Rw.cell HRvu_1b.out (j := 5) rfl
            have cu6_1_1 := Rw.cell HRvu_1b.out (j := 6) rfl
            have cu7_1_1 := Rw.cell HRvu_1b.out (j := 7) rfl
            have cu8_1_1 := Rw.cell HRvu_1b.out (j := 8) rfl
            have cu9_1_1 := Rw.cell HRvu_1b.out (j := 9) rfl
            go_wp2_with fail
            refine (C1.out _).mono ?_
            rintro e w2 ⟨rfl, hb⟩
            have HB_2 := Lib.hid (below_then HBv_1b.out hb)
            have HRu_2 := Lib.hid (Rw.below HRvu_1b.out hb)
            clear hb cu0_1_1 cu1_1_1 cu2_1_1 cu3_1_1 cu4_1_1 cu5_1_1 cu6_1_1 cu7_1_1 cu8_1_1 cu9_1_1
            have HBv_2b : Hid (Below w.heap.size w (w2.alloc (.cells #[.int .i64 k, .string e1, .string e2, .string e3, .string e4] 24))) := Lib.hid (below_more HB_2.out _)
            have HRvu_2b : Hid (Rw (w2.alloc (.cells #[.int .i64 k, .string e1, .string e2, .string e3, .string e4] 24)) 0 w1.heap.size 31 [.string S, .string U, .string P, .string H, .int .i64 pt, .string T, .bool hq, .string Q, .bool hf, .string F]) := Lib.hid (Rw.more HRu_2.out _)
            have HRve_2b : Hid (Rw (w2.alloc (.cells #[.int .i64 k, .string e1, .string e2, .string e3, .string e4] 24)) 0 w2.heap.size 24 [.int .i64 k, .string e1, .string e2, .string e3, .string e4]) := Lib.hid (Rw.alloc w2 _ _ (Nat.zero_le _))
            have cu0_2_2 := Rw.cell HRvu_2b.out (j := 0) rfl
            have cu1_2_2 := Rw.cell HRvu_2b.out (j := 1) rfl
            have cu2_2_2 := Rw.cell HRvu_2b.out (j := 2) rfl
            have cu3_2_2 := Rw.cell HRvu_2b.out (j := 3) rfl
            have cu4_2_2 := Rw.cell HRvu_2b.out (j := 4) rfl
            have cu5_2_2 := Rw.cell HRvu_2b.out (j := 5) rfl
            have cu6_2_2 := Rw.cell HRvu_2b.out (j := 6) rfl
            have cu7_2_2 := Rw.cell HRvu_2b.out (j := 7) rfl
            have cu8_2_2 := Rw.cell HRvu_2b.out (j := 8) rfl
            have cu9_2_2 := Rw.cell HRvu_2b.out (j := 9) rfl
            have ce0_2_2 := Rw.cell HRve_2b.out (j := 0) rfl
            have ce1_2_2 := Rw.cell HRve_2b.out (j := 1) rfl
            have ce2_2_2 := Rw.cell HRve_2b.out (j := 2) rfl
            have ce3_2_2 := Rw.cell HRve_2b.out (j := 3) rfl
            have ce4_2_2 := Rw.cell HRve_2b.out (j := 4) rfl
            go_wp2_with fail
            refine (C2.out _).mono ?_
            rintro e w3 ⟨rfl, hb⟩
            have HB_3 := Lib.hid (below_then HBv_2b.out hb)
            have HRu_3 := Lib.hid (Rw.below HRvu_2b.out hb)
            have HRe_3 := Lib.hid (Rw.below HRve_2b.out hb)
            clear hb cu0_2_2 cu1_2_2 cu2_2_2 cu3_2_2 cu4_2_2 cu5_2_2 cu6_2_2 cu7_2_2 cu8_2_2 cu9_2_2 ce0_2_2 ce1_2_2 ce2_2_2 ce3_2_2 ce4_2_2
            have HBv_3b : Hid (Below w.heap.size w (w3.alloc (.cells #[.string S2, .string H2, .int .i64 p2] 42))) := Lib.hid (below_more HB_3.out _)
            have HRvu_3b : Hid (Rw (w3.alloc (.cells #[.string S2, .string H2, .int .i64 p2] 42)) 0 w1.heap.size 31 [.string S, .string U, .string P, .string H, .int .i64 pt, .string T, .bool hq, .string Q, .bool hf, .string F]) := Lib.hid (Rw.more HRu_3.out _)
            have HRve_3b : Hid (Rw (w3.alloc (.cells #[.string S2, .string H2, .int .i64 p2] 42)) 0 w2.heap.size 24 [.int .i64 k, .string e1, .string e2, .string e3, .string e4]) := Lib.hid (Rw.more HRe_3.out _)
            have HRvo_3b : Hid (Rw (w3.alloc (.cells #[.string S2, .string H2, .int .i64 p2] 42)) 0 w3.heap.size 42 [.string S2, .string H2, .int .i64 p2]) := Lib.hid (Rw.alloc w3 _ _ (Nat.zero_le _))
            have cu0_3_3 := Rw.cell HRvu_3b.out (j := 0) rfl
            have cu1_3_3 := Rw.cell HRvu_3b.out (j := 1) rfl
            have cu2_3_3 := Rw.cell HRvu_3b.out (j := 2) rfl
            have cu3_3_3 := Rw.cell HRvu_3b.out (j := 3) rfl
            have cu4_3_3 := Rw.cell HRvu_3b.out (j := 4) rfl
            have cu5_3_3 := Rw.cell HRvu_3b.out (j := 5) rfl
            have cu6_3_3 := Rw.cell HRvu_3b.out (j := 6) rfl
            have cu7_3_3 := Rw.cell HRvu_3b.out (j := 7) rfl
            have cu8_3_3 := Rw.cell HRvu_3b.out (j := 8) rfl
            have cu9_3_3 := Rw.cell HRvu_3b.out (j := 9) rfl
            have ce0_3_3 := Rw.cell HRve_3b.out (j := 0) rfl
            have ce1_3_3 := Rw.cell HRve_3b.out (j := 1) rfl
            have ce2_3_3 := Rw.cell HRve_3b.out (j := 2) rfl
            have ce3_3_3 := Rw.cell HRve_3b.out (j := 3) rfl
            have ce4_3_3 := Rw.cell HRve_3b.out (j := 4) rfl
            have co0_3_3 := Rw.cell HRvo_3b.out (j := 0) rfl
            have co1_3_3 := Rw.cell HRvo_3b.out (j := 1) rfl
            have co2_3_3 := Rw.cell HRvo_3b.out (j := 2) rfl
            have HBv_3c : Hid (Below w.heap.size w ((w3.alloc (.cells #[.string S2, .string H2, .int .i64 p2] 42)).alloc (.cells #[.int .i64 k, .string e1, .string e2, .string e3, .string ⟨#[]⟩] 24))) := Lib.hid (below_more HBv_3b.out _)
            have HRvu_3c : Hid (Rw ((w3.alloc (.cells #[.string S2, .string H2, .int .i64 p2] 42)).alloc (.cells #[.int .i64 k, .string e1, .string e2, .string e3, .string ⟨#[]⟩] 24)) 0 w1.heap.size 31 [.string S, .string U, .string P, .string H, .int .i64 pt, .string T, .bool hq, .string Q, .bool hf, .string F]) := Lib.hid (Rw.more HRvu_3b.out _)
            have HRve_3c : Hid (Rw ((w3.alloc (.cells #[.string S2, .string H2, .int .i64 p2] 42)).alloc (.cells #[.int .i64 k, .string e1, .string e2, .string e3, .string ⟨#[]⟩] 24)) 0 w2.heap.size 24 [.int .i64 k, .string e1, .string e2, .string e3, .string e4]) := Lib.hid (Rw.more HRve_3b.out _)
            have HRvo_3c : Hid (Rw ((w3.alloc (.cells #[.string S2, .string H2, .int .i64 p2] 42)).alloc (.cells #[.int .i64 k, .string e1, .string e2, .string e3, .string ⟨#[]⟩] 24)) 0 w3.heap.size 42 [.string S2, .string H2, .int .i64 p2]) := Lib.hid (Rw.more HRvo_3b.out _)
            have HRvf_3c : Hid (Rw ((w3.alloc (.cells #[.string S2, .string H2, .int .i64 p2] 42)).alloc (.cells #[.int .i64 k, .string e1, .string e2, .string e3, .string ⟨#[]⟩] 24)) 0 (w3.heap.size + 1) 24 [.int .i64 k, .string e1, .string e2, .string e3, .string ⟨#[]⟩]) := Lib.hid (by have h := Rw.alloc (w3.alloc (.cells #[.string S2, .string H2, .int .i64 p2] 42)) 24 #[.int .i64 k, .string e1, .string e2, .string e3, .string ⟨#[]⟩] (Nat.zero_le (w3.alloc (.cells #[.string S2, .string H2, .int .i64 p2] 42)).heap.size); have hs : (w3.alloc (.cells #[.string S2, .string H2, .int .i64 p2] 42)).heap.size = (w3.heap.size + 1) := (by first | exact Array.size_push .. | (show (Array.push _ _).size = _; rw [Array.size_push]; rfl)); rw [hs] at h; exact h)
            have cu0_3_4 := Rw.cell HRvu_3c.out (j := 0) rfl
            have cu1_3_4 := Rw.cell HRvu_3c.out (j := 1) rfl
            have cu2_3_4 := Rw.cell HRvu_3c.out (j := 2) rfl
            have cu3_3_4 := Rw.cell HRvu_3c.out (j := 3) rfl
            have cu4_3_4 := Rw.cell HRvu_3c.out (j := 4) rfl
            have cu5_3_4 := Rw.cell HRvu_3c.out (j := 5) rfl
            have cu6_3_4 := Rw.cell HRvu_3c.out (j := 6) rfl
            have cu7_3_4 := Rw.cell HRvu_3c.out (j := 7) rfl
            have cu8_3_4 := Rw.cell HRvu_3c.out (j := 8) rfl
            have cu9_3_4 := Rw.cell HRvu_3c.out (j := 9) rfl
            have ce0_3_4 := Rw.cell HRve_3c.out (j := 0) rfl
            have ce1_3_4 := Rw.cell HRve_3c.out (j := 1) rfl
            have ce2_3_4 := Rw.cell HRve_3c.out (j := 2) rfl
            have ce3_3_4 := Rw.cell HRve_3c.out (j := 3) rfl
            have ce4_3_4 := Rw.cell HRve_3c.out (j := 4) rfl
            have co0_3_4 := Rw.cell HRvo_3c.out (j := 0) rfl
            have co1_3_4 := Rw.cell HRvo_3c.out (j := 1) rfl
            have co2_3_4 := Rw.cell HRvo_3c.out (j := 2) rfl
            have cf0_3_4 := Rw.cell HRvf_3c.out (j := 0) rfl
            have cf1_3_4 := Rw.cell HRvf_3c.out (j := 1) rfl
            have cf2_3_4 := Rw.cell HRvf_3c.out (j := 2) rfl
            have cf3_3_4 := Rw.cell HRvf_3c.out (j := 3) rfl
            have cf4_3_4 := Rw.cell HRvf_3c.out (j := 4) rfl
            go_wp2_with fail
            refine (M1.out _ (tab10_below HT.out HBv_3c.out)).mono ?_
            rintro e w4 ⟨rfl, hb⟩
            have HB_4 := Lib.hid (below_then HBv_3c.out hb)
            have HRu_4 := Lib.hid (Rw.below HRvu_3c.out hb)
            have HRe_4 := Lib.hid (Rw.below HRve_3c.out hb)
            have HRo_4 := Lib.hid (Rw.below HRvo_3c.out hb)
            have HRf_4 := Lib.hid (Rw.below HRvf_3c.out hb)
            clear hb cu0_3_3 cu1_3_3 cu2_3_3 cu3_3_3 cu4_3_3 cu5_3_3 cu6_3_3 cu7_3_3 cu8_3_3 cu9_3_3 ce0_3_3 ce1_3_3 ce2_3_3 ce3_3_3 ce4_3_3 co0_3_3 co1_3_3 co2_3_3 cu0_3_4 cu1_3_4 cu2_3_4 cu3_3_4 cu4_3_4 cu5_3_4 cu6_3_4 cu7_3_4 cu8_3_4 cu9_3_4 ce0_3_4 ce1_3_4 ce2_3_4 ce3_3_4 ce4_3_4 co0_3_4 co1_3_4 co2_3_4 cf0_3_4 cf1_3_4 cf2_3_4 cf3_3_4 cf4_3_4
            have cu0_4_5 := Rw.cell HRu_4.out (j := 0) rfl
            have cu1_4_5 := Rw.cell HRu_4.out (j := 1) rfl
            have cu2_4_5 := Rw.cell HRu_4.out (j := 2) rfl
            have cu3_4_5 := Rw.cell HRu_4.out (j := 3) rfl
            have cu4_4_5 := Rw.cell HRu_4.out (j := 4) rfl
            have cu5_4_5 := Rw.cell HRu_4.out (j := 5) rfl
            have cu6_4_5 := Rw.cell HRu_4.out (j := 6) rfl
            have cu7_4_5 := Rw.cell HRu_4.out (j := 7) rfl
            have cu8_4_5 := Rw.cell HRu_4.out (j := 8) rfl
            have cu9_4_5 := Rw.cell HRu_4.out (j := 9) rfl
            have ce0_4_5 := Rw.cell HRe_4.out (j := 0) rfl
            have ce1_4_5 := Rw.cell HRe_4.out (j := 1) rfl
            have ce2_4_5 := Rw.cell HRe_4.out (j := 2) rfl
            have ce3_4_5 := Rw.cell HRe_4.out (j := 3) rfl
            have ce4_4_5 := Rw.cell HRe_4.out (j := 4) rfl
            have co0_4_5 := Rw.cell HRo_4.out (j := 0) rfl
            have co1_4_5 := Rw.cell HRo_4.out (j := 1) rfl
            have co2_4_5 := Rw.cell HRo_4.out (j := 2) rfl
            have cf0_4_5 := Rw.cell HRf_4.out (j := 0) rfl
            have cf1_4_5 := Rw.cell HRf_4.out (j := 1) rfl
            have cf2_4_5 := Rw.cell HRf_4.out (j := 2) rfl
            have cf3_4_5 := Rw.cell HRf_4.out (j := 3) rfl
            have cf4_4_5 := Rw.cell HRf_4.out (j := 4) rfl
            go_wp2_with fail
            refine (M2.out _ (tab10_below HT.out HB_4.out)).mono ?_
            rintro e w5 ⟨rfl, hb⟩
            have HB_5 := Lib.hid (below_then HB_4.out hb)
            have HRu_5 := Lib.hid (Rw.below HRu_4.out hb)
            have HRe_5 := Lib.hid (Rw.below HRe_4.out hb)
            have HRo_5 := Lib.hid (Rw.below HRo_4.out hb)
            have HRf_5 := Lib.hid (Rw.below HRf_4.out hb)
            clear hb cu0_4_5 cu1_4_5 cu2_4_5 cu3_4_5 cu4_4_5 cu5_4_5 cu6_4_5 cu7_4_5 cu8_4_5 cu9_4_5 ce0_4_5 ce1_4_5 ce2_4_5 ce3_4_5 ce4_4_5 co0_4_5 co1_4_5 co2_4_5 cf0_4_5 cf1_4_5 cf2_4_5 cf3_4_5 cf4_4_5
            have cu0_5_6 := Rw.cell HRu_5.out (j := 0) rfl
            have cu1_5_6 := Rw.cell HRu_5.out (j := 1) rfl
            have cu2_5_6 := Rw.cell HRu_5.out (j := 2) rfl
            have cu3_5_6 := Rw.cell HRu_5.out (j := 3) rfl
            have cu4_5_6 := Rw.cell HRu_5.out (j := 4) rfl
            have cu5_5_6 := Rw.cell HRu_5.out (j := 5) rfl
            have cu6_5_6 := Rw.cell HRu_5.out (j := 6) rfl
            have cu7_5_6 := Rw.cell HRu_5.out (j := 7) rfl
            have cu8_5_6 := Rw.cell HRu_5.out (j := 8) rfl
            have cu9_5_6 := Rw.cell HRu_5.out (j := 9) rfl
            have ce0_5_6 := Rw.cell HRe_5.out (j := 0) rfl
            have ce1_5_6 := Rw.cell HRe_5.out (j := 1) rfl
            have ce2_5_6 := Rw.cell HRe_5.out (j := 2) rfl
            have ce3_5_6 := Rw.cell HRe_5.out (j := 3) rfl
            have ce4_5_6 := Rw.cell HRe_5.out (j := 4) rfl
            have co0_5_6 := Rw.cell HRo_5.out (j := 0) rfl
            have co1_5_6 := Rw.cell HRo_5.out (j := 1) rfl
            have co2_5_6 := Rw.cell HRo_5.out (j := 2) rfl
            have cf0_5_6 := Rw.cell HRf_5.out (j := 0) rfl
            have cf1_5_6 := Rw.cell HRf_5.out (j := 1) rfl
            have cf2_5_6 := Rw.cell HRf_5.out (j := 2) rfl
            have cf3_5_6 := Rw.cell HRf_5.out (j := 3) rfl
            have cf4_5_6 := Rw.cell HRf_5.out (j := 4) rfl
            go_wp2_with fail
            refine (M3.out _ (tab10_below HT.out HB_5.out)).mono ?_
            rintro e w6 ⟨rfl, hb⟩
            have HB_6 := Lib.hid (below_then HB_5.out hb)
            have HRu_6 := Lib.hid (Rw.below HRu_5.out hb)
            have HRe_6 := Lib.hid (Rw.below HRe_5.out hb)
            have HRo_6 := Lib.hid (Rw.below HRo_5.out hb)
            have HRf_6 := Lib.hid (Rw.below HRf_5.out hb)
            clear hb cu0_5_6 cu1_5_6 cu2_5_6 cu3_5_6 cu4_5_6 cu5_5_6 cu6_5_6 cu7_5_6 cu8_5_6 cu9_5_6 ce0_5_6 ce1_5_6 ce2_5_6 ce3_5_6 ce4_5_6 co0_5_6 co1_5_6 co2_5_6 cf0_5_6 cf1_5_6 cf2_5_6 cf3_5_6 cf4_5_6
            have HBv_6b : Hid (Below w.heap.size w (w6.alloc (.cells #[.int .i64 3, .string ⟨#[104, 116, 116, 112]⟩, .string ⟨#[]⟩, .string ⟨#[]⟩, .string ⟨#[]⟩] 24))) := Lib.hid (below_more HB_6.out _)
            have HRvu_6b : Hid (Rw (w6.alloc (.cells #[.int .i64 3, .string ⟨#[104, 116, 116, 112]⟩, .string ⟨#[]⟩, .string ⟨#[]⟩, .string ⟨#[]⟩] 24)) 0 w1.heap.size 31 [.string S, .string U, .string P, .string H, .int .i64 pt, .string T, .bool hq, .string Q, .bool hf, .string F]) := Lib.hid (Rw.more HRu_6.out _)
            have HRve_6b : Hid (Rw (w6.alloc (.cells #[.int .i64 3, .string ⟨#[104, 116, 116, 112]⟩, .string ⟨#[]⟩, .string ⟨#[]⟩, .string ⟨#[]⟩] 24)) 0 w2.heap.size 24 [.int .i64 k, .string e1, .string e2, .string e3, .string e4]) := Lib.hid (Rw.more HRe_6.out _)
            have HRvo_6b : Hid (Rw (w6.alloc (.cells #[.int .i64 3, .string ⟨#[104, 116, 116, 112]⟩, .string ⟨#[]⟩, .string ⟨#[]⟩, .string ⟨#[]⟩] 24)) 0 w3.heap.size 42 [.string S2, .string H2, .int .i64 p2]) := Lib.hid (Rw.more HRo_6.out _)
            have HRvf_6b : Hid (Rw (w6.alloc (.cells #[.int .i64 3, .string ⟨#[104, 116, 116, 112]⟩, .string ⟨#[]⟩, .string ⟨#[]⟩, .string ⟨#[]⟩] 24)) 0 (w3.heap.size + 1) 24 [.int .i64 k, .string e1, .string e2, .string e3, .string ⟨#[]⟩]) := Lib.hid (Rw.more HRf_6.out _)
            have HRvx_6b : Hid (Rw (w6.alloc (.cells #[.int .i64 3, .string ⟨#[104, 116, 116, 112]⟩, .string ⟨#[]⟩, .string ⟨#[]⟩, .string ⟨#[]⟩] 24)) 0 w6.heap.size 24 [.int .i64 3, .string ⟨#[104, 116, 116, 112]⟩, .string ⟨#[]⟩, .string ⟨#[]⟩, .string ⟨#[]⟩]) := Lib.hid (Rw.alloc w6 _ _ (Nat.zero_le _))
            have cu0_6_7 := Rw.cell HRvu_6b.out (j := 0) rfl
            have cu1_6_7 := Rw.cell HRvu_6b.out (j := 1) rfl
            have cu2_6_7 := Rw.cell HRvu_6b.out (j := 2) rfl
            have cu3_6_7 := Rw.cell HRvu_6b.out (j := 3) rfl
            have cu4_6_7 := Rw.cell HRvu_6b.out (j := 4) rfl
            have cu5_6_7 := Rw.cell HRvu_6b.out (j := 5) rfl
            have cu6_6_7 := Rw.cell HRvu_6b.out (j := 6) rfl
            have cu7_6_7 := Rw.cell HRvu_6b.out (j := 7) rfl
            have cu8_6_7 := Rw.cell HRvu_6b.out (j := 8) rfl
            have cu9_6_7 := Rw.cell HRvu_6b.out (j := 9) rfl
            have ce0_6_7 := Rw.cell HRve_6b.out (j := 0) rfl
            have ce1_6_7 := Rw.cell HRve_6b.out (j := 1) rfl
            have ce2_6_7 := Rw.cell HRve_6b.out (j := 2) rfl
            have ce3_6_7 := Rw.cell HRve_6b.out (j := 3) rfl
            have ce4_6_7 := Rw.cell HRve_6b.out (j := 4) rfl
            have co0_6_7 := Rw.cell HRvo_6b.out (j := 0) rfl
            have co1_6_7 := Rw.cell HRvo_6b.out (j := 1) rfl
            have co2_6_7 := Rw.cell HRvo_6b.out (j := 2) rfl
            have cf0_6_7 := Rw.cell HRvf_6b.out (j := 0) rfl
            have cf1_6_7 := Rw.cell HRvf_6b.out (j := 1) rfl
            have cf2_6_7 := Rw.cell HRvf_6b.out (j := 2) rfl
            have cf3_6_7 := Rw.cell HRvf_6b.out (j := 3) rfl
            have cf4_6_7 := Rw.cell HRvf_6b.out (j := 4) rfl
            have cx0_6_7 := Rw.cell HRvx_6b.out (j := 0) rfl
            have cx1_6_7 := Rw.cell HRvx_6b.out (j := 1) rfl
            have cx2_6_7 := Rw.cell HRvx_6b.out (j := 2) rfl
            have cx3_6_7 := Rw.cell HRvx_6b.out (j := 3) rfl
            have cx4_6_7 := Rw.cell HRvx_6b.out (j := 4) rfl
            have HBv_6c : Hid (Below w.heap.size w ((w6.alloc (.cells #[.int .i64 3, .string ⟨#[104, 116, 116, 112]⟩, .string ⟨#[]⟩, .string ⟨#[]⟩, .string ⟨#[]⟩] 24)).alloc (.cells #[.int .i64 3, .string ⟨#[104, 116, 116, 112, 115]⟩, .string ⟨#[]⟩, .string ⟨#[]⟩, .string ⟨#[]⟩] 24))) := Lib.hid (below_more HBv_6b.out _)
            have HRvu_6c : Hid (Rw ((w6.alloc (.cells #[.int .i64 3, .string ⟨#[104, 116, 116, 112]⟩, .string ⟨#[]⟩, .string ⟨#[]⟩, .string ⟨#[]⟩] 24)).alloc (.cells #[.int .i64 3, .string ⟨#[104, 116, 116, 112, 115]⟩, .string ⟨#[]⟩, .string ⟨#[]⟩, .string ⟨#[]⟩] 24)) 0 w1.heap.size 31 [.string S, .string U, .string P, .string H, .int .i64 pt, .string T, .bool hq, .string Q, .bool hf, .string F]) := Lib.hid (Rw.more HRvu_6b.out _)
            have HRve_6c : Hid (Rw ((w6.alloc (.cells #[.int .i64 3, .string ⟨#[104, 116, 116, 112]⟩, .string ⟨#[]⟩, .string ⟨#[]⟩, .string ⟨#[]⟩] 24)).alloc (.cells #[.int .i64 3, .string ⟨#[104, 116, 116, 112, 115]⟩, .string ⟨#[]⟩, .string ⟨#[]⟩, .string ⟨#[]⟩] 24)) 0 w2.heap.size 24 [.int .i64 k, .string e1, .string e2, .string e3, .string e4]) := Lib.hid (Rw.more HRve_6b.out _)
            have HRvo_6c : Hid (Rw ((w6.alloc (.cells #[.int .i64 3, .string ⟨#[104, 116, 116, 112]⟩, .string ⟨#[]⟩, .string ⟨#[]⟩, .string ⟨#[]⟩] 24)).alloc (.cells #[.int .i64 3, .string ⟨#[104, 116, 116, 112, 115]⟩, .string ⟨#[]⟩, .string ⟨#[]⟩, .string ⟨#[]⟩] 24)) 0 w3.heap.size 42 [.string S2, .string H2, .int .i64 p2]) := Lib.hid (Rw.more HRvo_6b.out _)
            have HRvf_6c : Hid (Rw ((w6.alloc (.cells #[.int .i64 3, .string ⟨#[104, 116, 116, 112]⟩, .string ⟨#[]⟩, .string ⟨#[]⟩, .string ⟨#[]⟩] 24)).alloc (.cells #[.int .i64 3, .string ⟨#[104, 116, 116, 112, 115]⟩, .string ⟨#[]⟩, .string ⟨#[]⟩, .string ⟨#[]⟩] 24)) 0 (w3.heap.size + 1) 24 [.int .i64 k, .string e1, .string e2, .string e3, .string ⟨#[]⟩]) := Lib.hid (Rw.more HRvf_6b.out _)
            have HRvx_6c : Hid (Rw ((w6.alloc (.cells #[.int .i64 3, .string ⟨#[104, 116, 116, 112]⟩, .string ⟨#[]⟩, .string ⟨#[]⟩, .string ⟨#[]⟩] 24)).alloc (.cells #[.int .i64 3, .string ⟨#[104, 116, 116, 112, 115]⟩, .string ⟨#[]⟩, .string ⟨#[]⟩, .string ⟨#[]⟩] 24)) 0 w6.heap.size 24 [.int .i64 3, .string ⟨#[104, 116, 116, 112]⟩, .string ⟨#[]⟩, .string ⟨#[]⟩, .string ⟨#[]⟩]) := Lib.hid (Rw.more HRvx_6b.out _)
            have HRvy_6c : Hid (Rw ((w6.alloc (.cells #[.int .i64 3, .string ⟨#[104, 116, 116, 112]⟩, .string ⟨#[]⟩, .string ⟨#[]⟩, .string ⟨#[]⟩] 24)).alloc (.cells #[.int .i64 3, .string ⟨#[104, 116, 116, 112, 115]⟩, .string ⟨#[]⟩, .string ⟨#[]⟩, .string ⟨#[]⟩] 24)) 0 (w6.heap.size + 1) 24 [.int .i64 3, .string ⟨#[104, 116, 116, 112, 115]⟩, .string ⟨#[]⟩, .string ⟨#[]⟩, .string ⟨#[]⟩]) := Lib.hid (by have h := Rw.alloc (w6.alloc (.cells #[.int .i64 3, .string ⟨#[104, 116, 116, 112]⟩, .string ⟨#[]⟩, .string ⟨#[]⟩, .string ⟨#[]⟩] 24)) 24 #[.int .i64 3, .string ⟨#[104, 116, 116, 112, 115]⟩, .string ⟨#[]⟩, .string ⟨#[]⟩, .string ⟨#[]⟩] (Nat.zero_le (w6.alloc (.cells #[.int .i64 3, .string ⟨#[104, 116, 116, 112]⟩, .string ⟨#[]⟩, .string ⟨#[]⟩, .string ⟨#[]⟩] 24)).heap.size); have hs : (w6.alloc (.cells #[.int .i64 3, .string ⟨#[104, 116, 116, 112]⟩, .string ⟨#[]⟩, .string ⟨#[]⟩, .string ⟨#[]⟩] 24)).heap.size = (w6.heap.size + 1) := (by first | exact Array.size_push .. | (show (Array.push _ _).size = _; rw [Array.size_push]; rfl)); rw [hs] at h; exact h)
            have cu0_6_8 := Rw.cell HRvu_6c.out (j := 0) rfl
            have cu1_6_8 := Rw.cell HRvu_6c.out (j := 1) rfl
            have cu2_6_8 := Rw.cell HRvu_6c.out (j := 2) rfl
            have cu3_6_8 := Rw.cell HRvu_6c.out (j := 3) rfl
            have cu4_6_8 := Rw.cell HRvu_6c.out (j := 4) rfl
            have cu5_6_8 := Rw.cell HRvu_6c.out (j := 5) rfl
            have cu6_6_8 := Rw.cell HRvu_6c.out (j := 6) rfl
            have cu7_6_8 := Rw.cell HRvu_6c.out (j := 7) rfl
            have cu8_6_8 := Rw.cell HRvu_6c.out (j := 8) rfl
            have cu9_6_8 := Rw.cell HRvu_6c.out (j := 9) rfl
            have ce0_6_8 := Rw.cell HRve_6c.out (j := 0) rfl
            have ce1_6_8 := Rw.cell HRve_6c.out (j := 1) rfl
            have ce2_6_8 := Rw.cell HRve_6c.out (j := 2) rfl
            have ce3_6_8 := Rw.cell HRve_6c.out (j := 3) rfl
            have ce4_6_8 := Rw.cell HRve_6c.out (j := 4) rfl
            have co0_6_8 := Rw.cell HRvo_6c.out (j := 0) rfl
            have co1_6_8 := Rw.cell HRvo_6c.out (j := 1) rfl
            have co2_6_8 := Rw.cell HRvo_6c.out (j := 2) rfl
            have cf0_6_8 := Rw.cell HRvf_6c.out (j := 0) rfl
            have cf1_6_8 := Rw.cell HRvf_6c.out (j := 1) rfl
            have cf2_6_8 := Rw.cell HRvf_6c.out (j := 2) rfl
            have cf3_6_8 := Rw.cell HRvf_6c.out (j := 3) rfl
            have cf4_6_8 := Rw.cell HRvf_6c.out (j := 4) rfl
            have cx0_6_8 := Rw.cell HRvx_6c.out (j := 0) rfl
            have cx1_6_8 := Rw.cell HRvx_6c.out (j := 1) rfl
            have cx2_6_8 := Rw.cell HRvx_6c.out (j := 2) rfl
            have cx3_6_8 := Rw.cell HRvx_6c.out (j := 3) rfl
            have cx4_6_8 := Rw.cell HRvx_6c.out (j := 4) rfl
            have cy0_6_8 := Rw.cell HRvy_6c.out (j := 0) rfl
            have cy1_6_8 := Rw.cell HRvy_6c.out (j := 1) rfl
            have cy2_6_8 := Rw.cell HRvy_6c.out (j := 2) rfl
            have cy3_6_8 := Rw.cell HRvy_6c.out (j := 3) rfl
            have cy4_6_8 := Rw.cell HRvy_6c.out (j := 4) rfl
            go_wp2_with fail
            refine (MY.out _ (tab10_below HT.out HBv_6c.out)).mono ?_
            rintro e w7 ⟨rfl, hb⟩
            have HB_7 := Lib.hid (below_then HBv_6c.out hb)
            have HRu_7 := Lib.hid (Rw.below HRvu_6c.out hb)
            have HRe_7 := Lib.hid (Rw.below HRve_6c.out hb)
            have HRo_7 := Lib.hid (Rw.below HRvo_6c.out hb)
            have HRf_7 := Lib.hid (Rw.below HRvf_6c.out hb)
            have HRx_7 := Lib.hid (Rw.below HRvx_6c.out hb)
            have HRy_7 := Lib.hid (Rw.below HRvy_6c.out hb)
            clear hb cu0_6_7 cu1_6_7 cu2_6_7 cu3_6_7 cu4_6_7 cu5_6_7 cu6_6_7 cu7_6_7 cu8_6_7 cu9_6_7 ce0_6_7 ce1_6_7 ce2_6_7 ce3_6_7 ce4_6_7 co0_6_7 co1_6_7 co2_6_7 cf0_6_7 cf1_6_7 cf2_6_7 cf3_6_7 cf4_6_7 cx0_6_7 cx1_6_7 cx2_6_7 cx3_6_7 cx4_6_7 cu0_6_8 cu1_6_8 cu2_6_8 cu3_6_8 cu4_6_8 cu5_6_8 cu6_6_8 cu7_6_8 cu8_6_8 cu9_6_8 ce0_6_8 ce1_6_8 ce2_6_8 ce3_6_8 ce4_6_8 co0_6_8 co1_6_8 co2_6_8 cf0_6_8 cf1_6_8 cf2_6_8 cf3_6_8 cf4_6_8 cx0_6_8 cx1_6_8 cx2_6_8 cx3_6_8 cx4_6_8 cy0_6_8 cy1_6_8 cy2_6_8 cy3_6_8 cy4_6_8
            have cu0_7_9 := Rw.cell HRu_7.out (j := 0) rfl
            have cu1_7_9 := Rw.cell HRu_7.out (j := 1) rfl
            have cu2_7_9 := Rw.cell HRu_7.out (j := 2) rfl
            have cu3_7_9 := Rw.cell HRu_7.out (j := 3) rfl
            have cu4_7_9 := Rw.cell HRu_7.out (j := 4) rfl
            have cu5_7_9 := Rw.cell HRu_7.out (j := 5) rfl
            have cu6_7_9 := Rw.cell HRu_7.out (j := 6) rfl
            have cu7_7_9 := Rw.cell HRu_7.out (j := 7) rfl
            have cu8_7_9 := Rw.cell HRu_7.out (j := 8) rfl
            have cu9_7_9 := Rw.cell HRu_7.out (j := 9) rfl
            have ce0_7_9 := Rw.cell HRe_7.out (j := 0) rfl
            have ce1_7_9 := Rw.cell HRe_7.out (j := 1) rfl
            have ce2_7_9 := Rw.cell HRe_7.out (j := 2) rfl
            have ce3_7_9 := Rw.cell HRe_7.out (j := 3) rfl
            have ce4_7_9 := Rw.cell HRe_7.out (j := 4) rfl
            have co0_7_9 := Rw.cell HRo_7.out (j := 0) rfl
            have co1_7_9 := Rw.cell HRo_7.out (j := 1) rfl
            have co2_7_9 := Rw.cell HRo_7.out (j := 2) rfl
            have cf0_7_9 := Rw.cell HRf_7.out (j := 0) rfl
            have cf1_7_9 := Rw.cell HRf_7.out (j := 1) rfl
            have cf2_7_9 := Rw.cell HRf_7.out (j := 2) rfl
            have cf3_7_9 := Rw.cell HRf_7.out (j := 3) rfl
            have cf4_7_9 := Rw.cell HRf_7.out (j := 4) rfl
            have cx0_7_9 := Rw.cell HRx_7.out (j := 0) rfl
            have cx1_7_9 := Rw.cell HRx_7.out (j := 1) rfl
            have cx2_7_9 := Rw.cell HRx_7.out (j := 2) rfl
            have cx3_7_9 := Rw.cell HRx_7.out (j := 3) rfl
            have cx4_7_9 := Rw.cell HRx_7.out (j := 4) rfl
            have cy0_7_9 := Rw.cell HRy_7.out (j := 0) rfl
            have cy1_7_9 := Rw.cell HRy_7.out (j := 1) rfl
            have cy2_7_9 := Rw.cell HRy_7.out (j := 2) rfl
            have cy3_7_9 := Rw.cell HRy_7.out (j := 3) rfl
            have cy4_7_9 := Rw.cell HRy_7.out (j := 4) rfl
            go_wp2_with fail
            refine (sawake_any _ (tab10_below HT.out HB_7.out)).mono ?_
            rintro e w8 ⟨rfl, hb⟩
            have HB_8 := Lib.hid (below_then HB_7.out hb)
            have HRu_8 := Lib.hid (Rw.below HRu_7.out hb)
            have HRe_8 := Lib.hid (Rw.below HRe_7.out hb)
            have HRo_8 := Lib.hid (Rw.below HRo_7.out hb)
            have HRf_8 := Lib.hid (Rw.below HRf_7.out hb)
            have HRx_8 := Lib.hid (Rw.below HRx_7.out hb)
            have HRy_8 := Lib.hid (Rw.below HRy_7.out hb)
            clear hb cu0_7_9 cu1_7_9 cu2_7_9 cu3_7_9 cu4_7_9 cu5_7_9 cu6_7_9 cu7_7_9 cu8_7_9 cu9_7_9 ce0_7_9 ce1_7_9 ce2_7_9 ce3_7_9 ce4_7_9 co0_7_9 co1_7_9 co2_7_9 cf0_7_9 cf1_7_9 cf2_7_9 cf3_7_9 cf4_7_9 cx0_7_9 cx1_7_9 cx2_7_9 cx3_7_9 cx4_7_9 cy0_7_9 cy1_7_9 cy2_7_9 cy3_7_9 cy4_7_9
            have cu0_8_10 := Rw.cell HRu_8.out (j := 0) rfl
            have cu1_8_10 := Rw.cell HRu_8.out (j := 1) rfl
            have cu2_8_10 := Rw.cell HRu_8.out (j := 2) rfl
            have cu3_8_10 := Rw.cell HRu_8.out (j := 3) rfl
            have cu4_8_10 := Rw.cell HRu_8.out (j := 4) rfl
            have cu5_8_10 := Rw.cell HRu_8.out (j := 5) rfl
            have cu6_8_10 := Rw.cell HRu_8.out (j := 6) rfl
            have cu7_8_10 := Rw.cell HRu_8.out (j := 7) rfl
            have cu8_8_10 := Rw.cell HRu_8.out (j := 8) rfl
            have cu9_8_10 := Rw.cell HRu_8.out (j := 9) rfl
            have ce0_8_10 := Rw.cell HRe_8.out (j := 0) rfl
            have ce1_8_10 := Rw.cell HRe_8.out (j := 1) rfl
            have ce2_8_10 := Rw.cell HRe_8.out (j := 2) rfl
            have ce3_8_10 := Rw.cell HRe_8.out (j := 3) rfl
            have ce4_8_10 := Rw.cell HRe_8.out (j := 4) rfl
            have co0_8_10 := Rw.cell HRo_8.out (j := 0) rfl
            have co1_8_10 := Rw.cell HRo_8.out (j := 1) rfl
            have co2_8_10 := Rw.cell HRo_8.out (j := 2) rfl
            have cf0_8_10 := Rw.cell HRf_8.out (j := 0) rfl
            have cf1_8_10 := Rw.cell HRf_8.out (j := 1) rfl
            have cf2_8_10 := Rw.cell HRf_8.out (j := 2) rfl
            have cf3_8_10 := Rw.cell HRf_8.out (j := 3) rfl
            have cf4_8_10 := Rw.cell HRf_8.out (j := 4) rfl
            have cx0_8_10 := Rw.cell HRx_8.out (j := 0) rfl
            have cx1_8_10 := Rw.cell HRx_8.out (j := 1) rfl
            have cx2_8_10 := Rw.cell HRx_8.out (j := 2) rfl
            have cx3_8_10 := Rw.cell HRx_8.out (j := 3) rfl
            have cx4_8_10 := Rw.cell HRx_8.out (j := 4) rfl
            have cy0_8_10 := Rw.cell HRy_8.out (j := 0) rfl
            have cy1_8_10 := Rw.cell HRy_8.out (j := 1) rfl
            have cy2_8_10 := Rw.cell HRy_8.out (j := 2) rfl
            have cy3_8_10 := Rw.cell HRy_8.out (j := 3) rfl
            have cy4_8_10 := Rw.cell HRy_8.out (j := 4) rfl
            go_wp2_with fail
            go_ret
            exact ⟨rfl, HB_8.out⟩
          case true =>
            have hxt : x = true := f3 rfl
            subst hxt
            clear f3
            go_enter Tryz.func6, Tryz.ntmps6
            go_wp2_with fail
            refine (HP.out _).mono ?_
            rintro e w1 ⟨rfl, hb⟩
            have HB_1 := Lib.hid (below_then HB0.out hb)
            clear hb
            have HBv_1b : Hid (Below w.heap.size w (w1.alloc (.cells #[.string S, .string U, .string P, .string H, .int .i64 pt, .string T, .bool hq, .string Q, .bool hf, .string F] 31))) := Lib.hid (below_more HB_1.out _)
            have HRvu_1b : Hid (Rw (w1.alloc (.cells #[.string S, .string U, .string P, .string H, .int .i64 pt, .string T, .bool hq, .string Q, .bool hf, .string F] 31)) 0 w1.heap.size 31 [.string S, .string U, .string P, .string H, .int .i64 pt, .string T, .bool hq, .string Q, .bool hf, .string F]) := Lib.hid (Rw.alloc w1 _ _ (Nat.zero_le _))
            have cu0_1_1 := Rw.cell HRvu_1b.out (j := 0) rfl
            have cu1_1_1 := Rw.cell HRvu_1b.out (j := 1) rfl
            have cu2_1_1 := Rw.cell HRvu_1b.out (j := 2) rfl
            have cu3_1_1 := Rw.cell HRvu_1b.out (j := 3) rfl
            have cu4_1_1 := Rw.cell HRvu_1b.out (j := 4) rfl
            have cu5_1_1 := Rw.cell HRvu_1b.out (j := 5) rfl
            have cu6_1_1 := Rw.cell HRvu_1b.out (j := 6) rfl
            have cu7_1_1 := Rw.cell HRvu_1b.out (j := 7) rfl
            have cu8_1_1 := Rw.cell HRvu_1b.out (j := 8) rfl
            have cu9_1_1 := Rw.cell HRvu_1b.out (j := 9) rfl
            go_wp2_with fail
            refine (C1.out _).mono ?_
            rintro e w2 ⟨rfl, hb⟩
            have HB_2 := Lib.hid (below_then HBv_1b.out hb)
            have HRu_2 := Lib.hid (Rw.below HRvu_1b.out hb)
            clear hb cu0_1_1 cu1_1_1 cu2_1_1 cu3_1_1 cu4_1_1 cu5_1_1 cu6_1_1 cu7_1_1 cu8_1_1 cu9_1_1
            have HBv_2b : Hid (Below w.heap.size w (w2.alloc (.cells #[.int .i64 k, .string e1, .string e2, .string e3, .string e4] 24))) := Lib.hid (below_more HB_2.out _)
            have HRvu_2b : Hid (Rw (w2.alloc (.cells #[.int .i64 k, .string e1, .string e2, .string e3, .string e4] 24)) 0 w1.heap.size 31 [.string S, .string U, .string P, .string H, .int .i64 pt, .string T, .bool hq, .string Q, .bool hf, .string F]) := Lib.hid (Rw.more HRu_2.out _)
            have HRve_2b : Hid (Rw (w2.alloc (.cells #[.int .i64 k, .string e1, .string e2, .string e3, .string e4] 24)) 0 w2.heap.size 24 [.int .i64 k, .string e1, .string e2, .string e3, .string e4]) := Lib.hid (Rw.alloc w2 _ _ (Nat.zero_le _))
            have cu0_2_2 := Rw.cell HRvu_2b.out (j := 0) rfl
            have cu1_2_2 := Rw.cell HRvu_2b.out (j := 1) rfl
            have cu2_2_2 := Rw.cell HRvu_2b.out (j := 2) rfl
            have cu3_2_2 := Rw.cell HRvu_2b.out (j := 3) rfl
            have cu4_2_2 := Rw.cell HRvu_2b.out (j := 4) rfl
            have cu5_2_2 := Rw.cell HRvu_2b.out (j := 5) rfl
            have cu6_2_2 := Rw.cell HRvu_2b.out (j := 6) rfl
            have cu7_2_2 := Rw.cell HRvu_2b.out (j := 7) rfl
            have cu8_2_2 := Rw.cell HRvu_2b.out (j := 8) rfl
            have cu9_2_2 := Rw.cell HRvu_2b.out (j := 9) rfl
            have ce0_2_2 := Rw.cell HRve_2b.out (j := 0) rfl
            have ce1_2_2 := Rw.cell HRve_2b.out (j := 1) rfl
            have ce2_2_2 := Rw.cell HRve_2b.out (j := 2) rfl
            have ce3_2_2 := Rw.cell HRve_2b.out (j := 3) rfl
            have ce4_2_2 := Rw.cell HRve_2b.out (j := 4) rfl
            go_wp2_with fail
            refine (C2.out _).mono ?_
            rintro e w3 ⟨rfl, hb⟩
            have HB_3 := Lib.hid (below_then HBv_2b.out hb)
            have HRu_3 := Lib.hid (Rw.below HRvu_2b.out hb)
            have HRe_3 := Lib.hid (Rw.below HRve_2b.out hb)
            clear hb cu0_2_2 cu1_2_2 cu2_2_2 cu3_2_2 cu4_2_2 cu5_2_2 cu6_2_2 cu7_2_2 cu8_2_2 cu9_2_2 ce0_2_2 ce1_2_2 ce2_2_2 ce3_2_2 ce4_2_2
            have HBv_3b : Hid (Below w.heap.size w (w3.alloc (.cells #[.string S2, .string H2, .int .i64 p2] 42))) := Lib.hid (below_more HB_3.out _)
            have HRvu_3b : Hid (Rw (w3.alloc (.cells #[.string S2, .string H2, .int .i64 p2] 42)) 0 w1.heap.size 31 [.string S, .string U, .string P, .string H, .int .i64 pt, .string T, .bool hq, .string Q, .bool hf, .string F]) := Lib.hid (Rw.more HRu_3.out _)
            have HRve_3b : Hid (Rw (w3.alloc (.cells #[.string S2, .string H2, .int .i64 p2] 42)) 0 w2.heap.size 24 [.int .i64 k, .string e1, .string e2, .string e3, .string e4]) := Lib.hid (Rw.more HRe_3.out _)
            have HRvo_3b : Hid (Rw (w3.alloc (.cells #[.string S2, .string H2, .int .i64 p2] 42)) 0 w3.heap.size 42 [.string S2, .string H2, .int .i64 p2]) := Lib.hid (Rw.alloc w3 _ _ (Nat.zero_le _))
            have cu0_3_3 := Rw.cell HRvu_3b.out (j := 0) rfl
            have cu1_3_3 := Rw.cell HRvu_3b.out (j := 1) rfl
            have cu2_3_3 := Rw.cell HRvu_3b.out (j := 2) rfl
            have cu3_3_3 := Rw.cell HRvu_3b.out (j := 3) rfl
            have cu4_3_3 := Rw.cell HRvu_3b.out (j := 4) rfl
            have cu5_3_3 := Rw.cell HRvu_3b.out (j := 5) rfl
            have cu6_3_3 := Rw.cell HRvu_3b.out (j := 6) rfl
            have cu7_3_3 := Rw.cell HRvu_3b.out (j := 7) rfl
            have cu8_3_3 := Rw.cell HRvu_3b.out (j := 8) rfl
            have cu9_3_3 := Rw.cell HRvu_3b.out (j := 9) rfl
            have ce0_3_3 := Rw.cell HRve_3b.out (j := 0) rfl
            have ce1_3_3 := Rw.cell HRve_3b.out (j := 1) rfl
            have ce2_3_3 := Rw.cell HRve_3b.out (j := 2) rfl
            have ce3_3_3 := Rw.cell HRve_3b.out (j := 3) rfl
            have ce4_3_3 := Rw.cell HRve_3b.out (j := 4) rfl
            have co0_3_3 := Rw.cell HRvo_3b.out (j := 0) rfl
            have co1_3_3 := Rw.cell HRvo_3b.out (j := 1) rfl
            have co2_3_3 := Rw.cell HRvo_3b.out (j := 2) rfl
            have HBv_3c : Hid (Below w.heap.size w ((w3.alloc (.cells #[.string S2, .string H2, .int .i64 p2] 42)).alloc (.cells #[.int .i64 k, .string e1, .string e2, .string e3, .string ⟨#[]⟩] 24))) := Lib.hid (below_more HBv_3b.out _)
            have HRvu_3c : Hid (Rw ((w3.alloc (.cells #[.string S2, .string H2, .int .i64 p2] 42)).alloc (.cells #[.int .i64 k, .string e1, .string e2, .string e3, .string ⟨#[]⟩] 24)) 0 w1.heap.size 31 [.string S, .string U, .string P, .string H, .int .i64 pt, .string T, .bool hq, .string Q, .bool hf, .string F]) := Lib.hid (Rw.more HRvu_3b.out _)
            have HRve_3c : Hid (Rw ((w3.alloc (.cells #[.string S2, .string H2, .int .i64 p2] 42)).alloc (.cells #[.int .i64 k, .string e1, .string e2, .string e3, .string ⟨#[]⟩] 24)) 0 w2.heap.size 24 [.int .i64 k, .string e1, .string e2, .string e3, .string e4]) := Lib.hid (Rw.more HRve_3b.out _)
            have HRvo_3c : Hid (Rw ((w3.alloc (.cells #[.string S2, .string H2, .int .i64 p2] 42)).alloc (.cells #[.int .i64 k, .string e1, .string e2, .string e3, .string ⟨#[]⟩] 24)) 0 w3.heap.size 42 [.string S2, .string H2, .int .i64 p2]) := Lib.hid (Rw.more HRvo_3b.out _)
            have HRvf_3c : Hid (Rw ((w3.alloc (.cells #[.string S2, .string H2, .int .i64 p2] 42)).alloc (.cells #[.int .i64 k, .string e1, .string e2, .string e3, .string ⟨#[]⟩] 24)) 0 (w3.heap.size + 1) 24 [.int .i64 k, .string e1, .string e2, .string e3, .string ⟨#[]⟩]) := Lib.hid (by have h := Rw.alloc (w3.alloc (.cells #[.string S2, .string H2, .int .i64 p2] 42)) 24 #[.int .i64 k, .string e1, .string e2, .string e3, .string ⟨#[]⟩] (Nat.zero_le (w3.alloc (.cells #[.string S2, .string H2, .int .i64 p2] 42)).heap.size); have hs : (w3.alloc (.cells #[.string S2, .string H2, .int .i64 p2] 42)).heap.size = (w3.heap.size + 1) := (by first | exact Array.size_push .. | (show (Array.push _ _).size = _; rw [Array.size_push]; rfl)); rw [hs] at h; exact h)
            have cu0_3_4 := Rw.cell HRvu_3c.out (j := 0) rfl
            have cu1_3_4 := Rw.cell HRvu_3c.out (j := 1) rfl
            have cu2_3_4 := Rw.cell HRvu_3c.out (j := 2) rfl
            have cu3_3_4 := Rw.cell HRvu_3c.out (j := 3) rfl
            have cu4_3_4 := Rw.cell HRvu_3c.out (j := 4) rfl
            have cu5_3_4 := Rw.cell HRvu_3c.out (j := 5) rfl
            have cu6_3_4 := Rw.cell HRvu_3c.out (j := 6) rfl
            have cu7_3_4 := Rw.cell HRvu_3c.out (j := 7) rfl
            have cu8_3_4 := Rw.cell HRvu_3c.out (j := 8) rfl
            have cu9_3_4 := Rw.cell HRvu_3c.out (j := 9) rfl
            have ce0_3_4 := Rw.cell HRve_3c.out (j := 0) rfl
            have ce1_3_4 := Rw.cell HRve_3c.out (j := 1) rfl
            have ce2_3_4 := Rw.cell HRve_3c.out (j := 2) rfl
            have ce3_3_4 := Rw.cell HRve_3c.out (j := 3) rfl
            have ce4_3_4 := Rw.cell HRve_3c.out (j := 4) rfl
            have co0_3_4 := Rw.cell HRvo_3c.out (j := 0) rfl
            have co1_3_4 := Rw.cell HRvo_3c.out (j := 1) rfl
            have co2_3_4 := Rw.cell HRvo_3c.out (j := 2) rfl
            have cf0_3_4 := Rw.cell HRvf_3c.out (j := 0) rfl
            have cf1_3_4 := Rw.cell HRvf_3c.out (j := 1) rfl
            have cf2_3_4 := Rw.cell HRvf_3c.out (j := 2) rfl
            have cf3_3_4 := Rw.cell HRvf_3c.out (j := 3) rfl
            have cf4_3_4 := Rw.cell HRvf_3c.out (j := 4) rfl
            go_wp2_with fail
            refine (M1.out _ (tab10_below HT.out HBv_3c.out)).mono ?_
            rintro e w4 ⟨rfl, hb⟩
            have HB_4 := Lib.hid (below_then HBv_3c.out hb)
            have HRu_4 := Lib.hid (Rw.below HRvu_3c.out hb)
            have HRe_4 := Lib.hid (Rw.below HRve_3c.out hb)
            have HRo_4 := Lib.hid (Rw.below HRvo_3c.out hb)
            have HRf_4 := Lib.hid (Rw.below HRvf_3c.out hb)
            clear hb cu0_3_3 cu1_3_3 cu2_3_3 cu3_3_3 cu4_3_3 cu5_3_3 cu6_3_3 cu7_3_3 cu8_3_3 cu9_3_3 ce0_3_3 ce1_3_3 ce2_3_3 ce3_3_3 ce4_3_3 co0_3_3 co1_3_3 co2_3_3 cu0_3_4 cu1_3_4 cu2_3_4 cu3_3_4 cu4_3_4 cu5_3_4 cu6_3_4 cu7_3_4 cu8_3_4 cu9_3_4 ce0_3_4 ce1_3_4 ce2_3_4 ce3_3_4 ce4_3_4 co0_3_4 co1_3_4 co2_3_4 cf0_3_4 cf1_3_4 cf2_3_4 cf3_3_4 cf4_3_4
            have cu0_4_5 := Rw.cell HRu_4.out (j := 0) rfl
            have cu1_4_5 := Rw.cell HRu_4.out (j := 1) rfl
            have cu2_4_5 := Rw.cell HRu_4.out (j := 2) rfl
            have cu3_4_5 := Rw.cell HRu_4.out (j := 3) rfl
            have cu4_4_5 := Rw.cell HRu_4.out (j := 4) rfl
            have cu5_4_5 := Rw.cell HRu_4.out (j := 5) rfl
            have cu6_4_5 := Rw.cell HRu_4.out (j := 6) rfl
            have cu7_4_5 := Rw.cell HRu_4.out (j := 7) rfl
            have cu8_4_5 := Rw.cell HRu_4.out (j := 8) rfl
            have cu9_4_5 := Rw.cell HRu_4.out (j := 9) rfl
            have ce0_4_5 := Rw.cell HRe_4.out (j := 0) rfl
            have ce1_4_5 := Rw.cell HRe_4.out (j := 1) rfl
            have ce2_4_5 := Rw.cell HRe_4.out (j := 2) rfl
            have ce3_4_5 := Rw.cell HRe_4.out (j := 3) rfl
            have ce4_4_5 := Rw.cell HRe_4.out (j := 4) rfl
            have co0_4_5 := Rw.cell HRo_4.out (j := 0) rfl
            have co1_4_5 := Rw.cell HRo_4.out (j := 1) rfl
            have co2_4_5 := Rw.cell HRo_4.out (j := 2) rfl
            have cf0_4_5 := Rw.cell HRf_4.out (j := 0) rfl
            have cf1_4_5 := Rw.cell HRf_4.out (j := 1) rfl
            have cf2_4_5 := Rw.cell HRf_4.out (j := 2) rfl
            have cf3_4_5 := Rw.cell HRf_4.out (j := 3) rfl
            have cf4_4_5 := Rw.cell HRf_4.out (j := 4) rfl
            go_wp2_with fail
            refine (M2.out _ (tab10_below HT.out HB_4.out)).mono ?_
            rintro e w5 ⟨rfl, hb⟩
            have HB_5 := Lib.hid (below_then HB_4.out hb)
            have HRu_5 := Lib.hid (Rw.below HRu_4.out hb)
            have HRe_5 := Lib.hid (Rw.below HRe_4.out hb)
            have HRo_5 := Lib.hid (Rw.below HRo_4.out hb)
            have HRf_5 := Lib.hid (Rw.below HRf_4.out hb)
            clear hb cu0_4_5 cu1_4_5 cu2_4_5 cu3_4_5 cu4_4_5 cu5_4_5 cu6_4_5 cu7_4_5 cu8_4_5 cu9_4_5 ce0_4_5 ce1_4_5 ce2_4_5 ce3_4_5 ce4_4_5 co0_4_5 co1_4_5 co2_4_5 cf0_4_5 cf1_4_5 cf2_4_5 cf3_4_5 cf4_4_5
            have cu0_5_6 := Rw.cell HRu_5.out (j := 0) rfl
            have cu1_5_6 := Rw.cell HRu_5.out (j := 1) rfl
            have cu2_5_6 := Rw.cell HRu_5.out (j := 2) rfl
            have cu3_5_6 := Rw.cell HRu_5.out (j := 3) rfl
            have cu4_5_6 := Rw.cell HRu_5.out (j := 4) rfl
            have cu5_5_6 := Rw.cell HRu_5.out (j := 5) rfl
            have cu6_5_6 := Rw.cell HRu_5.out (j := 6) rfl
            have cu7_5_6 := Rw.cell HRu_5.out (j := 7) rfl
            have cu8_5_6 := Rw.cell HRu_5.out (j := 8) rfl
            have cu9_5_6 := Rw.cell HRu_5.out (j := 9) rfl
            have ce0_5_6 := Rw.cell HRe_5.out (j := 0) rfl
            have ce1_5_6 := Rw.cell HRe_5.out (j := 1) rfl
            have ce2_5_6 := Rw.cell HRe_5.out (j := 2) rfl
            have ce3_5_6 := Rw.cell HRe_5.out (j := 3) rfl
            have ce4_5_6 := Rw.cell HRe_5.out (j := 4) rfl
            have co0_5_6 := Rw.cell HRo_5.out (j := 0) rfl
            have co1_5_6 := Rw.cell HRo_5.out (j := 1) rfl
            have co2_5_6 := Rw.cell HRo_5.out (j := 2) rfl
            have cf0_5_6 := Rw.cell HRf_5.out (j := 0) rfl
            have cf1_5_6 := Rw.cell HRf_5.out (j := 1) rfl
            have cf2_5_6 := Rw.cell HRf_5.out (j := 2) rfl
            have cf3_5_6 := Rw.cell HRf_5.out (j := 3) rfl
            have cf4_5_6 := Rw.cell HRf_5.out (j := 4) rfl
            go_wp2_with fail
            refine (M3.out _ (tab10_below HT.out HB_5.out)).mono ?_
            rintro e w6 ⟨rfl, hb⟩
            have HB_6 := Lib.hid (below_then HB_5.out hb)
            have HRu_6 := Lib.hid (Rw.below HRu_5.out hb)
            have HRe_6 := Lib.hid (Rw.below HRe_5.out hb)
            have HRo_6 := Lib.hid (Rw.below HRo_5.out hb)
            have HRf_6 := Lib.hid (Rw.below HRf_5.out hb)
            clear hb cu0_5_6 cu1_5_6 cu2_5_6 cu3_5_6 cu4_5_6 cu5_5_6 cu6_5_6 cu7_5_6 cu8_5_6 cu9_5_6 ce0_5_6 ce1_5_6 ce2_5_6 ce3_5_6 ce4_5_6 co0_5_6 co1_5_6 co2_5_6 cf0_5_6 cf1_5_6 cf2_5_6 cf3_5_6 cf4_5_6
            have HBv_6b : Hid (Below w.heap.size w (w6.alloc (.cells #[.int .i64 3, .string ⟨#[104, 116, 116, 112]⟩, .string ⟨#[]⟩, .string ⟨#[]⟩, .string ⟨#[]⟩] 24))) := Lib.hid (below_more HB_6.out _)
            have HRvu_6b : Hid (Rw (w6.alloc (.cells #[.int .i64 3, .string ⟨#[104, 116, 116, 112]⟩, .string ⟨#[]⟩, .string ⟨#[]⟩, .string ⟨#[]⟩] 24)) 0 w1.heap.size 31 [.string S, .string U, .string P, .string H, .int .i64 pt, .string T, .bool hq, .string Q, .bool hf, .string F]) := Lib.hid (Rw.more HRu_6.out _)
            have HRve_6b : Hid (Rw (w6.alloc (.cells #[.int .i64 3, .string ⟨#[104, 116, 116, 112]⟩, .string ⟨#[]⟩, .string ⟨#[]⟩, .string ⟨#[]⟩] 24)) 0 w2.heap.size 24 [.int .i64 k, .string e1, .string e2, .string e3, .string e4]) := Lib.hid (Rw.more HRe_6.out _)
            have HRvo_6b : Hid (Rw (w6.alloc (.cells #[.int .i64 3, .string ⟨#[104, 116, 116, 112]⟩, .string ⟨#[]⟩, .string ⟨#[]⟩, .string ⟨#[]⟩] 24)) 0 w3.heap.size 42 [.string S2, .string H2, .int .i64 p2]) := Lib.hid (Rw.more HRo_6.out _)
            have HRvf_6b : Hid (Rw (w6.alloc (.cells #[.int .i64 3, .string ⟨#[104, 116, 116, 112]⟩, .string ⟨#[]⟩, .string ⟨#[]⟩, .string ⟨#[]⟩] 24)) 0 (w3.heap.size + 1) 24 [.int .i64 k, .string e1, .string e2, .string e3, .string ⟨#[]⟩]) := Lib.hid (Rw.more HRf_6.out _)
            have HRvx_6b : Hid (Rw (w6.alloc (.cells #[.int .i64 3, .string ⟨#[104, 116, 116, 112]⟩, .string ⟨#[]⟩, .string ⟨#[]⟩, .string ⟨#[]⟩] 24)) 0 w6.heap.size 24 [.int .i64 3, .string ⟨#[104, 116, 116, 112]⟩, .string ⟨#[]⟩, .string ⟨#[]⟩, .string ⟨#[]⟩]) := Lib.hid (Rw.alloc w6 _ _ (Nat.zero_le _))
            have cu0_6_7 := Rw.cell HRvu_6b.out (j := 0) rfl
            have cu1_6_7 := Rw.cell HRvu_6b.out (j := 1) rfl
            have cu2_6_7 := Rw.cell HRvu_6b.out (j := 2) rfl
            have cu3_6_7 := Rw.cell HRvu_6b.out (j := 3) rfl
            have cu4_6_7 := Rw.cell HRvu_6b.out (j := 4) rfl
            have cu5_6_7 := Rw.cell HRvu_6b.out (j := 5) rfl
            have cu6_6_7 := Rw.cell HRvu_6b.out (j := 6) rfl
            have cu7_6_7 := Rw.cell HRvu_6b.out (j := 7) rfl
            have cu8_6_7 := Rw.cell HRvu_6b.out (j := 8) rfl
            have cu9_6_7 := Rw.cell HRvu_6b.out (j := 9) rfl
            have ce0_6_7 := Rw.cell HRve_6b.out (j := 0) rfl
            have ce1_6_7 := Rw.cell HRve_6b.out (j := 1) rfl
            have ce2_6_7 := Rw.cell HRve_6b.out (j := 2) rfl
            have ce3_6_7 := Rw.cell HRve_6b.out (j := 3) rfl
            have ce4_6_7 := Rw.cell HRve_6b.out (j := 4) rfl
            have co0_6_7 := Rw.cell HRvo_6b.out (j := 0) rfl
            have co1_6_7 := Rw.cell HRvo_6b.out (j := 1) rfl
            have co2_6_7 := Rw.cell HRvo_6b.out (j := 2) rfl
            have cf0_6_7 := Rw.cell HRvf_6b.out (j := 0) rfl
            have cf1_6_7 := Rw.cell HRvf_6b.out (j := 1) rfl
            have cf2_6_7 := Rw.cell HRvf_6b.out (j := 2) rfl
            have cf3_6_7 := Rw.cell HRvf_6b.out (j := 3) rfl
            have cf4_6_7 := Rw.cell HRvf_6b.out (j := 4) rfl
            have cx0_6_7 := Rw.cell HRvx_6b.out (j := 0) rfl
            have cx1_6_7 := Rw.cell HRvx_6b.out (j := 1) rfl
            have cx2_6_7 := Rw.cell HRvx_6b.out (j := 2) rfl
            have cx3_6_7 := Rw.cell HRvx_6b.out (j := 3) rfl
            have cx4_6_7 := Rw.cell HRvx_6b.out (j := 4) rfl
            have HBv_6c : Hid (Below w.heap.size w ((w6.alloc (.cells #[.int .i64 3, .string ⟨#[104, 116, 116, 112]⟩, .string ⟨#[]⟩, .string ⟨#[]⟩, .string ⟨#[]⟩] 24)).alloc (.cells #[.int .i64 3, .string ⟨#[104, 116, 116, 112, 115]⟩, .string ⟨#[]⟩, .string ⟨#[]⟩, .string ⟨#[]⟩] 24))) := Lib.hid (below_more HBv_6b.out _)
            have HRvu_6c : Hid (Rw ((w6.alloc (.cells #[.int .i64 3, .string ⟨#[104, 116, 116, 112]⟩, .string ⟨#[]⟩, .string ⟨#[]⟩, .string ⟨#[]⟩] 24)).alloc (.cells #[.int .i64 3, .string ⟨#[104, 116, 116, 112, 115]⟩, .string ⟨#[]⟩, .string ⟨#[]⟩, .string ⟨#[]⟩] 24)) 0 w1.heap.size 31 [.string S, .string U, .string P, .string H, .int .i64 pt, .string T, .bool hq, .string Q, .bool hf, .string F]) := Lib.hid (Rw.more HRvu_6b.out _)
            have HRve_6c : Hid (Rw ((w6.alloc (.cells #[.int .i64 3, .string ⟨#[104, 116, 116, 112]⟩, .string ⟨#[]⟩, .string ⟨#[]⟩, .string ⟨#[]⟩] 24)).alloc (.cells #[.int .i64 3, .string ⟨#[104, 116, 116, 112, 115]⟩, .string ⟨#[]⟩, .string ⟨#[]⟩, .string ⟨#[]⟩] 24)) 0 w2.heap.size 24 [.int .i64 k, .string e1, .string e2, .string e3, .string e4]) := Lib.hid (Rw.more HRve_6b.out _)
            have HRvo_6c : Hid (Rw ((w6.alloc (.cells #[.int .i64 3, .string ⟨#[104, 116, 116, 112]⟩, .string ⟨#[]⟩, .string ⟨#[]⟩, .string ⟨#[]⟩] 24)).alloc (.cells #[.int .i64 3, .string ⟨#[104, 116, 116, 112, 115]⟩, .string ⟨#[]⟩, .string ⟨#[]⟩, .string ⟨#[]⟩] 24)) 0 w3.heap.size 42 [.string S2, .string H2, .int .i64 p2]) := Lib.hid (Rw.more HRvo_6b.out _)
            have HRvf_6c : Hid (Rw ((w6.alloc (.cells #[.int .i64 3, .string ⟨#[104, 116, 116, 112]⟩, .string ⟨#[]⟩, .string ⟨#[]⟩, .string ⟨#[]⟩] 24)).alloc (.cells #[.int .i64 3, .string ⟨#[104, 116, 116, 112, 115]⟩, .string ⟨#[]⟩, .string ⟨#[]⟩, .string ⟨#[]⟩] 24)) 0 (w3.heap.size + 1) 24 [.int .i64 k, .string e1, .string e2, .string e3, .string ⟨#[]⟩]) := Lib.hid (Rw.more HRvf_6b.out _)
            have HRvx_6c : Hid (Rw ((w6.alloc (.cells #[.int .i64 3, .string ⟨#[104, 116, 116, 112]⟩, .string ⟨#[]⟩, .string ⟨#[]⟩, .string ⟨#[]⟩] 24)).alloc (.cells #[.int .i64 3, .string ⟨#[104, 116, 116, 112, 115]⟩, .string ⟨#[]⟩, .string ⟨#[]⟩, .string ⟨#[]⟩] 24)) 0 w6.heap.size 24 [.int .i64 3, .string ⟨#[104, 116, 116, 112]⟩, .string ⟨#[]⟩, .string ⟨#[]⟩, .string ⟨#[]⟩]) := Lib.hid (Rw.more HRvx_6b.out _)
            have HRvy_6c : Hid (Rw ((w6.alloc (.cells #[.int .i64 3, .string ⟨#[104, 116, 116, 112]⟩, .string ⟨#[]⟩, .string ⟨#[]⟩, .string ⟨#[]⟩] 24)).alloc (.cells #[.int .i64 3, .string ⟨#[104, 116, 116, 112, 115]⟩, .string ⟨#[]⟩, .string ⟨#[]⟩, .string ⟨#[]⟩] 24)) 0 (w6.heap.size + 1) 24 [.int .i64 3, .string ⟨#[104, 116, 116, 112, 115]⟩, .string ⟨#[]⟩, .string ⟨#[]⟩, .string ⟨#[]⟩]) := Lib.hid (by have h := Rw.alloc (w6.alloc (.cells #[.int .i64 3, .string ⟨#[104, 116, 116, 112]⟩, .string ⟨#[]⟩, .string ⟨#[]⟩, .string ⟨#[]⟩] 24)) 24 #[.int .i64 3, .string ⟨#[104, 116, 116, 112, 115]⟩, .string ⟨#[]⟩, .string ⟨#[]⟩, .string ⟨#[]⟩] (Nat.zero_le (w6.alloc (.cells #[.int .i64 3, .string ⟨#[104, 116, 116, 112]⟩, .string ⟨#[]⟩, .string ⟨#[]⟩, .string ⟨#[]⟩] 24)).heap.size); have hs : (w6.alloc (.cells #[.int .i64 3, .string ⟨#[104, 116, 116, 112]⟩, .string ⟨#[]⟩, .string ⟨#[]⟩, .string ⟨#[]⟩] 24)).heap.size = (w6.heap.size + 1) := (by first | exact Array.size_push .. | (show (Array.push _ _).size = _; rw [Array.size_push]; rfl)); rw [hs] at h; exact h)
            have cu0_6_8 := Rw.cell HRvu_6c.out (j := 0) rfl
            have cu1_6_8 := Rw.cell HRvu_6c.out (j := 1) rfl
            have cu2_6_8 := Rw.cell HRvu_6c.out (j := 2) rfl
            have cu3_6_8 := Rw.cell HRvu_6c.out (j := 3) rfl
            have cu4_6_8 := Rw.cell HRvu_6c.out (j := 4) rfl
            have cu5_6_8 := Rw.cell HRvu_6c.out (j := 5) rfl
            have cu6_6_8 := Rw.cell HRvu_6c.out (j := 6) rfl
            have cu7_6_8 := Rw.cell HRvu_6c.out (j := 7) rfl
            have cu8_6_8 := Rw.cell HRvu_6c.out (j := 8) rfl
            have cu9_6_8 := Rw.cell HRvu_6c.out (j := 9) rfl
            have ce0_6_8 := Rw.cell HRve_6c.out (j := 0) rfl
            have ce1_6_8 := Rw.cell HRve_6c.out (j := 1) rfl
            have ce2_6_8 := Rw.cell HRve_6c.out (j := 2) rfl
            have ce3_6_8 := Rw.cell HRve_6c.out (j := 3) rfl
            have ce4_6_8 := Rw.cell HRve_6c.out (j := 4) rfl
            have co0_6_8 := Rw.cell HRvo_6c.out (j := 0) rfl
            have co1_6_8 := Rw.cell HRvo_6c.out (j := 1) rfl
            have co2_6_8 := Rw.cell HRvo_6c.out (j := 2) rfl
            have cf0_6_8 := Rw.cell HRvf_6c.out (j := 0) rfl
            have cf1_6_8 := Rw.cell HRvf_6c.out (j := 1) rfl
            have cf2_6_8 := Rw.cell HRvf_6c.out (j := 2) rfl
            have cf3_6_8 := Rw.cell HRvf_6c.out (j := 3) rfl
            have cf4_6_8 := Rw.cell HRvf_6c.out (j := 4) rfl
            have cx0_6_8 := Rw.cell HRvx_6c.out (j := 0) rfl
            have cx1_6_8 := Rw.cell HRvx_6c.out (j := 1) rfl
            have cx2_6_8 := Rw.cell HRvx_6c.out (j := 2) rfl
            have cx3_6_8 := Rw.cell HRvx_6c.out (j := 3) rfl
            have cx4_6_8 := Rw.cell HRvx_6c.out (j := 4) rfl
            have cy0_6_8 := Rw.cell HRvy_6c.out (j := 0) rfl
            have cy1_6_8 := Rw.cell HRvy_6c.out (j := 1) rfl
            have cy2_6_8 := Rw.cell HRvy_6c.out (j := 2) rfl
            have cy3_6_8 := Rw.cell HRvy_6c.out (j := 3) rfl
            have cy4_6_8 := Rw.cell HRvy_6c.out (j := 4) rfl
            go_wp2_with fail
            refine (MY.out _ (tab10_below HT.out HBv_6c.out)).mono ?_
            rintro e w7 ⟨rfl, hb⟩
            have HB_7 := Lib.hid (below_then HBv_6c.out hb)
            have HRu_7 := Lib.hid (Rw.below HRvu_6c.out hb)
            have HRe_7 := Lib.hid (Rw.below HRve_6c.out hb)
            have HRo_7 := Lib.hid (Rw.below HRvo_6c.out hb)
            have HRf_7 := Lib.hid (Rw.below HRvf_6c.out hb)
            have HRx_7 := Lib.hid (Rw.below HRvx_6c.out hb)
            have HRy_7 := Lib.hid (Rw.below HRvy_6c.out hb)
            clear hb cu0_6_7 cu1_6_7 cu2_6_7 cu3_6_7 cu4_6_7 cu5_6_7 cu6_6_7 cu7_6_7 cu8_6_7 cu9_6_7 ce0_6_7 ce1_6_7 ce2_6_7 ce3_6_7 ce4_6_7 co0_6_7 co1_6_7 co2_6_7 cf0_6_7 cf1_6_7 cf2_6_7 cf3_6_7 cf4_6_7 cx0_6_7 cx1_6_7 cx2_6_7 cx3_6_7 cx4_6_7 cu0_6_8 cu1_6_8 cu2_6_8 cu3_6_8 cu4_6_8 cu5_6_8 cu6_6_8 cu7_6_8 cu8_6_8 cu9_6_8 ce0_6_8 ce1_6_8 ce2_6_8 ce3_6_8 ce4_6_8 co0_6_8 co1_6_8 co2_6_8 cf0_6_8 cf1_6_8 cf2_6_8 cf3_6_8 cf4_6_8 cx0_6_8 cx1_6_8 cx2_6_8 cx3_6_8 cx4_6_8 cy0_6_8 cy1_6_8 cy2_6_8 cy3_6_8 cy4_6_8
            have cu0_7_9 := Rw.cell HRu_7.out (j := 0) rfl
            have cu1_7_9 := Rw.cell HRu_7.out (j := 1) rfl
            have cu2_7_9 := Rw.cell HRu_7.out (j := 2) rfl
            have cu3_7_9 := Rw.cell HRu_7.out (j := 3) rfl
            have cu4_7_9 := Rw.cell HRu_7.out (j := 4) rfl
            have cu5_7_9 := Rw.cell HRu_7.out (j := 5) rfl
            have cu6_7_9 := Rw.cell HRu_7.out (j := 6) rfl
            have cu7_7_9 := Rw.cell HRu_7.out (j := 7) rfl
            have cu8_7_9 := Rw.cell HRu_7.out (j := 8) rfl
            have cu9_7_9 := Rw.cell HRu_7.out (j := 9) rfl
            have ce0_7_9 := Rw.cell HRe_7.out (j := 0) rfl
            have ce1_7_9 := Rw.cell HRe_7.out (j := 1) rfl
            have ce2_7_9 := Rw.cell HRe_7.out (j := 2) rfl
            have ce3_7_9 := Rw.cell HRe_7.out (j := 3) rfl
            have ce4_7_9 := Rw.cell HRe_7.out (j := 4) rfl
            have co0_7_9 := Rw.cell HRo_7.out (j := 0) rfl
            have co1_7_9 := Rw.cell HRo_7.out (j := 1) rfl
            have co2_7_9 := Rw.cell HRo_7.out (j := 2) rfl
            have cf0_7_9 := Rw.cell HRf_7.out (j := 0) rfl
            have cf1_7_9 := Rw.cell HRf_7.out (j := 1) rfl
            have cf2_7_9 := Rw.cell HRf_7.out (j := 2) rfl
            have cf3_7_9 := Rw.cell HRf_7.out (j := 3) rfl
            have cf4_7_9 := Rw.cell HRf_7.out (j := 4) rfl
            have cx0_7_9 := Rw.cell HRx_7.out (j := 0) rfl
            have cx1_7_9 := Rw.cell HRx_7.out (j := 1) rfl
            have cx2_7_9 := Rw.cell HRx_7.out (j := 2) rfl
            have cx3_7_9 := Rw.cell HRx_7.out (j := 3) rfl
            have cx4_7_9 := Rw.cell HRx_7.out (j := 4) rfl
            have cy0_7_9 := Rw.cell HRy_7.out (j := 0) rfl
            have cy1_7_9 := Rw.cell HRy_7.out (j := 1) rfl
            have cy2_7_9 := Rw.cell HRy_7.out (j := 2) rfl
            have cy3_7_9 := Rw.cell HRy_7.out (j := 3) rfl
            have cy4_7_9 := Rw.cell HRy_7.out (j := 4) rfl
            go_wp2_with fail
            refine (MX.out _ (tab10_below HT.out HB_7.out)).mono ?_
            rintro e w8 ⟨rfl, hb⟩
            have HB_8 := Lib.hid (below_then HB_7.out hb)
            have HRu_8 := Lib.hid (Rw.below HRu_7.out hb)
            have HRe_8 := Lib.hid (Rw.below HRe_7.out hb)
            have HRo_8 := Lib.hid (Rw.below HRo_7.out hb)
            have HRf_8 := Lib.hid (Rw.below HRf_7.out hb)
            have HRx_8 := Lib.hid (Rw.below HRx_7.out hb)
            have HRy_8 := Lib.hid (Rw.below HRy_7.out hb)
            clear hb cu0_7_9 cu1_7_9 cu2_7_9 cu3_7_9 cu4_7_9 cu5_7_9 cu6_7_9 cu7_7_9 cu8_7_9 cu9_7_9 ce0_7_9 ce1_7_9 ce2_7_9 ce3_7_9 ce4_7_9 co0_7_9 co1_7_9 co2_7_9 cf0_7_9 cf1_7_9 cf2_7_9 cf3_7_9 cf4_7_9 cx0_7_9 cx1_7_9 cx2_7_9 cx3_7_9 cx4_7_9 cy0_7_9 cy1_7_9 cy2_7_9 cy3_7_9 cy4_7_9
            have cu0_8_10 := Rw.cell HRu_8.out (j := 0) rfl
            have cu1_8_10 := Rw.cell HRu_8.out (j := 1) rfl
            have cu2_8_10 := Rw.cell HRu_8.out (j := 2) rfl
            have cu3_8_10 := Rw.cell HRu_8.out (j := 3) rfl
            have cu4_8_10 := Rw.cell HRu_8.out (j := 4) rfl
            have cu5_8_10 := Rw.cell HRu_8.out (j := 5) rfl
            have cu6_8_10 := Rw.cell HRu_8.out (j := 6) rfl
            have cu7_8_10 := Rw.cell HRu_8.out (j := 7) rfl
            have cu8_8_10 := Rw.cell HRu_8.out (j := 8) rfl
            have cu9_8_10 := Rw.cell HRu_8.out (j := 9) rfl
            have ce0_8_10 := Rw.cell HRe_8.out (j := 0) rfl
            have ce1_8_10 := Rw.cell HRe_8.out (j := 1) rfl
            have ce2_8_10 := Rw.cell HRe_8.out (j := 2) rfl
            have ce3_8_10 := Rw.cell HRe_8.out (j := 3) rfl
            have ce4_8_10 := Rw.cell HRe_8.out (j := 4) rfl
            have co0_8_10 := Rw.cell HRo_8.out (j := 0) rfl
            have co1_8_10 := Rw.cell HRo_8.out (j := 1) rfl
            have co2_8_10 := Rw.cell HRo_8.out (j := 2) rfl
            have cf0_8_10 := Rw.cell HRf_8.out (j := 0) rfl
            have cf1_8_10 := Rw.cell HRf_8.out (j := 1) rfl
            have cf2_8_10 := Rw.cell HRf_8.out (j := 2) rfl
            have cf3_8_10 := Rw.cell HRf_8.out (j := 3) rfl
            have cf4_8_10 := Rw.cell HRf_8.out (j := 4) rfl
            have cx0_8_10 := Rw.cell HRx_8.out (j := 0) rfl
            have cx1_8_10 := Rw.cell HRx_8.out (j := 1) rfl
            have cx2_8_10 := Rw.cell HRx_8.out (j := 2) rfl
            have cx3_8_10 := Rw.cell HRx_8.out (j := 3) rfl
            have cx4_8_10 := Rw.cell HRx_8.out (j := 4) rfl
            have cy0_8_10 := Rw.cell HRy_8.out (j := 0) rfl
            have cy1_8_10 := Rw.cell HRy_8.out (j := 1) rfl
            have cy2_8_10 := Rw.cell HRy_8.out (j := 2) rfl
            have cy3_8_10 := Rw.cell HRy_8.out (j := 3) rfl
            have cy4_8_10 := Rw.cell HRy_8.out (j := 4) rfl
            go_wp2_with fail
            refine (sawake_any _ (tab10_below HT.out HB_8.out)).mono ?_
            rintro e w9 ⟨rfl, hb⟩
            have HB_9 := Lib.hid (below_then HB_8.out hb)
            have HRu_9 := Lib.hid (Rw.below HRu_8.out hb)
            have HRe_9 := Lib.hid (Rw.below HRe_8.out hb)
            have HRo_9 := Lib.hid (Rw.below HRo_8.out hb)
            have HRf_9 := Lib.hid (Rw.below HRf_8.out hb)
            have HRx_9 := Lib.hid (Rw.below HRx_8.out hb)
            have HRy_9 := Lib.hid (Rw.below HRy_8.out hb)
            clear hb cu0_8_10 cu1_8_10 cu2_8_10 cu3_8_10 cu4_8_10 cu5_8_10 cu6_8_10 cu7_8_10 cu8_8_10 cu9_8_10 ce0_8_10 ce1_8_10 ce2_8_10 ce3_8_10 ce4_8_10 co0_8_10 co1_8_10 co2_8_10 cf0_8_10 cf1_8_10 cf2_8_10 cf3_8_10 cf4_8_10 cx0_8_10 cx1_8_10 cx2_8_10 cx3_8_10 cx4_8_10 cy0_8_10 cy1_8_10 cy2_8_10 cy3_8_10 cy4_8_10
            have cu0_9_11 := Rw.cell HRu_9.out (j := 0) rfl
            have cu1_9_11 := Rw.cell HRu_9.out (j := 1) rfl
            have cu2_9_11 := Rw.cell HRu_9.out (j := 2) rfl
            have cu3_9_11 := Rw.cell HRu_9.out (j := 3) rfl
            have cu4_9_11 := Rw.cell HRu_9.out (j := 4) rfl
            have cu5_9_11 := Rw.cell HRu_9.out (j := 5) rfl
            have cu6_9_11 := Rw.cell HRu_9.out (j := 6) rfl
            have cu7_9_11 := Rw.cell HRu_9.out (j := 7) rfl
            have cu8_9_11 := Rw.cell HRu_9.out (j := 8) rfl
            have cu9_9_11 := Rw.cell HRu_9.out (j := 9) rfl
            have ce0_9_11 := Rw.cell HRe_9.out (j := 0) rfl
            have ce1_9_11 := Rw.cell HRe_9.out (j := 1) rfl
            have ce2_9_11 := Rw.cell HRe_9.out (j := 2) rfl
            have ce3_9_11 := Rw.cell HRe_9.out (j := 3) rfl
            have ce4_9_11 := Rw.cell HRe_9.out (j := 4) rfl
            have co0_9_11 := Rw.cell HRo_9.out (j := 0) rfl
            have co1_9_11 := Rw.cell HRo_9.out (j := 1) rfl
            have co2_9_11 := Rw.cell HRo_9.out (j := 2) rfl
            have cf0_9_11 := Rw.cell HRf_9.out (j := 0) rfl
            have cf1_9_11 := Rw.cell HRf_9.out (j := 1) rfl
            have cf2_9_11 := Rw.cell HRf_9.out (j := 2) rfl
            have cf3_9_11 := Rw.cell HRf_9.out (j := 3) rfl
            have cf4_9_11 := Rw.cell HRf_9.out (j := 4) rfl
            have cx0_9_11 := Rw.cell HRx_9.out (j := 0) rfl
            have cx1_9_11 := Rw.cell HRx_9.out (j := 1) rfl
            have cx2_9_11 := Rw.cell HRx_9.out (j := 2) rfl
            have cx3_9_11 := Rw.cell HRx_9.out (j := 3) rfl
            have cx4_9_11 := Rw.cell HRx_9.out (j := 4) rfl
            have cy0_9_11 := Rw.cell HRy_9.out (j := 0) rfl
            have cy1_9_11 := Rw.cell HRy_9.out (j := 1) rfl
            have cy2_9_11 := Rw.cell HRy_9.out (j := 2) rfl
            have cy3_9_11 := Rw.cell HRy_9.out (j := 3) rfl
            have cy4_9_11 := Rw.cell HRy_9.out (j := 4) rfl
            go_wp2_with fail
            go_ret
            exact ⟨rfl, HB_9.out⟩
        case true =>
          cases y
          case false =>
            clear f3 MX
            go_enter Tryz.func6, Tryz.ntmps6
            go_wp2_with fail
            refine (HP.out _).mono ?_
            rintro e w1 ⟨rfl, hb⟩
            have HB_1 := Lib.hid (below_then HB0.out hb)
            clear hb
            have HBv_1b : Hid (Below w.heap.size w (w1.alloc (.cells #[.string S, .string U, .string P, .string H, .int .i64 pt, .string T, .bool hq, .string Q, .bool hf, .string F] 31))) := Lib.hid (below_more HB_1.out _)
            have HRvu_1b : Hid (Rw (w1.alloc (.cells #[.string S, .string U, .string P, .string H, .int .i64 pt, .string T, .bool hq, .string Q, .bool hf, .string F] 31)) 0 w1.heap.size 31 [.string S, .string U, .string P, .string H, .int .i64 pt, .string T, .bool hq, .string Q, .bool hf, .string F]) := Lib.hid (Rw.alloc w1 _ _ (Nat.zero_le _))
            have cu0_1_1 := Rw.cell HRvu_1b.out (j := 0) rfl
            have cu1_1_1 := Rw.cell HRvu_1b.out (j := 1) rfl
            have cu2_1_1 := Rw.cell HRvu_1b.out (j := 2) rfl
            have cu3_1_1 := Rw.cell HRvu_1b.out (j := 3) rfl
            have cu4_1_1 := Rw.cell HRvu_1b.out (j := 4) rfl
            have cu5_1_1 := Rw.cell HRvu_1b.out (j := 5) rfl
            have cu6_1_1 := Rw.cell HRvu_1b.out (j := 6) rfl
            have cu7_1_1 := Rw.cell HRvu_1b.out (j := 7) rfl
            have cu8_1_1 := Rw.cell HRvu_1b.out (j := 8) rfl
            have cu9_1_1 := Rw.cell HRvu_1b.out (j := 9) rfl
            go_wp2_with fail
            refine (C1.out _).mono ?_
            rintro e w2 ⟨rfl, hb⟩
            have HB_2 := Lib.hid (below_then HBv_1b.out hb)
            have HRu_2 := Lib.hid (Rw.below HRvu_1b.out hb)
            clear hb cu0_1_1 cu1_1_1 cu2_1_1 cu3_1_1 cu4_1_1 cu5_1_1 cu6_1_1 cu7_1_1 cu8_1_1 cu9_1_1
            have HBv_2b : Hid (Below w.heap.size w (w2.alloc (.cells #[.int .i64 k, .string e1, .string e2, .string e3, .string e4] 24))) := Lib.hid (below_more HB_2.out _)
            have HRvu_2b : Hid (Rw (w2.alloc (.cells #[.int .i64 k, .string e1, .string e2, .string e3, .string e4] 24)) 0 w1.heap.size 31 [.string S, .string U, .string P, .string H, .int .i64 pt, .string T, .bool hq, .string Q, .bool hf, .string F]) := Lib.hid (Rw.more HRu_2.out _)
            have HRve_2b : Hid (Rw (w2.alloc (.cells #[.int .i64 k, .string e1, .string e2, .string e3, .string e4] 24)) 0 w2.heap.size 24 [.int .i64 k, .string e1, .string e2, .string e3, .string e4]) := Lib.hid (Rw.alloc w2 _ _ (Nat.zero_le _))
            have cu0_2_2 := Rw.cell HRvu_2b.out (j := 0) rfl
            have cu1_2_2 := Rw.cell HRvu_2b.out (j := 1) rfl
            have cu2_2_2 := Rw.cell HRvu_2b.out (j := 2) rfl
            have cu3_2_2 := Rw.cell HRvu_2b.out (j := 3) rfl
            have cu4_2_2 := Rw.cell HRvu_2b.out (j := 4) rfl
            have cu5_2_2 := Rw.cell HRvu_2b.out (j := 5) rfl
            have cu6_2_2 := Rw.cell HRvu_2b.out (j := 6) rfl
            have cu7_2_2 := Rw.cell HRvu_2b.out (j := 7) rfl
            have cu8_2_2 := Rw.cell HRvu_2b.out (j := 8) rfl
            have cu9_2_2 := Rw.cell HRvu_2b.out (j := 9) rfl
            have ce0_2_2 := Rw.cell HRve_2b.out (j := 0) rfl
            have ce1_2_2 := Rw.cell HRve_2b.out (j := 1) rfl
            have ce2_2_2 := Rw.cell HRve_2b.out (j := 2) rfl
            have ce3_2_2 := Rw.cell HRve_2b.out (j := 3) rfl
            have ce4_2_2 := Rw.cell HRve_2b.out (j := 4) rfl
            go_wp2_with fail
            refine (C2.out _).mono ?_
            rintro e w3 ⟨rfl, hb⟩
            have HB_3 := Lib.hid (below_then HBv_2b.out hb)
            have HRu_3 := Lib.hid (Rw.below HRvu_2b.out hb)
            have HRe_3 := Lib.hid (Rw.below HRve_2b.out hb)
            clear hb cu0_2_2 cu1_2_2 cu2_2_2 cu3_2_2 cu4_2_2 cu5_2_2 cu6_2_2 cu7_2_2 cu8_2_2 cu9_2_2 ce0_2_2 ce1_2_2 ce2_2_2 ce3_2_2 ce4_2_2
            have HBv_3b : Hid (Below w.heap.size w (w3.alloc (.cells #[.string S2, .string H2, .int .i64 p2] 42))) := Lib.hid (below_more HB_3.out _)
            have HRvu_3b : Hid (Rw (w3.alloc (.cells #[.string S2, .string H2, .int .i64 p2] 42)) 0 w1.heap.size 31 [.string S, .string U, .string P, .string H, .int .i64 pt, .string T, .bool hq, .string Q, .bool hf, .string F]) := Lib.hid (Rw.more HRu_3.out _)
            have HRve_3b : Hid (Rw (w3.alloc (.cells #[.string S2, .string H2, .int .i64 p2] 42)) 0 w2.heap.size 24 [.int .i64 k, .string e1, .string e2, .string e3, .string e4]) := Lib.hid (Rw.more HRe_3.out _)
            have HRvo_3b : Hid (Rw (w3.alloc (.cells #[.string S2, .string H2, .int .i64 p2] 42)) 0 w3.heap.size 42 [.string S2, .string H2, .int .i64 p2]) := Lib.hid (Rw.alloc w3 _ _ (Nat.zero_le _))
            have cu0_3_3 := Rw.cell HRvu_3b.out (j := 0) rfl
            have cu1_3_3 := Rw.cell HRvu_3b.out (j := 1) rfl
            have cu2_3_3 := Rw.cell HRvu_3b.out (j := 2) rfl
            have cu3_3_3 := Rw.cell HRvu_3b.out (j := 3) rfl
            have cu4_3_3 := Rw.cell HRvu_3b.out (j := 4) rfl
            have cu5_3_3 := Rw.cell HRvu_3b.out (j := 5) rfl
            have cu6_3_3 := Rw.cell HRvu_3b.out (j := 6) rfl
            have cu7_3_3 := Rw.cell HRvu_3b.out (j := 7) rfl
            have cu8_3_3 := Rw.cell HRvu_3b.out (j := 8) rfl
            have cu9_3_3 := Rw.cell HRvu_3b.out (j := 9) rfl
            have ce0_3_3 := Rw.cell HRve_3b.out (j := 0) rfl
            have ce1_3_3 := Rw.cell HRve_3b.out (j := 1) rfl
            have ce2_3_3 := Rw.cell HRve_3b.out (j := 2) rfl
            have ce3_3_3 := Rw.cell HRve_3b.out (j := 3) rfl
            have ce4_3_3 := Rw.cell HRve_3b.out (j := 4) rfl
            have co0_3_3 := Rw.cell HRvo_3b.out (j := 0) rfl
            have co1_3_3 := Rw.cell HRvo_3b.out (j := 1) rfl
            have co2_3_3 := Rw.cell HRvo_3b.out (j := 2) rfl
            have HBv_3c : Hid (Below w.heap.size w ((w3.alloc (.cells #[.string S2, .string H2, .int .i64 p2] 42)).alloc (.cells #[.int .i64 k, .string e1, .string e2, .string e3, .string ⟨#[]⟩] 24))) := Lib.hid (below_more HBv_3b.out _)
            have HRvu_3c : Hid (Rw ((w3.alloc (.cells #[.string S2, .string H2, .int .i64 p2] 42)).alloc (.cells #[.int .i64 k, .string e1, .string e2, .string e3, .string ⟨#[]⟩] 24)) 0 w1.heap.size 31 [.string S, .string U, .string P, .string H, .int .i64 pt, .string T, .bool hq, .string Q, .bool hf, .string F]) := Lib.hid (Rw.more HRvu_3b.out _)
            have HRve_3c : Hid (Rw ((w3.alloc (.cells #[.string S2, .string H2, .int .i64 p2] 42)).alloc (.cells #[.int .i64 k, .string e1, .string e2, .string e3, .string ⟨#[]⟩] 24)) 0 w2.heap.size 24 [.int .i64 k, .string e1, .string e2, .string e3, .string e4]) := Lib.hid (Rw.more HRve_3b.out _)
            have HRvo_3c : Hid (Rw ((w3.alloc (.cells #[.string S2, .string H2, .int .i64 p2] 42)).alloc (.cells #[.int .i64 k, .string e1, .string e2, .string e3, .string ⟨#[]⟩] 24)) 0 w3.heap.size 42 [.string S2, .string H2, .int .i64 p2]) := Lib.hid (Rw.more HRvo_3b.out _)
            have HRvf_3c : Hid (Rw ((w3.alloc (.cells #[.string S2, .string H2, .int .i64 p2] 42)).alloc (.cells #[.int .i64 k, .string e1, .string e2, .string e3, .string ⟨#[]⟩] 24)) 0 (w3.heap.size + 1) 24 [.int .i64 k, .string e1, .string e2, .string e3, .string ⟨#[]⟩]) := Lib.hid (by have h := Rw.alloc (w3.alloc (.cells #[.string S2, .string H2, .int .i64 p2] 42)) 24 #[.int .i64 k, .string e1, .string e2, .string e3, .string ⟨#[]⟩] (Nat.zero_le (w3.alloc (.cells #[.string S2, .string H2, .int .i64 p2] 42)).heap.size); have hs : (w3.alloc (.cells #[.string S2, .string H2, .int .i64 p2] 42)).heap.size = (w3.heap.size + 1) := (by first | exact Array.size_push .. | (show (Array.push _ _).size = _; rw [Array.size_push]; rfl)); rw [hs] at h; exact h)
            have cu0_3_4 := Rw.cell HRvu_3c.out (j := 0) rfl
            have cu1_3_4 := Rw.cell HRvu_3c.out (j := 1) rfl
            have cu2_3_4 := Rw.cell HRvu_3c.out (j := 2) rfl
            have cu3_3_4 := Rw.cell HRvu_3c.out (j := 3) rfl
            have cu4_3_4 := Rw.cell HRvu_3c.out (j := 4) rfl
            have cu5_3_4 := Rw.cell HRvu_3c.out (j := 5) rfl
            have cu6_3_4 := Rw.cell HRvu_3c.out (j := 6) rfl
            have cu7_3_4 := Rw.cell HRvu_3c.out (j := 7) rfl
            have cu8_3_4 := Rw.cell HRvu_3c.out (j := 8) rfl
            have cu9_3_4 := Rw.cell HRvu_3c.out (j := 9) rfl
            have ce0_3_4 := Rw.cell HRve_3c.out (j := 0) rfl
            have ce1_3_4 := Rw.cell HRve_3c.out (j := 1) rfl
            have ce2_3_4 := Rw.cell HRve_3c.out (j := 2) rfl
            have ce3_3_4 := Rw.cell HRve_3c.out (j := 3) rfl
            have ce4_3_4 := Rw.cell HRve_3c.out (j := 4) rfl
            have co0_3_4 := Rw.cell HRvo_3c.out (j := 0) rfl
            have co1_3_4 := Rw.cell HRvo_3c.out (j := 1) rfl
            have co2_3_4 := Rw.cell HRvo_3c.out (j := 2) rfl
            have cf0_3_4 := Rw.cell HRvf_3c.out (j := 0) rfl
            have cf1_3_4 := Rw.cell HRvf_3c.out (j := 1) rfl
            have cf2_3_4 := Rw.cell HRvf_3c.out (j := 2) rfl
            have cf3_3_4 := Rw.cell HRvf_3c.out (j := 3) rfl
            have cf4_3_4 := Rw.cell HRvf_3c.out (j := 4) rfl
            go_wp2_with fail
            refine (M1.out _ (tab10_below HT.out HBv_3c.out)).mono ?_
            rintro e w4 ⟨rfl, hb⟩
            have HB_4 := Lib.hid (below_then HBv_3c.out hb)
            have HRu_4 := Lib.hid (Rw.below HRvu_3c.out hb)
            have HRe_4 := Lib.hid (Rw.below HRve_3c.out hb)
            have HRo_4 := Lib.hid (Rw.below HRvo_3c.out hb)
            have HRf_4 := Lib.hid (Rw.below HRvf_3c.out hb)
            clear hb cu0_3_3 cu1_3_3 cu2_3_3 cu3_3_3 cu4_3_3 cu5_3_3 cu6_3_3 cu7_3_3 cu8_3_3 cu9_3_3 ce0_3_3 ce1_3_3 ce2_3_3 ce3_3_3 ce4_3_3 co0_3_3 co1_3_3 co2_3_3 cu0_3_4 cu1_3_4 cu2_3_4 cu3_3_4 cu4_3_4 cu5_3_4 cu6_3_4 cu7_3_4 cu8_3_4 cu9_3_4 ce0_3_4 ce1_3_4 ce2_3_4 ce3_3_4 ce4_3_4 co0_3_4 co1_3_4 co2_3_4 cf0_3_4 cf1_3_4 cf2_3_4 cf3_3_4 cf4_3_4
            have cu0_4_5 := Rw.cell HRu_4.out (j := 0) rfl
            have cu1_4_5 := Rw.cell HRu_4.out (j := 1) rfl
            have cu2_4_5 := Rw.cell HRu_4.out (j := 2) rfl
            have cu3_4_5 := Rw.cell HRu_4.out (j := 3) rfl
            have cu4_4_5 := Rw.cell HRu_4.out (j := 4) rfl
            have cu5_4_5 := Rw.cell HRu_4.out (j := 5) rfl
            have cu6_4_5 := Rw.cell HRu_4.out (j := 6) rfl
            have cu7_4_5 := Rw.cell HRu_4.out (j := 7) rfl
            have cu8_4_5 := Rw.cell HRu_4.out (j := 8) rfl
            have cu9_4_5 := Rw.cell HRu_4.out (j := 9) rfl
            have ce0_4_5 := Rw.cell HRe_4.out (j := 0) rfl
            have ce1_4_5 := Rw.cell HRe_4.out (j := 1) rfl
            have ce2_4_5 := Rw.cell HRe_4.out (j := 2) rfl
            have ce3_4_5 := Rw.cell HRe_4.out (j := 3) rfl
            have ce4_4_5 := Rw.cell HRe_4.out (j := 4) rfl
            have co0_4_5 := Rw.cell HRo_4.out (j := 0) rfl
            have co1_4_5 := Rw.cell HRo_4.out (j := 1) rfl
            have co2_4_5 := Rw.cell HRo_4.out (j := 2) rfl
            have cf0_4_5 := Rw.cell HRf_4.out (j := 0) rfl
            have cf1_4_5 := Rw.cell HRf_4.out (j := 1) rfl
            have cf2_4_5 := Rw.cell HRf_4.out (j := 2) rfl
            have cf3_4_5 := Rw.cell HRf_4.out (j := 3) rfl
            have cf4_4_5 := Rw.cell HRf_4.out (j := 4) rfl
            go_wp2_with fail
            refine (M2.out _ (tab10_below HT.out HB_4.out)).mono ?_
            rintro e w5 ⟨rfl, hb⟩
            have HB_5 := Lib.hid (below_then HB_4.out hb)
            have HRu_5 := Lib.hid (Rw.below HRu_4.out hb)
            have HRe_5 := Lib.hid (Rw.below HRe_4.out hb)
            have HRo_5 := Lib.hid (Rw.below HRo_4.out hb)
            have HRf_5 := Lib.hid (Rw.below HRf_4.out hb)
            clear hb cu0_4_5 cu1_4_5 cu2_4_5 cu3_4_5 cu4_4_5 cu5_4_5 cu6_4_5 cu7_4_5 cu8_4_5 cu9_4_5 ce0_4_5 ce1_4_5 ce2_4_5 ce3_4_5 ce4_4_5 co0_4_5 co1_4_5 co2_4_5 cf0_4_5 cf1_4_5 cf2_4_5 cf3_4_5 cf4_4_5
            have cu0_5_6 := Rw.cell HRu_5.out (j := 0) rfl
            have cu1_5_6 := Rw.cell HRu_5.out (j := 1) rfl
            have cu2_5_6 := Rw.cell HRu_5.out (j := 2) rfl
            have cu3_5_6 := Rw.cell HRu_5.out (j := 3) rfl
            have cu4_5_6 := Rw.cell HRu_5.out (j := 4) rfl
            have cu5_5_6 := Rw.cell HRu_5.out (j := 5) rfl
            have cu6_5_6 := Rw.cell HRu_5.out (j := 6) rfl
            have cu7_5_6 := Rw.cell HRu_5.out (j := 7) rfl
            have cu8_5_6 := Rw.cell HRu_5.out (j := 8) rfl
            have cu9_5_6 := Rw.cell HRu_5.out (j := 9) rfl
            have ce0_5_6 := Rw.cell HRe_5.out (j := 0) rfl
            have ce1_5_6 := Rw.cell HRe_5.out (j := 1) rfl
            have ce2_5_6 := Rw.cell HRe_5.out (j := 2) rfl
            have ce3_5_6 := Rw.cell HRe_5.out (j := 3) rfl
            have ce4_5_6 := Rw.cell HRe_5.out (j := 4) rfl
            have co0_5_6 := Rw.cell HRo_5.out (j := 0) rfl
            have co1_5_6 := Rw.cell HRo_5.out (j := 1) rfl
            have co2_5_6 := Rw.cell HRo_5.out (j := 2) rfl
            have cf0_5_6 := Rw.cell HRf_5.out (j := 0) rfl
            have cf1_5_6 := Rw.cell HRf_5.out (j := 1) rfl
            have cf2_5_6 := Rw.cell HRf_5.out (j := 2) rfl
            have cf3_5_6 := Rw.cell HRf_5.out (j := 3) rfl
            have cf4_5_6 := Rw.cell HRf_5.out (j := 4) rfl
            go_wp2_with fail
            refine (M3.out _ (tab10_below HT.out HB_5.out)).mono ?_
            rintro e w6 ⟨rfl, hb⟩
            have HB_6 := Lib.hid (below_then HB_5.out hb)
            have HRu_6 := Lib.hid (Rw.below HRu_5.out hb)
            have HRe_6 := Lib.hid (Rw.below HRe_5.out hb)
            have HRo_6 := Lib.hid (Rw.below HRo_5.out hb)
            have HRf_6 := Lib.hid (Rw.below HRf_5.out hb)
            clear hb cu0_5_6 cu1_5_6 cu2_5_6 cu3_5_6 cu4_5_6 cu5_5_6 cu6_5_6 cu7_5_6 cu8_5_6 cu9_5_6 ce0_5_6 ce1_5_6 ce2_5_6 ce3_5_6 ce4_5_6 co0_5_6 co1_5_6 co2_5_6 cf0_5_6 cf1_5_6 cf2_5_6 cf3_5_6 cf4_5_6
            have HBv_6b : Hid (Below w.heap.size w (w6.alloc (.cells #[.int .i64 3, .string ⟨#[104, 116, 116, 112]⟩, .string ⟨#[]⟩, .string ⟨#[]⟩, .string ⟨#[]⟩] 24))) := Lib.hid (below_more HB_6.out _)
            have HRvu_6b : Hid (Rw (w6.alloc (.cells #[.int .i64 3, .string ⟨#[104, 116, 116, 112]⟩, .string ⟨#[]⟩, .string ⟨#[]⟩, .string ⟨#[]⟩] 24)) 0 w1.heap.size 31 [.string S, .string U, .string P, .string H, .int .i64 pt, .string T, .bool hq, .string Q, .bool hf, .string F]) := Lib.hid (Rw.more HRu_6.out _)
            have HRve_6b : Hid (Rw (w6.alloc (.cells #[.int .i64 3, .string ⟨#[104, 116, 116, 112]⟩, .string ⟨#[]⟩, .string ⟨#[]⟩, .string ⟨#[]⟩] 24)) 0 w2.heap.size 24 [.int .i64 k, .string e1, .string e2, .string e3, .string e4]) := Lib.hid (Rw.more HRe_6.out _)
            have HRvo_6b : Hid (Rw (w6.alloc (.cells #[.int .i64 3, .string ⟨#[104, 116, 116, 112]⟩, .string ⟨#[]⟩, .string ⟨#[]⟩, .string ⟨#[]⟩] 24)) 0 w3.heap.size 42 [.string S2, .string H2, .int .i64 p2]) := Lib.hid (Rw.more HRo_6.out _)
            have HRvf_6b : Hid (Rw (w6.alloc (.cells #[.int .i64 3, .string ⟨#[104, 116, 116, 112]⟩, .string ⟨#[]⟩, .string ⟨#[]⟩, .string ⟨#[]⟩] 24)) 0 (w3.heap.size + 1) 24 [.int .i64 k, .string e1, .string e2, .string e3, .string ⟨#[]⟩]) := Lib.hid (Rw.more HRf_6.out _)
            have HRvx_6b : Hid (Rw (w6.alloc (.cells #[.int .i64 3, .string ⟨#[104, 116, 116, 112]⟩, .string ⟨#[]⟩, .string ⟨#[]⟩, .string ⟨#[]⟩] 24)) 0 w6.heap.size 24 [.int .i64 3, .string ⟨#[104, 116, 116, 112]⟩, .string ⟨#[]⟩, .string ⟨#[]⟩, .string ⟨#[]⟩]) := Lib.hid (Rw.alloc w6 _ _ (Nat.zero_le _))
            have cu0_6_7 := Rw.cell HRvu_6b.out (j := 0) rfl
            have cu1_6_7 := Rw.cell HRvu_6b.out (j := 1) rfl
            have cu2_6_7 := Rw.cell HRvu_6b.out (j := 2) rfl
            have cu3_6_7 := Rw.cell HRvu_6b.out (j := 3) rfl
            have cu4_6_7 := Rw.cell HRvu_6b.out (j := 4) rfl
            have cu5_6_7 := Rw.cell HRvu_6b.out (j := 5) rfl
            have cu6_6_7 := Rw.cell HRvu_6b.out (j := 6) rfl
            have cu7_6_7 := Rw.cell HRvu_6b.out (j := 7) rfl
            have cu8_6_7 := Rw.cell HRvu_6b.out (j := 8) rfl
            have cu9_6_7 := Rw.cell HRvu_6b.out (j := 9) rfl
            have ce0_6_7 := Rw.cell HRve_6b.out (j := 0) rfl
            have ce1_6_7 := Rw.cell HRve_6b.out (j := 1) rfl
            have ce2_6_7 := Rw.cell HRve_6b.out (j := 2) rfl
            have ce3_6_7 := Rw.cell HRve_6b.out (j := 3) rfl
            have ce4_6_7 := Rw.cell HRve_6b.out (j := 4) rfl
            have co0_6_7 := Rw.cell HRvo_6b.out (j := 0) rfl
            have co1_6_7 := Rw.cell HRvo_6b.out (j := 1) rfl
            have co2_6_7 := Rw.cell HRvo_6b.out (j := 2) rfl
            have cf0_6_7 := Rw.cell HRvf_6b.out (j := 0) rfl
            have cf1_6_7 := Rw.cell HRvf_6b.out (j := 1) rfl
            have cf2_6_7 := Rw.cell HRvf_6b.out (j := 2) rfl
            have cf3_6_7 := Rw.cell HRvf_6b.out (j := 3) rfl
            have cf4_6_7 := Rw.cell HRvf_6b.out (j := 4) rfl
            have cx0_6_7 := Rw.cell HRvx_6b.out (j := 0) rfl
            have cx1_6_7 := Rw.cell HRvx_6b.out (j := 1) rfl
            have cx2_6_7 := Rw.cell HRvx_6b.out (j := 2) rfl
            have cx3_6_7 := Rw.cell HRvx_6b.out (j := 3) rfl
            have cx4_6_7 := Rw.cell HRvx_6b.out (j := 4) rfl
            have HBv_6c : Hid (Below w.heap.size w ((w6.alloc (.cells #[.int .i64 3, .string ⟨#[104, 116, 116, 112]⟩, .string ⟨#[]⟩, .string ⟨#[]⟩, .string ⟨#[]⟩] 24)).alloc (.cells #[.int .i64 3, .string ⟨#[104, 116, 116, 112, 115]⟩, .string ⟨#[]⟩, .string ⟨#[]⟩, .string ⟨#[]⟩] 24))) := Lib.hid (below_more HBv_6b.out _)
            have HRvu_6c : Hid (Rw ((w6.alloc (.cells #[.int .i64 3, .string ⟨#[104, 116, 116, 112]⟩, .string ⟨#[]⟩, .string ⟨#[]⟩, .string ⟨#[]⟩] 24)).alloc (.cells #[.int .i64 3, .string ⟨#[104, 116, 116, 112, 115]⟩, .string ⟨#[]⟩, .string ⟨#[]⟩, .string ⟨#[]⟩] 24)) 0 w1.heap.size 31 [.string S, .string U, .string P, .string H, .int .i64 pt, .string T, .bool hq, .string Q, .bool hf, .string F]) := Lib.hid (Rw.more HRvu_6b.out _)
            have HRve_6c : Hid (Rw ((w6.alloc (.cells #[.int .i64 3, .string ⟨#[104, 116, 116, 112]⟩, .string ⟨#[]⟩, .string ⟨#[]⟩, .string ⟨#[]⟩] 24)).alloc (.cells #[.int .i64 3, .string ⟨#[104, 116, 116, 112, 115]⟩, .string ⟨#[]⟩, .string ⟨#[]⟩, .string ⟨#[]⟩] 24)) 0 w2.heap.size 24 [.int .i64 k, .string e1, .string e2, .string e3, .string e4]) := Lib.hid (Rw.more HRve_6b.out _)
            have HRvo_6c : Hid (Rw ((w6.alloc (.cells #[.int .i64 3, .string ⟨#[104, 116, 116, 112]⟩, .string ⟨#[]⟩, .string ⟨#[]⟩, .string ⟨#[]⟩] 24)).alloc (.cells #[.int .i64 3, .string ⟨#[104, 116, 116, 112, 115]⟩, .string ⟨#[]⟩, .string ⟨#[]⟩, .string ⟨#[]⟩] 24)) 0 w3.heap.size 42 [.string S2, .string H2, .int .i64 p2]) := Lib.hid (Rw.more HRvo_6b.out _)
            have HRvf_6c : Hid (Rw ((w6.alloc (.cells #[.int .i64 3, .string ⟨#[104, 116, 116, 112]⟩, .string ⟨#[]⟩, .string ⟨#[]⟩, .string ⟨#[]⟩] 24)).alloc (.cells #[.int .i64 3, .string ⟨#[104, 116, 116, 112, 115]⟩, .string ⟨#[]⟩, .string ⟨#[]⟩, .string ⟨#[]⟩] 24)) 0 (w3.heap.size + 1) 24 [.int .i64 k, .string e1, .string e2, .string e3, .string ⟨#[]⟩]) := Lib.hid (Rw.more HRvf_6b.out _)
            have HRvx_6c : Hid (Rw ((w6.alloc (.cells #[.int .i64 3, .string ⟨#[104, 116, 116, 112]⟩, .string ⟨#[]⟩, .string ⟨#[]⟩, .string ⟨#[]⟩] 24)).alloc (.cells #[.int .i64 3, .string ⟨#[104, 116, 116, 112, 115]⟩, .string ⟨#[]⟩, .string ⟨#[]⟩, .string ⟨#[]⟩] 24)) 0 w6.heap.size 24 [.int .i64 3, .string ⟨#[104, 116, 116, 112]⟩, .string ⟨#[]⟩, .string ⟨#[]⟩, .string ⟨#[]⟩]) := Lib.hid (Rw.more HRvx_6b.out _)
            have HRvy_6c : Hid (Rw ((w6.alloc (.cells #[.int .i64 3, .string ⟨#[104, 116, 116, 112]⟩, .string ⟨#[]⟩, .string ⟨#[]⟩, .string ⟨#[]⟩] 24)).alloc (.cells #[.int .i64 3, .string ⟨#[104, 116, 116, 112, 115]⟩, .string ⟨#[]⟩, .string ⟨#[]⟩, .string ⟨#[]⟩] 24)) 0 (w6.heap.size + 1) 24 [.int .i64 3, .string ⟨#[104, 116, 116, 112, 115]⟩, .string ⟨#[]⟩, .string ⟨#[]⟩, .string ⟨#[]⟩]) := Lib.hid (by have h := Rw.alloc (w6.alloc (.cells #[.int .i64 3, .string ⟨#[104, 116, 116, 112]⟩, .string ⟨#[]⟩, .string ⟨#[]⟩, .string ⟨#[]⟩] 24)) 24 #[.int .i64 3, .string ⟨#[104, 116, 116, 112, 115]⟩, .string ⟨#[]⟩, .string ⟨#[]⟩, .string ⟨#[]⟩] (Nat.zero_le (w6.alloc (.cells #[.int .i64 3, .string ⟨#[104, 116, 116, 112]⟩, .string ⟨#[]⟩, .string ⟨#[]⟩, .string ⟨#[]⟩] 24)).heap.size); have hs : (w6.alloc (.cells #[.int .i64 3, .string ⟨#[104, 116, 116, 112]⟩, .string ⟨#[]⟩, .string ⟨#[]⟩, .string ⟨#[]⟩] 24)).heap.size = (w6.heap.size + 1) := (by first | exact Array.size_push .. | (show (Array.push _ _).size = _; rw [Array.size_push]; rfl)); rw [hs] at h; exact h)
            have cu0_6_8 := Rw.cell HRvu_6c.out (j := 0) rfl
            have cu1_6_8 := Rw.cell HRvu_6c.out (j := 1) rfl
            have cu2_6_8 := Rw.cell HRvu_6c.out (j := 2) rfl
            have cu3_6_8 := Rw.cell HRvu_6c.out (j := 3) rfl
            have cu4_6_8 := Rw.cell HRvu_6c.out (j := 4) rfl
            have cu5_6_8 := Rw.cell HRvu_6c.out (j := 5) rfl
            have cu6_6_8 := Rw.cell HRvu_6c.out (j := 6) rfl
            have cu7_6_8 := Rw.cell HRvu_6c.out (j := 7) rfl
            have cu8_6_8 := Rw.cell HRvu_6c.out (j := 8) rfl
            have cu9_6_8 := Rw.cell HRvu_6c.out (j := 9) rfl
            have ce0_6_8 := Rw.cell HRve_6c.out (j := 0) rfl
            have ce1_6_8 := Rw.cell HRve_6c.out (j := 1) rfl
            have ce2_6_8 := Rw.cell HRve_6c.out (j := 2) rfl
            have ce3_6_8 := Rw.cell HRve_6c.out (j := 3) rfl
            have ce4_6_8 := Rw.cell HRve_6c.out (j := 4) rfl
            have co0_6_8 := Rw.cell HRvo_6c.out (j := 0) rfl
            have co1_6_8 := Rw.cell HRvo_6c.out (j := 1) rfl
            have co2_6_8 := Rw.cell HRvo_6c.out (j := 2) rfl
            have cf0_6_8 := Rw.cell HRvf_6c.out (j := 0) rfl
            have cf1_6_8 := Rw.cell HRvf_6c.out (j := 1) rfl
            have cf2_6_8 := Rw.cell HRvf_6c.out (j := 2) rfl
            have cf3_6_8 := Rw.cell HRvf_6c.out (j := 3) rfl
            have cf4_6_8 := Rw.cell HRvf_6c.out (j := 4) rfl
            have cx0_6_8 := Rw.cell HRvx_6c.out (j := 0) rfl
            have cx1_6_8 := Rw.cell HRvx_6c.out (j := 1) rfl
            have cx2_6_8 := Rw.cell HRvx_6c.out (j := 2) rfl
            have cx3_6_8 := Rw.cell HRvx_6c.out (j := 3) rfl
            have cx4_6_8 := Rw.cell HRvx_6c.out (j := 4) rfl
            have cy0_6_8 := Rw.cell HRvy_6c.out (j := 0) rfl
            have cy1_6_8 := Rw.cell HRvy_6c.out (j := 1) rfl
            have cy2_6_8 := Rw.cell HRvy_6c.out (j := 2) rfl
            have cy3_6_8 := Rw.cell HRvy_6c.out (j := 3) rfl
            have cy4_6_8 := Rw.cell HRvy_6c.out (j := 4) rfl
            go_wp2_with fail
            refine (MY.out _ (tab10_below HT.out HBv_6c.out)).mono ?_
            rintro e w7 ⟨rfl, hb⟩
            have HB_7 := Lib.hid (below_then HBv_6c.out hb)
            have HRu_7 := Lib.hid (Rw.below HRvu_6c.out hb)
            have HRe_7 := Lib.hid (Rw.below HRve_6c.out hb)
            have HRo_7 := Lib.hid (Rw.below HRvo_6c.out hb)
            have HRf_7 := Lib.hid (Rw.below HRvf_6c.out hb)
            have HRx_7 := Lib.hid (Rw.below HRvx_6c.out hb)
            have HRy_7 := Lib.hid (Rw.below HRvy_6c.out hb)
            clear hb cu0_6_7 cu1_6_7 cu2_6_7 cu3_6_7 cu4_6_7 cu5_6_7 cu6_6_7 cu7_6_7 cu8_6_7 cu9_6_7 ce0_6_7 ce1_6_7 ce2_6_7 ce3_6_7 ce4_6_7 co0_6_7 co1_6_7 co2_6_7 cf0_6_7 cf1_6_7 cf2_6_7 cf3_6_7 cf4_6_7 cx0_6_7 cx1_6_7 cx2_6_7 cx3_6_7 cx4_6_7 cu0_6_8 cu1_6_8 cu2_6_8 cu3_6_8 cu4_6_8 cu5_6_8 cu6_6_8 cu7_6_8 cu8_6_8 cu9_6_8 ce0_6_8 ce1_6_8 ce2_6_8 ce3_6_8 ce4_6_8 co0_6_8 co1_6_8 co2_6_8 cf0_6_8 cf1_6_8 cf2_6_8 cf3_6_8 cf4_6_8 cx0_6_8 cx1_6_8 cx2_6_8 cx3_6_8 cx4_6_8 cy0_6_8 cy1_6_8 cy2_6_8 cy3_6_8 cy4_6_8
            have cu0_7_9 := Rw.cell HRu_7.out (j := 0) rfl
            have cu1_7_9 := Rw.cell HRu_7.out (j := 1) rfl
            have cu2_7_9 := Rw.cell HRu_7.out (j := 2) rfl
            have cu3_7_9 := Rw.cell HRu_7.out (j := 3) rfl
            have cu4_7_9 := Rw.cell HRu_7.out (j := 4) rfl
            have cu5_7_9 := Rw.cell HRu_7.out (j := 5) rfl
            have cu6_7_9 := Rw.cell HRu_7.out (j := 6) rfl
            have cu7_7_9 := Rw.cell HRu_7.out (j := 7) rfl
            have cu8_7_9 := Rw.cell HRu_7.out (j := 8) rfl
            have cu9_7_9 := Rw.cell HRu_7.out (j := 9) rfl
            have ce0_7_9 := Rw.cell HRe_7.out (j := 0) rfl
            have ce1_7_9 := Rw.cell HRe_7.out (j := 1) rfl
            have ce2_7_9 := Rw.cell HRe_7.out (j := 2) rfl
            have ce3_7_9 := Rw.cell HRe_7.out (j := 3) rfl
            have ce4_7_9 := Rw.cell HRe_7.out (j := 4) rfl
            have co0_7_9 := Rw.cell HRo_7.out (j := 0) rfl
            have co1_7_9 := Rw.cell HRo_7.out (j := 1) rfl
            have co2_7_9 := Rw.cell HRo_7.out (j := 2) rfl
            have cf0_7_9 := Rw.cell HRf_7.out (j := 0) rfl
            have cf1_7_9 := Rw.cell HRf_7.out (j := 1) rfl
            have cf2_7_9 := Rw.cell HRf_7.out (j := 2) rfl
            have cf3_7_9 := Rw.cell HRf_7.out (j := 3) rfl
            have cf4_7_9 := Rw.cell HRf_7.out (j := 4) rfl
            have cx0_7_9 := Rw.cell HRx_7.out (j := 0) rfl
            have cx1_7_9 := Rw.cell HRx_7.out (j := 1) rfl
            have cx2_7_9 := Rw.cell HRx_7.out (j := 2) rfl
            have cx3_7_9 := Rw.cell HRx_7.out (j := 3) rfl
            have cx4_7_9 := Rw.cell HRx_7.out (j := 4) rfl
            have cy0_7_9 := Rw.cell HRy_7.out (j := 0) rfl
            have cy1_7_9 := Rw.cell HRy_7.out (j := 1) rfl
            have cy2_7_9 := Rw.cell HRy_7.out (j := 2) rfl
            have cy3_7_9 := Rw.cell HRy_7.out (j := 3) rfl
            have cy4_7_9 := Rw.cell HRy_7.out (j := 4) rfl
            go_wp2_with fail
            refine (sawake_any _ (tab10_below HT.out HB_7.out)).mono ?_
            rintro e w8 ⟨rfl, hb⟩
            have HB_8 := Lib.hid (below_then HB_7.out hb)
            have HRu_8 := Lib.hid (Rw.below HRu_7.out hb)
            have HRe_8 := Lib.hid (Rw.below HRe_7.out hb)
            have HRo_8 := Lib.hid (Rw.below HRo_7.out hb)
            have HRf_8 := Lib.hid (Rw.below HRf_7.out hb)
            have HRx_8 := Lib.hid (Rw.below HRx_7.out hb)
            have HRy_8 := Lib.hid (Rw.below HRy_7.out hb)
            clear hb cu0_7_9 cu1_7_9 cu2_7_9 cu3_7_9 cu4_7_9 cu5_7_9 cu6_7_9 cu7_7_9 cu8_7_9 cu9_7_9 ce0_7_9 ce1_7_9 ce2_7_9 ce3_7_9 ce4_7_9 co0_7_9 co1_7_9 co2_7_9 cf0_7_9 cf1_7_9 cf2_7_9 cf3_7_9 cf4_7_9 cx0_7_9 cx1_7_9 cx2_7_9 cx3_7_9 cx4_7_9 cy0_7_9 cy1_7_9 cy2_7_9 cy3_7_9 cy4_7_9
            have cu0_8_10 := Rw.cell HRu_8.out (j := 0) rfl
            have cu1_8_10 := Rw.cell HRu_8.out (j := 1) rfl
            have cu2_8_10 := Rw.cell HRu_8.out (j := 2) rfl
            have cu3_8_10 := Rw.cell HRu_8.out (j := 3) rfl
            have cu4_8_10 := Rw.cell HRu_8.out (j := 4) rfl
            have cu5_8_10 := Rw.cell HRu_8.out (j := 5) rfl
            have cu6_8_10 := Rw.cell HRu_8.out (j := 6) rfl
            have cu7_8_10 := Rw.cell HRu_8.out (j := 7) rfl
            have cu8_8_10 := Rw.cell HRu_8.out (j := 8) rfl
            have cu9_8_10 := Rw.cell HRu_8.out (j := 9) rfl
            have ce0_8_10 := Rw.cell HRe_8.out (j := 0) rfl
            have ce1_8_10 := Rw.cell HRe_8.out (j := 1) rfl
            have ce2_8_10 := Rw.cell HRe_8.out (j := 2) rfl
            have ce3_8_10 := Rw.cell HRe_8.out (j := 3) rfl
            have ce4_8_10 := Rw.cell HRe_8.out (j := 4) rfl
            have co0_8_10 := Rw.cell HRo_8.out (j := 0) rfl
            have co1_8_10 := Rw.cell HRo_8.out (j := 1) rfl
            have co2_8_10 := Rw.cell HRo_8.out (j := 2) rfl
            have cf0_8_10 := Rw.cell HRf_8.out (j := 0) rfl
            have cf1_8_10 := Rw.cell HRf_8.out (j := 1) rfl
            have cf2_8_10 := Rw.cell HRf_8.out (j := 2) rfl
            have cf3_8_10 := Rw.cell HRf_8.out (j := 3) rfl
            have cf4_8_10 := Rw.cell HRf_8.out (j := 4) rfl
            have cx0_8_10 := Rw.cell HRx_8.out (j := 0) rfl
            have cx1_8_10 := Rw.cell HRx_8.out (j := 1) rfl
            have cx2_8_10 := Rw.cell HRx_8.out (j := 2) rfl
            have cx3_8_10 := Rw.cell HRx_8.out (j := 3) rfl
            have cx4_8_10 := Rw.cell HRx_8.out (j := 4) rfl
            have cy0_8_10 := Rw.cell HRy_8.out (j := 0) rfl
            have cy1_8_10 := Rw.cell HRy_8.out (j := 1) rfl
            have cy2_8_10 := Rw.cell HRy_8.out (j := 2) rfl
            have cy3_8_10 := Rw.cell HRy_8.out (j := 3) rfl
            have cy4_8_10 := Rw.cell HRy_8.out (j := 4) rfl
            go_wp2_with fail
            go_ret
            exact ⟨rfl, HB_8.out⟩
          case true =>
            have hxt : x = true := f3 rfl
            subst hxt
            clear f3
            go_enter Tryz.func6, Tryz.ntmps6
            go_wp2_with fail
            refine (HP.out _).mono ?_
            rintro e w1 ⟨rfl, hb⟩
            have HB_1 := Lib.hid (below_then HB0.out hb)
            clear hb
            have HBv_1b : Hid (Below w.heap.size w (w1.alloc (.cells #[.string S, .string U, .string P, .string H, .int .i64 pt, .string T, .bool hq, .string Q, .bool hf, .string F] 31))) := Lib.hid (below_more HB_1.out _)
            have HRvu_1b : Hid (Rw (w1.alloc (.cells #[.string S, .string U, .string P, .string H, .int .i64 pt, .string T, .bool hq, .string Q, .bool hf, .string F] 31)) 0 w1.heap.size 31 [.string S, .string U, .string P, .string H, .int .i64 pt, .string T, .bool hq, .string Q, .bool hf, .string F]) := Lib.hid (Rw.alloc w1 _ _ (Nat.zero_le _))
            have cu0_1_1 := Rw.cell HRvu_1b.out (j := 0) rfl
            have cu1_1_1 := Rw.cell HRvu_1b.out (j := 1) rfl
            have cu2_1_1 := Rw.cell HRvu_1b.out (j := 2) rfl
            have cu3_1_1 := Rw.cell HRvu_1b.out (j := 3) rfl
            have cu4_1_1 := Rw.cell HRvu_1b.out (j := 4) rfl
            have cu5_1_1 := Rw.cell HRvu_1b.out (j := 5) rfl
            have cu6_1_1 := Rw.cell HRvu_1b.out (j := 6) rfl
            have cu7_1_1 := Rw.cell HRvu_1b.out (j := 7) rfl
            have cu8_1_1 := Rw.cell HRvu_1b.out (j := 8) rfl
            have cu9_1_1 := Rw.cell HRvu_1b.out (j := 9) rfl
            go_wp2_with fail
            refine (C1.out _).mono ?_
            rintro e w2 ⟨rfl, hb⟩
            have HB_2 := Lib.hid (below_then HBv_1b.out hb)
            have HRu_2 := Lib.hid (Rw.below HRvu_1b.out hb)
            clear hb cu0_1_1 cu1_1_1 cu2_1_1 cu3_1_1 cu4_1_1 cu5_1_1 cu6_1_1 cu7_1_1 cu8_1_1 cu9_1_1
            have HBv_2b : Hid (Below w.heap.size w (w2.alloc (.cells #[.int .i64 k, .string e1, .string e2, .string e3, .string e4] 24))) := Lib.hid (below_more HB_2.out _)
            have HRvu_2b : Hid (Rw (w2.alloc (.cells #[.int .i64 k, .string e1, .string e2, .string e3, .string e4] 24)) 0 w1.heap.size 31 [.string S, .string U, .string P, .string H, .int .i64 pt, .string T, .bool hq, .string Q, .bool hf, .string F]) := Lib.hid (Rw.more HRu_2.out _)
            have HRve_2b : Hid (Rw (w2.alloc (.cells #[.int .i64 k, .string e1, .string e2, .string e3, .string e4] 24)) 0 w2.heap.size 24 [.int .i64 k, .string e1, .string e2, .string e3, .string e4]) := Lib.hid (Rw.alloc w2 _ _ (Nat.zero_le _))
            have cu0_2_2 := Rw.cell HRvu_2b.out (j := 0) rfl
            have cu1_2_2 := Rw.cell HRvu_2b.out (j := 1) rfl
            have cu2_2_2 := Rw.cell HRvu_2b.out (j := 2) rfl
            have cu3_2_2 := Rw.cell HRvu_2b.out (j := 3) rfl
            have cu4_2_2 := Rw.cell HRvu_2b.out (j := 4) rfl
            have cu5_2_2 := Rw.cell HRvu_2b.out (j := 5) rfl
            have cu6_2_2 := Rw.cell HRvu_2b.out (j := 6) rfl
            have cu7_2_2 := Rw.cell HRvu_2b.out (j := 7) rfl
            have cu8_2_2 := Rw.cell HRvu_2b.out (j := 8) rfl
            have cu9_2_2 := Rw.cell HRvu_2b.out (j := 9) rfl
            have ce0_2_2 := Rw.cell HRve_2b.out (j := 0) rfl
            have ce1_2_2 := Rw.cell HRve_2b.out (j := 1) rfl
            have ce2_2_2 := Rw.cell HRve_2b.out (j := 2) rfl
            have ce3_2_2 := Rw.cell HRve_2b.out (j := 3) rfl
            have ce4_2_2 := Rw.cell HRve_2b.out (j := 4) rfl
            go_wp2_with fail
            refine (C2.out _).mono ?_
            rintro e w3 ⟨rfl, hb⟩
            have HB_3 := Lib.hid (below_then HBv_2b.out hb)
            have HRu_3 := Lib.hid (Rw.below HRvu_2b.out hb)
            have HRe_3 := Lib.hid (Rw.below HRve_2b.out hb)
            clear hb cu0_2_2 cu1_2_2 cu2_2_2 cu3_2_2 cu4_2_2 cu5_2_2 cu6_2_2 cu7_2_2 cu8_2_2 cu9_2_2 ce0_2_2 ce1_2_2 ce2_2_2 ce3_2_2 ce4_2_2
            have HBv_3b : Hid (Below w.heap.size w (w3.alloc (.cells #[.string S2, .string H2, .int .i64 p2] 42))) := Lib.hid (below_more HB_3.out _)
            have HRvu_3b : Hid (Rw (w3.alloc (.cells #[.string S2, .string H2, .int .i64 p2] 42)) 0 w1.heap.size 31 [.string S, .string U, .string P, .string H, .int .i64 pt, .string T, .bool hq, .string Q, .bool hf, .string F]) := Lib.hid (Rw.more HRu_3.out _)
            have HRve_3b : Hid (Rw (w3.alloc (.cells #[.string S2, .string H2, .int .i64 p2] 42)) 0 w2.heap.size 24 [.int .i64 k, .string e1, .string e2, .string e3, .string e4]) := Lib.hid (Rw.more HRe_3.out _)
            have HRvo_3b : Hid (Rw (w3.alloc (.cells #[.string S2, .string H2, .int .i64 p2] 42)) 0 w3.heap.size 42 [.string S2, .string H2, .int .i64 p2]) := Lib.hid (Rw.alloc w3 _ _ (Nat.zero_le _))
            have cu0_3_3 := Rw.cell HRvu_3b.out (j := 0) rfl
            have cu1_3_3 := Rw.cell HRvu_3b.out (j := 1) rfl
            have cu2_3_3 := Rw.cell HRvu_3b.out (j := 2) rfl
            have cu3_3_3 := Rw.cell HRvu_3b.out (j := 3) rfl
            have cu4_3_3 := Rw.cell HRvu_3b.out (j := 4) rfl
            have cu5_3_3 := Rw.cell HRvu_3b.out (j := 5) rfl
            have cu6_3_3 := Rw.cell HRvu_3b.out (j := 6) rfl
            have cu7_3_3 := Rw.cell HRvu_3b.out (j := 7) rfl
            have cu8_3_3 := Rw.cell HRvu_3b.out (j := 8) rfl
            have cu9_3_3 := Rw.cell HRvu_3b.out (j := 9) rfl
            have ce0_3_3 := Rw.cell HRve_3b.out (j := 0) rfl
            have ce1_3_3 := Rw.cell HRve_3b.out (j := 1) rfl
            have ce2_3_3 := Rw.cell HRve_3b.out (j := 2) rfl
            have ce3_3_3 := Rw.cell HRve_3b.out (j := 3) rfl
            have ce4_3_3 := Rw.cell HRve_3b.out (j := 4) rfl
            have co0_3_3 := Rw.cell HRvo_3b.out (j := 0) rfl
            have co1_3_3 := Rw.cell HRvo_3b.out (j := 1) rfl
            have co2_3_3 := Rw.cell HRvo_3b.out (j := 2) rfl
            have HBv_3c : Hid (Below w.heap.size w ((w3.alloc (.cells #[.string S2, .string H2, .int .i64 p2] 42)).alloc (.cells #[.int .i64 k, .string e1, .string e2, .string e3, .string ⟨#[]⟩] 24))) := Lib.hid (below_more HBv_3b.out _)
            have HRvu_3c : Hid (Rw ((w3.alloc (.cells #[.string S2, .string H2, .int .i64 p2] 42)).alloc (.cells #[.int .i64 k, .string e1, .string e2, .string e3, .string ⟨#[]⟩] 24)) 0 w1.heap.size 31 [.string S, .string U, .string P, .string H, .int .i64 pt, .string T, .bool hq, .string Q, .bool hf, .string F]) := Lib.hid (Rw.more HRvu_3b.out _)
            have HRve_3c : Hid (Rw ((w3.alloc (.cells #[.string S2, .string H2, .int .i64 p2] 42)).alloc (.cells #[.int .i64 k, .string e1, .string e2, .string e3, .string ⟨#[]⟩] 24)) 0 w2.heap.size 24 [.int .i64 k, .string e1, .string e2, .string e3, .string e4]) := Lib.hid (Rw.more HRve_3b.out _)
            have HRvo_3c : Hid (Rw ((w3.alloc (.cells #[.string S2, .string H2, .int .i64 p2] 42)).alloc (.cells #[.int .i64 k, .string e1, .string e2, .string e3, .string ⟨#[]⟩] 24)) 0 w3.heap.size 42 [.string S2, .string H2, .int .i64 p2]) := Lib.hid (Rw.more HRvo_3b.out _)
            have HRvf_3c : Hid (Rw ((w3.alloc (.cells #[.string S2, .string H2, .int .i64 p2] 42)).alloc (.cells #[.int .i64 k, .string e1, .string e2, .string e3, .string ⟨#[]⟩] 24)) 0 (w3.heap.size + 1) 24 [.int .i64 k, .string e1, .string e2, .string e3, .string ⟨#[]⟩]) := Lib.hid (by have h := Rw.alloc (w3.alloc (.cells #[.string S2, .string H2, .int .i64 p2] 42)) 24 #[.int .i64 k, .string e1, .string e2, .string e3, .string ⟨#[]⟩] (Nat.zero_le (w3.alloc (.cells #[.string S2, .string H2, .int .i64 p2] 42)).heap.size); have hs : (w3.alloc (.cells #[.string S2, .string H2, .int .i64 p2] 42)).heap.size = (w3.heap.size + 1) := (by first | exact Array.size_push .. | (show (Array.push _ _).size = _; rw [Array.size_push]; rfl)); rw [hs] at h; exact h)
            have cu0_3_4 := Rw.cell HRvu_3c.out (j := 0) rfl
            have cu1_3_4 := Rw.cell HRvu_3c.out (j := 1) rfl
            have cu2_3_4 := Rw.cell HRvu_3c.out (j := 2) rfl
            have cu3_3_4 := Rw.cell HRvu_3c.out (j := 3) rfl
            have cu4_3_4 := Rw.cell HRvu_3c.out (j := 4) rfl
            have cu5_3_4 := Rw.cell HRvu_3c.out (j := 5) rfl
            have cu6_3_4 := Rw.cell HRvu_3c.out (j := 6) rfl
            have cu7_3_4 := Rw.cell HRvu_3c.out (j := 7) rfl
            have cu8_3_4 := Rw.cell HRvu_3c.out (j := 8) rfl
            have cu9_3_4 := Rw.cell HRvu_3c.out (j := 9) rfl
            have ce0_3_4 := Rw.cell HRve_3c.out (j := 0) rfl
            have ce1_3_4 := Rw.cell HRve_3c.out (j := 1) rfl
            have ce2_3_4 := Rw.cell HRve_3c.out (j := 2) rfl
            have ce3_3_4 := Rw.cell HRve_3c.out (j := 3) rfl
            have ce4_3_4 := Rw.cell HRve_3c.out (j := 4) rfl
            have co0_3_4 := Rw.cell HRvo_3c.out (j := 0) rfl
            have co1_3_4 := Rw.cell HRvo_3c.out (j := 1) rfl
            have co2_3_4 := Rw.cell HRvo_3c.out (j := 2) rfl
            have cf0_3_4 := Rw.cell HRvf_3c.out (j := 0) rfl
            have cf1_3_4 := Rw.cell HRvf_3c.out (j := 1) rfl
            have cf2_3_4 := Rw.cell HRvf_3c.out (j := 2) rfl
            have cf3_3_4 := Rw.cell HRvf_3c.out (j := 3) rfl
            have cf4_3_4 := Rw.cell HRvf_3c.out (j := 4) rfl
            go_wp2_with fail
            refine (M1.out _ (tab10_below HT.out HBv_3c.out)).mono ?_
            rintro e w4 ⟨rfl, hb⟩
            have HB_4 := Lib.hid (below_then HBv_3c.out hb)
            have HRu_4 := Lib.hid (Rw.below HRvu_3c.out hb)
            have HRe_4 := Lib.hid (Rw.below HRve_3c.out hb)
            have HRo_4 := Lib.hid (Rw.below HRvo_3c.out hb)
            have HRf_4 := Lib.hid (Rw.below HRvf_3c.out hb)
            clear hb cu0_3_3 cu1_3_3 cu2_3_3 cu3_3_3 cu4_3_3 cu5_3_3 cu6_3_3 cu7_3_3 cu8_3_3 cu9_3_3 ce0_3_3 ce1_3_3 ce2_3_3 ce3_3_3 ce4_3_3 co0_3_3 co1_3_3 co2_3_3 cu0_3_4 cu1_3_4 cu2_3_4 cu3_3_4 cu4_3_4 cu5_3_4 cu6_3_4 cu7_3_4 cu8_3_4 cu9_3_4 ce0_3_4 ce1_3_4 ce2_3_4 ce3_3_4 ce4_3_4 co0_3_4 co1_3_4 co2_3_4 cf0_3_4 cf1_3_4 cf2_3_4 cf3_3_4 cf4_3_4
            have cu0_4_5 := Rw.cell HRu_4.out (j := 0) rfl
            have cu1_4_5 := Rw.cell HRu_4.out (j := 1) rfl
            have cu2_4_5 := Rw.cell HRu_4.out (j := 2) rfl
            have cu3_4_5 := Rw.cell HRu_4.out (j := 3) rfl
            have cu4_4_5 := Rw.cell HRu_4.out (j := 4) rfl
            have cu5_4_5 := Rw.cell HRu_4.out (j := 5) rfl
            have cu6_4_5 := Rw.cell HRu_4.out (j := 6) rfl
            have cu7_4_5 := Rw.cell HRu_4.out (j := 7) rfl
            have cu8_4_5 := Rw.cell HRu_4.out (j := 8) rfl
            have cu9_4_5 := Rw.cell HRu_4.out (j := 9) rfl
            have ce0_4_5 := Rw.cell HRe_4.out (j := 0) rfl
            have ce1_4_5 := Rw.cell HRe_4.out (j := 1) rfl
            have ce2_4_5 := Rw.cell HRe_4.out (j := 2) rfl
            have ce3_4_5 := Rw.cell HRe_4.out (j := 3) rfl
            have ce4_4_5 := Rw.cell HRe_4.out (j := 4) rfl
            have co0_4_5 := Rw.cell HRo_4.out (j := 0) rfl
            have co1_4_5 := Rw.cell HRo_4.out (j := 1) rfl
            have co2_4_5 := Rw.cell HRo_4.out (j := 2) rfl
            have cf0_4_5 := Rw.cell HRf_4.out (j := 0) rfl
            have cf1_4_5 := Rw.cell HRf_4.out (j := 1) rfl
            have cf2_4_5 := Rw.cell HRf_4.out (j := 2) rfl
            have cf3_4_5 := Rw.cell HRf_4.out (j := 3) rfl
            have cf4_4_5 := Rw.cell HRf_4.out (j := 4) rfl
            go_wp2_with fail
            refine (M2.out _ (tab10_below HT.out HB_4.out)).mono ?_
            rintro e w5 ⟨rfl, hb⟩
            have HB_5 := Lib.hid (below_then HB_4.out hb)
            have HRu_5 := Lib.hid (Rw.below HRu_4.out hb)
            have HRe_5 := Lib.hid (Rw.below HRe_4.out hb)
            have HRo_5 := Lib.hid (Rw.below HRo_4.out hb)
            have HRf_5 := Lib.hid (Rw.below HRf_4.out hb)
            clear hb cu0_4_5 cu1_4_5 cu2_4_5 cu3_4_5 cu4_4_5 cu5_4_5 cu6_4_5 cu7_4_5 cu8_4_5 cu9_4_5 ce0_4_5 ce1_4_5 ce2_4_5 ce3_4_5 ce4_4_5 co0_4_5 co1_4_5 co2_4_5 cf0_4_5 cf1_4_5 cf2_4_5 cf3_4_5 cf4_4_5
            have cu0_5_6 := Rw.cell HRu_5.out (j := 0) rfl
            have cu1_5_6 := Rw.cell HRu_5.out (j := 1) rfl
            have cu2_5_6 := Rw.cell HRu_5.out (j := 2) rfl
            have cu3_5_6 := Rw.cell HRu_5.out (j := 3) rfl
            have cu4_5_6 := Rw.cell HRu_5.out (j := 4) rfl
            have cu5_5_6 := Rw.cell HRu_5.out (j := 5) rfl
            have cu6_5_6 := Rw.cell HRu_5.out (j := 6) rfl
            have cu7_5_6 := Rw.cell HRu_5.out (j := 7) rfl
            have cu8_5_6 := Rw.cell HRu_5.out (j := 8) rfl
            have cu9_5_6 := Rw.cell HRu_5.out (j := 9) rfl
            have ce0_5_6 := Rw.cell HRe_5.out (j := 0) rfl
            have ce1_5_6 := Rw.cell HRe_5.out (j := 1) rfl
            have ce2_5_6 := Rw.cell HRe_5.out (j := 2) rfl
            have ce3_5_6 := Rw.cell HRe_5.out (j := 3) rfl
            have ce4_5_6 := Rw.cell HRe_5.out (j := 4) rfl
            have co0_5_6 := Rw.cell HRo_5.out (j := 0) rfl
            have co1_5_6 := Rw.cell HRo_5.out (j := 1) rfl
            have co2_5_6 := Rw.cell HRo_5.out (j := 2) rfl
            have cf0_5_6 := Rw.cell HRf_5.out (j := 0) rfl
            have cf1_5_6 := Rw.cell HRf_5.out (j := 1) rfl
            have cf2_5_6 := Rw.cell HRf_5.out (j := 2) rfl
            have cf3_5_6 := Rw.cell HRf_5.out (j := 3) rfl
            have cf4_5_6 := Rw.cell HRf_5.out (j := 4) rfl
            go_wp2_with fail
            refine (M3.out _ (tab10_below HT.out HB_5.out)).mono ?_
            rintro e w6 ⟨rfl, hb⟩
            have HB_6 := Lib.hid (below_then HB_5.out hb)
            have HRu_6 := Lib.hid (Rw.below HRu_5.out hb)
            have HRe_6 := Lib.hid (Rw.below HRe_5.out hb)
            have HRo_6 := Lib.hid (Rw.below HRo_5.out hb)
            have HRf_6 := Lib.hid (Rw.below HRf_5.out hb)
            clear hb cu0_5_6 cu1_5_6 cu2_5_6 cu3_5_6 cu4_5_6 cu5_5_6 cu6_5_6 cu7_5_6 cu8_5_6 cu9_5_6 ce0_5_6 ce1_5_6 ce2_5_6 ce3_5_6 ce4_5_6 co0_5_6 co1_5_6 co2_5_6 cf0_5_6 cf1_5_6 cf2_5_6 cf3_5_6 cf4_5_6
            have HBv_6b : Hid (Below w.heap.size w (w6.alloc (.cells #[.int .i64 3, .string ⟨#[104, 116, 116, 112]⟩, .string ⟨#[]⟩, .string ⟨#[]⟩, .string ⟨#[]⟩] 24))) := Lib.hid (below_more HB_6.out _)
            have HRvu_6b : Hid (Rw (w6.alloc (.cells #[.int .i64 3, .string ⟨#[104, 116, 116, 112]⟩, .string ⟨#[]⟩, .string ⟨#[]⟩, .string ⟨#[]⟩] 24)) 0 w1.heap.size 31 [.string S, .string U, .string P, .string H, .int .i64 pt, .string T, .bool hq, .string Q, .bool hf, .string F]) := Lib.hid (Rw.more HRu_6.out _)
            have HRve_6b : Hid (Rw (w6.alloc (.cells #[.int .i64 3, .string ⟨#[104, 116, 116, 112]⟩, .string ⟨#[]⟩, .string ⟨#[]⟩, .string ⟨#[]⟩] 24)) 0 w2.heap.size 24 [.int .i64 k, .string e1, .string e2, .string e3, .string e4]) := Lib.hid (Rw.more HRe_6.out _)
            have HRvo_6b : Hid (Rw (w6.alloc (.cells #[.int .i64 3, .string ⟨#[104, 116, 116, 112]⟩, .string ⟨#[]⟩, .string ⟨#[]⟩, .string ⟨#[]⟩] 24)) 0 w3.heap.size 42 [.string S2, .string H2, .int .i64 p2]) := Lib.hid (Rw.more HRo_6.out _)
            have HRvf_6b : Hid (Rw (w6.alloc (.cells #[.int .i64 3, .string ⟨#[104, 116, 116, 112]⟩, .string ⟨#[]⟩, .string ⟨#[]⟩, .string ⟨#[]⟩] 24)) 0 (w3.heap.size + 1) 24 [.int .i64 k, .string e1, .string e2, .string e3, .string ⟨#[]⟩]) := Lib.hid (Rw.more HRf_6.out _)
            have HRvx_6b : Hid (Rw (w6.alloc (.cells #[.int .i64 3, .string ⟨#[104, 116, 116, 112]⟩, .string ⟨#[]⟩, .string ⟨#[]⟩, .string ⟨#[]⟩] 24)) 0 w6.heap.size 24 [.int .i64 3, .string ⟨#[104, 116, 116, 112]⟩, .string ⟨#[]⟩, .string ⟨#[]⟩, .string ⟨#[]⟩]) := Lib.hid (Rw.alloc w6 _ _ (Nat.zero_le _))
            have cu0_6_7 := Rw.cell HRvu_6b.out (j := 0) rfl
            have cu1_6_7 := Rw.cell HRvu_6b.out (j := 1) rfl
            have cu2_6_7 := Rw.cell HRvu_6b.out (j := 2) rfl
            have cu3_6_7 := Rw.cell HRvu_6b.out (j := 3) rfl
            have cu4_6_7 := Rw.cell HRvu_6b.out (j := 4) rfl
            have cu5_6_7 := Rw.cell HRvu_6b.out (j := 5) rfl
            have cu6_6_7 := Rw.cell HRvu_6b.out (j := 6) rfl
            have cu7_6_7 := Rw.cell HRvu_6b.out (j := 7) rfl
            have cu8_6_7 := Rw.cell HRvu_6b.out (j := 8) rfl
            have cu9_6_7 := Rw.cell HRvu_6b.out (j := 9) rfl
            have ce0_6_7 := Rw.cell HRve_6b.out (j := 0) rfl
            have ce1_6_7 := Rw.cell HRve_6b.out (j := 1) rfl
            have ce2_6_7 := Rw.cell HRve_6b.out (j := 2) rfl
            have ce3_6_7 := Rw.cell HRve_6b.out (j := 3) rfl
            have ce4_6_7 := Rw.cell HRve_6b.out (j := 4) rfl
            have co0_6_7 := Rw.cell HRvo_6b.out (j := 0) rfl
            have co1_6_7 := Rw.cell HRvo_6b.out (j := 1) rfl
            have co2_6_7 := Rw.cell HRvo_6b.out (j := 2) rfl
            have cf0_6_7 := Rw.cell HRvf_6b.out (j := 0) rfl
            have cf1_6_7 := Rw.cell HRvf_6b.out (j := 1) rfl
            have cf2_6_7 := Rw.cell HRvf_6b.out (j := 2) rfl
            have cf3_6_7 := Rw.cell HRvf_6b.out (j := 3) rfl
            have cf4_6_7 := Rw.cell HRvf_6b.out (j := 4) rfl
            have cx0_6_7 := Rw.cell HRvx_6b.out (j := 0) rfl
            have cx1_6_7 := Rw.cell HRvx_6b.out (j := 1) rfl
            have cx2_6_7 := Rw.cell HRvx_6b.out (j := 2) rfl
            have cx3_6_7 := Rw.cell HRvx_6b.out (j := 3) rfl
            have cx4_6_7 := Rw.cell HRvx_6b.out (j := 4) rfl
            have HBv_6c : Hid (Below w.heap.size w ((w6.alloc (.cells #[.int .i64 3, .string ⟨#[104, 116, 116, 112]⟩, .string ⟨#[]⟩, .string ⟨#[]⟩, .string ⟨#[]⟩] 24)).alloc (.cells #[.int .i64 3, .string ⟨#[104, 116, 116, 112, 115]⟩, .string ⟨#[]⟩, .string ⟨#[]⟩, .string ⟨#[]⟩] 24))) := Lib.hid (below_more HBv_6b.out _)
            have HRvu_6c : Hid (Rw ((w6.alloc (.cells #[.int .i64 3, .string ⟨#[104, 116, 116, 112]⟩, .string ⟨#[]⟩, .string ⟨#[]⟩, .string ⟨#[]⟩] 24)).alloc (.cells #[.int .i64 3, .string ⟨#[104, 116, 116, 112, 115]⟩, .string ⟨#[]⟩, .string ⟨#[]⟩, .string ⟨#[]⟩] 24)) 0 w1.heap.size 31 [.string S, .string U, .string P, .string H, .int .i64 pt, .string T, .bool hq, .string Q, .bool hf, .string F]) := Lib.hid (Rw.more HRvu_6b.out _)
            have HRve_6c : Hid (Rw ((w6.alloc (.cells #[.int .i64 3, .string ⟨#[104, 116, 116, 112]⟩, .string ⟨#[]⟩, .string ⟨#[]⟩, .string ⟨#[]⟩] 24)).alloc (.cells #[.int .i64 3, .string ⟨#[104, 116, 116, 112, 115]⟩, .string ⟨#[]⟩, .string ⟨#[]⟩, .string ⟨#[]⟩] 24)) 0 w2.heap.size 24 [.int .i64 k, .string e1, .string e2, .string e3, .string e4]) := Lib.hid (Rw.more HRve_6b.out _)
            have HRvo_6c : Hid (Rw ((w6.alloc (.cells #[.int .i64 3, .string ⟨#[104, 116, 116, 112]⟩, .string ⟨#[]⟩, .string ⟨#[]⟩, .string ⟨#[]⟩] 24)).alloc (.cells #[.int .i64 3, .string ⟨#[104, 116, 116, 112, 115]⟩, .string ⟨#[]⟩, .string ⟨#[]⟩, .string ⟨#[]⟩] 24)) 0 w3.heap.size 42 [.string S2, .string H2, .int .i64 p2]) := Lib.hid (Rw.more HRvo_6b.out _)
            have HRvf_6c : Hid (Rw ((w6.alloc (.cells #[.int .i64 3, .string ⟨#[104, 116, 116, 112]⟩, .string ⟨#[]⟩, .string ⟨#[]⟩, .string ⟨#[]⟩] 24)).alloc (.cells #[.int .i64 3, .string ⟨#[104, 116, 116, 112, 115]⟩, .string ⟨#[]⟩, .string ⟨#[]⟩, .string ⟨#[]⟩] 24)) 0 (w3.heap.size + 1) 24 [.int .i64 k, .string e1, .string e2, .string e3, .string ⟨#[]⟩]) := Lib.hid (Rw.more HRvf_6b.out _)
            have HRvx_6c : Hid (Rw ((w6.alloc (.cells #[.int .i64 3, .string ⟨#[104, 116, 116, 112]⟩, .string ⟨#[]⟩, .string ⟨#[]⟩, .string ⟨#[]⟩] 24)).alloc (.cells #[.int .i64 3, .string ⟨#[104, 116, 116, 112, 115]⟩, .string ⟨#[]⟩, .string ⟨#[]⟩, .string ⟨#[]⟩] 24)) 0 w6.heap.size 24 [.int .i64 3, .string ⟨#[104, 116, 116, 112]⟩, .string ⟨#[]⟩, .string ⟨#[]⟩, .string ⟨#[]⟩]) := Lib.hid (Rw.more HRvx_6b.out _)
            have HRvy_6c : Hid (Rw ((w6.alloc (.cells #[.int .i64 3, .string ⟨#[104, 116, 116, 112]⟩, .string ⟨#[]⟩, .string ⟨#[]⟩, .string ⟨#[]⟩] 24)).alloc (.cells #[.int .i64 3, .string ⟨#[104, 116, 116, 112, 115]⟩, .string ⟨#[]⟩, .string ⟨#[]⟩, .string ⟨#[]⟩] 24)) 0 (w6.heap.size + 1) 24 [.int .i64 3, .string ⟨#[104, 116, 116, 112, 115]⟩, .string ⟨#[]⟩, .string ⟨#[]⟩, .string ⟨#[]⟩]) := Lib.hid (by have h := Rw.alloc (w6.alloc (.cells #[.int .i64 3, .string ⟨#[104, 116, 116, 112]⟩, .string ⟨#[]⟩, .string ⟨#[]⟩, .string ⟨#[]⟩] 24)) 24 #[.int .i64 3, .string ⟨#[104, 116, 116, 112, 115]⟩, .string ⟨#[]⟩, .string ⟨#[]⟩, .string ⟨#[]⟩] (Nat.zero_le (w6.alloc (.cells #[.int .i64 3, .string ⟨#[104, 116, 116, 112]⟩, .string ⟨#[]⟩, .string ⟨#[]⟩, .string ⟨#[]⟩] 24)).heap.size); have hs : (w6.alloc (.cells #[.int .i64 3, .string ⟨#[104, 116, 116, 112]⟩, .string ⟨#[]⟩, .string ⟨#[]⟩, .string ⟨#[]⟩] 24)).heap.size = (w6.heap.size + 1) := (by first | exact Array.size_push .. | (show (Array.push _ _).size = _; rw [Array.size_push]; rfl)); rw [hs] at h; exact h)
            have cu0_6_8 := Rw.cell HRvu_6c.out (j := 0) rfl
            have cu1_6_8 := Rw.cell HRvu_6c.out (j := 1) rfl
            have cu2_6_8 := Rw.cell HRvu_6c.out (j := 2) rfl
            have cu3_6_8 := Rw.cell HRvu_6c.out (j := 3) rfl
            have cu4_6_8 := Rw.cell HRvu_6c.out (j := 4) rfl
            have cu5_6_8 := Rw.cell HRvu_6c.out (j := 5) rfl
            have cu6_6_8 := Rw.cell HRvu_6c.out (j := 6) rfl
            have cu7_6_8 := Rw.cell HRvu_6c.out (j := 7) rfl
            have cu8_6_8 := Rw.cell HRvu_6c.out (j := 8) rfl
            have cu9_6_8 := Rw.cell HRvu_6c.out (j := 9) rfl
            have ce0_6_8 := Rw.cell HRve_6c.out (j := 0) rfl
            have ce1_6_8 := Rw.cell HRve_6c.out (j := 1) rfl
            have ce2_6_8 := Rw.cell HRve_6c.out (j := 2) rfl
            have ce3_6_8 := Rw.cell HRve_6c.out (j := 3) rfl
            have ce4_6_8 := Rw.cell HRve_6c.out (j := 4) rfl
            have co0_6_8 := Rw.cell HRvo_6c.out (j := 0) rfl
            have co1_6_8 := Rw.cell HRvo_6c.out (j := 1) rfl
            have co2_6_8 := Rw.cell HRvo_6c.out (j := 2) rfl
            have cf0_6_8 := Rw.cell HRvf_6c.out (j := 0) rfl
            have cf1_6_8 := Rw.cell HRvf_6c.out (j := 1) rfl
            have cf2_6_8 := Rw.cell HRvf_6c.out (j := 2) rfl
            have cf3_6_8 := Rw.cell HRvf_6c.out (j := 3) rfl
            have cf4_6_8 := Rw.cell HRvf_6c.out (j := 4) rfl
            have cx0_6_8 := Rw.cell HRvx_6c.out (j := 0) rfl
            have cx1_6_8 := Rw.cell HRvx_6c.out (j := 1) rfl
            have cx2_6_8 := Rw.cell HRvx_6c.out (j := 2) rfl
            have cx3_6_8 := Rw.cell HRvx_6c.out (j := 3) rfl
            have cx4_6_8 := Rw.cell HRvx_6c.out (j := 4) rfl
            have cy0_6_8 := Rw.cell HRvy_6c.out (j := 0) rfl
            have cy1_6_8 := Rw.cell HRvy_6c.out (j := 1) rfl
            have cy2_6_8 := Rw.cell HRvy_6c.out (j := 2) rfl
            have cy3_6_8 := Rw.cell HRvy_6c.out (j := 3) rfl
            have cy4_6_8 := Rw.cell HRvy_6c.out (j := 4) rfl
            go_wp2_with fail
            refine (MY.out _ (tab10_below HT.out HBv_6c.out)).mono ?_
            rintro e w7 ⟨rfl, hb⟩
            have HB_7 := Lib.hid (below_then HBv_6c.out hb)
            have HRu_7 := Lib.hid (Rw.below HRvu_6c.out hb)
            have HRe_7 := Lib.hid (Rw.below HRve_6c.out hb)
            have HRo_7 := Lib.hid (Rw.below HRvo_6c.out hb)
            have HRf_7 := Lib.hid (Rw.below HRvf_6c.out hb)
            have HRx_7 := Lib.hid (Rw.below HRvx_6c.out hb)
            have HRy_7 := Lib.hid (Rw.below HRvy_6c.out hb)
            clear hb cu0_6_7 cu1_6_7 cu2_6_7 cu3_6_7 cu4_6_7 cu5_6_7 cu6_6_7 cu7_6_7 cu8_6_7 cu9_6_7 ce0_6_7 ce1_6_7 ce2_6_7 ce3_6_7 ce4_6_7 co0_6_7 co1_6_7 co2_6_7 cf0_6_7 cf1_6_7 cf2_6_7 cf3_6_7 cf4_6_7 cx0_6_7 cx1_6_7 cx2_6_7 cx3_6_7 cx4_6_7 cu0_6_8 cu1_6_8 cu2_6_8 cu3_6_8 cu4_6_8 cu5_6_8 cu6_6_8 cu7_6_8 cu8_6_8 cu9_6_8 ce0_6_8 ce1_6_8 ce2_6_8 ce3_6_8 ce4_6_8 co0_6_8 co1_6_8 co2_6_8 cf0_6_8 cf1_6_8 cf2_6_8 cf3_6_8 cf4_6_8 cx0_6_8 cx1_6_8 cx2_6_8 cx3_6_8 cx4_6_8 cy0_6_8 cy1_6_8 cy2_6_8 cy3_6_8 cy4_6_8
            have cu0_7_9 := Rw.cell HRu_7.out (j := 0) rfl
            have cu1_7_9 := Rw.cell HRu_7.out (j := 1) rfl
            have cu2_7_9 := Rw.cell HRu_7.out (j := 2) rfl
            have cu3_7_9 := Rw.cell HRu_7.out (j := 3) rfl
            have cu4_7_9 := Rw.cell HRu_7.out (j := 4) rfl
            have cu5_7_9 := Rw.cell HRu_7.out (j := 5) rfl
            have cu6_7_9 := Rw.cell HRu_7.out (j := 6) rfl
            have cu7_7_9 := Rw.cell HRu_7.out (j := 7) rfl
            have cu8_7_9 := Rw.cell HRu_7.out (j := 8) rfl
            have cu9_7_9 := Rw.cell HRu_7.out (j := 9) rfl
            have ce0_7_9 := Rw.cell HRe_7.out (j := 0) rfl
            have ce1_7_9 := Rw.cell HRe_7.out (j := 1) rfl
            have ce2_7_9 := Rw.cell HRe_7.out (j := 2) rfl
            have ce3_7_9 := Rw.cell HRe_7.out (j := 3) rfl
            have ce4_7_9 := Rw.cell HRe_7.out (j := 4) rfl
            have co0_7_9 := Rw.cell HRo_7.out (j := 0) rfl
            have co1_7_9 := Rw.cell HRo_7.out (j := 1) rfl
            have co2_7_9 := Rw.cell HRo_7.out (j := 2) rfl
            have cf0_7_9 := Rw.cell HRf_7.out (j := 0) rfl
            have cf1_7_9 := Rw.cell HRf_7.out (j := 1) rfl
            have cf2_7_9 := Rw.cell HRf_7.out (j := 2) rfl
            have cf3_7_9 := Rw.cell HRf_7.out (j := 3) rfl
            have cf4_7_9 := Rw.cell HRf_7.out (j := 4) rfl
            have cx0_7_9 := Rw.cell HRx_7.out (j := 0) rfl
            have cx1_7_9 := Rw.cell HRx_7.out (j := 1) rfl
            have cx2_7_9 := Rw.cell HRx_7.out (j := 2) rfl
            have cx3_7_9 := Rw.cell HRx_7.out (j := 3) rfl
            have cx4_7_9 := Rw.cell HRx_7.out (j := 4) rfl
            have cy0_7_9 := Rw.cell HRy_7.out (j := 0) rfl
            have cy1_7_9 := Rw.cell HRy_7.out (j := 1) rfl
            have cy2_7_9 := Rw.cell HRy_7.out (j := 2) rfl
            have cy3_7_9 := Rw.cell HRy_7.out (j := 3) rfl
            have cy4_7_9 := Rw.cell HRy_7.out (j := 4) rfl
            go_wp2_with fail
            refine (MX.out _ (tab10_below HT.out HB_7.out)).mono ?_
            rintro e w8 ⟨rfl, hb⟩
            have HB_8 := Lib.hid (below_then HB_7.out hb)
            have HRu_8 := Lib.hid (Rw.below HRu_7.out hb)
            have HRe_8 := Lib.hid (Rw.below HRe_7.out hb)
            have HRo_8 := Lib.hid (Rw.below HRo_7.out hb)
            have HRf_8 := Lib.hid (Rw.below HRf_7.out hb)
            have HRx_8 := Lib.hid (Rw.below HRx_7.out hb)
            have HRy_8 := Lib.hid (Rw.below HRy_7.out hb)
            clear hb cu0_7_9 cu1_7_9 cu2_7_9 cu3_7_9 cu4_7_9 cu5_7_9 cu6_7_9 cu7_7_9 cu8_7_9 cu9_7_9 ce0_7_9 ce1_7_9 ce2_7_9 ce3_7_9 ce4_7_9 co0_7_9 co1_7_9 co2_7_9 cf0_7_9 cf1_7_9 cf2_7_9 cf3_7_9 cf4_7_9 cx0_7_9 cx1_7_9 cx2_7_9 cx3_7_9 cx4_7_9 cy0_7_9 cy1_7_9 cy2_7_9 cy3_7_9 cy4_7_9
            have cu0_8_10 := Rw.cell HRu_8.out (j := 0) rfl
            have cu1_8_10 := Rw.cell HRu_8.out (j := 1) rfl
            have cu2_8_10 := Rw.cell HRu_8.out (j := 2) rfl
            have cu3_8_10 := Rw.cell HRu_8.out (j := 3) rfl
            have cu4_8_10 := Rw.cell HRu_8.out (j := 4) rfl
            have cu5_8_10 := Rw.cell HRu_8.out (j := 5) rfl
            have cu6_8_10 := Rw.cell HRu_8.out (j := 6) rfl
            have cu7_8_10 := Rw.cell HRu_8.out (j := 7) rfl
            have cu8_8_10 := Rw.cell HRu_8.out (j := 8) rfl
            have cu9_8_10 := Rw.cell HRu_8.out (j := 9) rfl
            have ce0_8_10 := Rw.cell HRe_8.out (j := 0) rfl
            have ce1_8_10 := Rw.cell HRe_8.out (j := 1) rfl
            have ce2_8_10 := Rw.cell HRe_8.out (j := 2) rfl
            have ce3_8_10 := Rw.cell HRe_8.out (j := 3) rfl
            have ce4_8_10 := Rw.cell HRe_8.out (j := 4) rfl
            have co0_8_10 := Rw.cell HRo_8.out (j := 0) rfl
            have co1_8_10 := Rw.cell HRo_8.out (j := 1) rfl
            have co2_8_10 := Rw.cell HRo_8.out (j := 2) rfl
            have cf0_8_10 := Rw.cell HRf_8.out (j := 0) rfl
            have cf1_8_10 := Rw.cell HRf_8.out (j := 1) rfl
            have cf2_8_10 := Rw.cell HRf_8.out (j := 2) rfl
            have cf3_8_10 := Rw.cell HRf_8.out (j := 3) rfl
            have cf4_8_10 := Rw.cell HRf_8.out (j := 4) rfl
            have cx0_8_10 := Rw.cell HRx_8.out (j := 0) rfl
            have cx1_8_10 := Rw.cell HRx_8.out (j := 1) rfl
            have cx2_8_10 := Rw.cell HRx_8.out (j := 2) rfl
            have cx3_8_10 := Rw.cell HRx_8.out (j := 3) rfl
            have cx4_8_10 := Rw.cell HRx_8.out (j := 4) rfl
            have cy0_8_10 := Rw.cell HRy_8.out (j := 0) rfl
            have cy1_8_10 := Rw.cell HRy_8.out (j := 1) rfl
            have cy2_8_10 := Rw.cell HRy_8.out (j := 2) rfl
            have cy3_8_10 := Rw.cell HRy_8.out (j := 3) rfl
            have cy4_8_10 := Rw.cell HRy_8.out (j := 4) rfl
            go_wp2_with fail
            refine (sawake_any _ (tab10_below HT.out HB_8.out)).mono ?_
            rintro e w9 ⟨rfl, hb⟩
            have HB_9 := Lib.hid (below_then HB_8.out hb)
            have HRu_9 := Lib.hid (Rw.below HRu_8.out hb)
            have HRe_9 := Lib.hid (Rw.below HRe_8.out hb)
            have HRo_9 := Lib.hid (Rw.below HRo_8.out hb)
            have HRf_9 := Lib.hid (Rw.below HRf_8.out hb)
            have HRx_9 := Lib.hid (Rw.below HRx_8.out hb)
            have HRy_9 := Lib.hid (Rw.below HRy_8.out hb)
            clear hb cu0_8_10 cu1_8_10 cu2_8_10 cu3_8_10 cu4_8_10 cu5_8_10 cu6_8_10 cu7_8_10 cu8_8_10 cu9_8_10 ce0_8_10 ce1_8_10 ce2_8_10 ce3_8_10 ce4_8_10 co0_8_10 co1_8_10 co2_8_10 cf0_8_10 cf1_8_10 cf2_8_10 cf3_8_10 cf4_8_10 cx0_8_10 cx1_8_10 cx2_8_10 cx3_8_10 cx4_8_10 cy0_8_10 cy1_8_10 cy2_8_10 cy3_8_10 cy4_8_10
            have cu0_9_11 := Rw.cell HRu_9.out (j := 0) rfl
            have cu1_9_11 := Rw.cell HRu_9.out (j := 1) rfl
            have cu2_9_11 := Rw.cell HRu_9.out (j := 2) rfl
            have cu3_9_11 := Rw.cell HRu_9.out (j := 3) rfl
            have cu4_9_11 := Rw.cell HRu_9.out (j := 4) rfl
            have cu5_9_11 := Rw.cell HRu_9.out (j := 5) rfl
            have cu6_9_11 := Rw.cell HRu_9.out (j := 6) rfl
            have cu7_9_11 := Rw.cell HRu_9.out (j := 7) rfl
            have cu8_9_11 := Rw.cell HRu_9.out (j := 8) rfl
            have cu9_9_11 := Rw.cell HRu_9.out (j := 9) rfl
            have ce0_9_11 := Rw.cell HRe_9.out (j := 0) rfl
            have ce1_9_11 := Rw.cell HRe_9.out (j := 1) rfl
            have ce2_9_11 := Rw.cell HRe_9.out (j := 2) rfl
            have ce3_9_11 := Rw.cell HRe_9.out (j := 3) rfl
            have ce4_9_11 := Rw.cell HRe_9.out (j := 4) rfl
            have co0_9_11 := Rw.cell HRo_9.out (j := 0) rfl
            have co1_9_11 := Rw.cell HRo_9.out (j := 1) rfl
            have co2_9_11 := Rw.cell HRo_9.out (j := 2) rfl
            have cf0_9_11 := Rw.cell HRf_9.out (j := 0) rfl
            have cf1_9_11 := Rw.cell HRf_9.out (j := 1) rfl
            have cf2_9_11 := Rw.cell HRf_9.out (j := 2) rfl
            have cf3_9_11 := Rw.cell HRf_9.out (j := 3) rfl
            have cf4_9_11 := Rw.cell HRf_9.out (j := 4) rfl
            have cx0_9_11 := Rw.cell HRx_9.out (j := 0) rfl
            have cx1_9_11 := Rw.cell HRx_9.out (j := 1) rfl
            have cx2_9_11 := Rw.cell HRx_9.out (j := 2) rfl
            have cx3_9_11 := Rw.cell HRx_9.out (j := 3) rfl
            have cx4_9_11 := Rw.cell HRx_9.out (j := 4) rfl
            have cy0_9_11 := Rw.cell HRy_9.out (j := 0) rfl
            have cy1_9_11 := Rw.cell HRy_9.out (j := 1) rfl
            have cy2_9_11 := Rw.cell HRy_9.out (j := 2) rfl
            have cy3_9_11 := Rw.cell HRy_9.out (j := 3) rfl
            have cy4_9_11 := Rw.cell HRy_9.out (j := 4) rfl
            go_wp2_with fail
            go_ret
            exact ⟨rfl, HB_9.out⟩

theorem sourceWider_own : ownKnob Tryz.prog.godebug = none := by kernel_rfl

theorem sourceWider_contract (H : Type) (enc : TypeId × Value → H) (W : World) (base : Nat) (args : Array Value) (ds gs : List (DataW H)) (before : List MemPlace)
    (hval0 : ∀ (j : Nat) t v, Tryz.f6.params[j]? = some t → args[j]? = some v → Value.okWide Tryz.prog W .any base t v)
    (hW : DataW.Whole enc Tryz.prog Tryz.f6.params.toList Rows.sourceWiderSpec.vars false W args.toList ds gs before) {vt : List TypeId}
    (hsz0 : (DataW.weightsEach Tryz.prog (Tryz.f6.params.toList ++ vt) (ds ++ gs)).all (· ≤ reachBytes) = true) (hL : laidMetH Tryz.prog Rows.sourceWiderRow.laid W) :
    Calls Tryz.prog 6 args W fun e W' => ∃ v, e = .returned v ∧ Rows.sourceWiderSpec.post enc Tryz.prog Tryz.f6 false true false false W args v W' := by
  refine law_contract (by kernel_rfl) (of_decide_eq_true (by kernel_rfl)) (tb := 4) (by kernel_rfl) Tryz.underlying4 rfl (fun ds h => by match ds, h with | [d0, d1, d2], _ => exact ⟨rfl, rfl, rfl⟩) hW hsz0 ?_
  intro p hA0 hlt hszz
  have hval := hval0
  have hA : DataW.TrodAll enc Tryz.prog W 0 (fun _ => true) true Tryz.f6.params.toList args.toList ds p := hA0
  have hsz : (DataW.weightsEach Tryz.prog Tryz.f6.params.toList ds).all (· ≤ reachBytes) = true := hszz
  clear hval0 hA0 hszz hsz0 hW
  rw [Tryz.params6] at hA hval hsz
  obtain ⟨v0, vs0, d0, ds0, p0, q0, hargs, rfl, rfl, h0, r0⟩ := trodAll_cons hA
  obtain ⟨v1, vs1, d1, ds1, p1, q1, rfl, rfl, rfl, h1, r1⟩ := trodAll_cons r0
  obtain ⟨v2, vs2, d2, ds2, p2, q2, rfl, rfl, rfl, h2, r2⟩ := trodAll_cons r1
  obtain ⟨rfl, rfl, rfl⟩ := trodAll_nil r2
  obtain rfl : args = #[v0, v1, v2] := by cases args; simp_all
  obtain ⟨a0, rfl, rfl, rfl, w0⟩ := open_string Tryz.underlying9 (hval 0 9 v0 rfl rfl) h0
  have z0 := sized_string hsz (j := 0) rfl rfl
  rw [size_data] at z0
  obtain ⟨a1, rfl, rfl, rfl, w1⟩ := open_string Tryz.underlying9 (hval 1 9 v1 rfl rfl) h1
  have z1 := sized_string hsz (j := 1) rfl rfl
  rw [size_data] at z1
  obtain ⟨a2, rfl, rfl, rfl, w2⟩ := open_string Tryz.underlying9 (hval 2 9 v2 rfl rfl) h2
  have z2 := sized_string hsz (j := 2) rfl rfl
  rw [size_data] at z2
  exact sourceWider_any (w := W) a0 z0 a1 z1 a2 z2 (tab10_of15 hL)

noncomputable def sourceWider_world (os : Os) : World := laidIn Tryz.prog Rows.sourceWiderRow.laid (World.holding Tryz.prog os ⟨#[], #[], []⟩)

theorem sourceWider_met (os : Os) : laidMet Tryz.prog Rows.sourceWiderRow.laid ((sourceWider_world os).forCall (fun _ _ => 0) ⟨#[], #[.string ByteArray.empty, .string ByteArray.empty, .string ByteArray.empty], []⟩).memory :=
  laidMet_of_run' 8 (by kernel_rfl) (by kernel_rfl)

theorem sourceWider_reads (os : Os) {H : Type} (enc : TypeId × Value → H) : ∃ places, DataW.whole enc Tryz.prog ((sourceWider_world os).forCall (fun _ _ => 0) ⟨#[], #[.string ByteArray.empty, .string ByteArray.empty, .string ByteArray.empty], []⟩).memory Tryz.f6.params.toList Rows.sourceWiderSpec.vars false (#[.string ByteArray.empty, .string ByteArray.empty, .string ByteArray.empty] : Array Value).toList 8 = some ([.lit (.string []), .lit (.string []), .lit (.string [])], [], places) :=
  ⟨[], by kernel_rfl⟩

set_option maxRecDepth 100000 in
theorem sourceWider_lifted (os : Os) (started : os.Started) (H : Type) (enc : TypeId × Value → H) (F : Stop.Interp) :
    ReturnsInHanded {} Tryz.checked os 6 .any ((OpenSpec.ofChange Rows.sourceWiderSpec).preRow enc Tryz.prog Tryz.f6 Rows.sourceWiderRow.domain false Rows.sourceWiderRow.laid) (((OpenSpec.ofChange Rows.sourceWiderSpec).at F).post enc Tryz.prog Tryz.f6 false true false false) := by
  obtain ⟨places, hx⟩ := sourceWider_reads os enc
  refine returnsInHanded_of_row (C := Tryz.checked) (s := OpenSpec.ofChange Rows.sourceWiderSpec) sourceWider_own started (by kernel_rfl) Tryz.func6
    (witness_row_at (enc := enc) (C := Tryz.checked) false (sourceWider_world os) #[.string ByteArray.empty, .string ByteArray.empty, .string ByteArray.empty] rfl (by kernel_rfl) (by kernel_rfl) (by kernel_rfl)
      (OpenSpec.preRow_of_cond 8 hx (by kernel_rfl) (fun k hk => by cases hk) (by kernel_rfl) (sourceWider_met os))) ?_
  intro W base args ds gs before hval hW _ _ hsz hL _ _
  exact sourceWider_contract H enc W base args ds gs before hval hW hsz hL

theorem sourceWider_said : Rows.SourceWiderSaid :=
  OpenClaim.holds_of_cond 6 Tryz.f6 rfl rfl rfl rfl rfl rfl rfl ⟨rfl, rfl, rfl, rfl, rfl⟩ rfl rfl rfl rfl rfl (by kernel_rfl) Tryz.func6 (by kernel_rfl)
    (of_decide_eq_true (by kernel_rfl)) (by unfold Func.isWrapper; first | (rw [if_pos (by decide +kernel)]; kernel_rfl) | (rw [if_neg (by decide +kernel)]; exact ⟨rfl, rfl⟩))
    (fun os started H enc _ F => by rw [OpenClaim.pre_eq_preRow]; exact sourceWider_lifted os started H enc F)

theorem sourceWider_plain (f : FuncId) (fn : Func) (hf : Tryz.pinned.checked.prog.funcNamed Tryz.f6.name = some f) (hfn : Tryz.pinned.checked.prog.funcs[f]? = some fn) :
    false = Tryz.pinned.checked.prog.looks [] ∧ ∀ (j : Nat) t, fn.params[j]? = some t → Tryz.pinned.checked.prog.wantsStandIn t = false := by
  obtain rfl : f = 6 := Option.some.inj ((show Tryz.prog.funcNamed Tryz.f6.name = some 6 by kernel_rfl).symm.trans hf) |>.symm
  obtain rfl : fn = Tryz.f6 := (Option.some.inj (Tryz.func6.symm.trans hfn)).symm
  refine ⟨by kernel_rfl, fun j t ht => ?_⟩
  have hall : ∀ t ∈ Tryz.f6.params, Tryz.prog.wantsStandIn t = false := of_decide_eq_true (by kernel_rfl)
  exact hall t (Array.mem_of_getElem? ht)

theorem sourceWider_card : Rows.SourceWiderCardSaid :=
  Claim7.holds_tied_plain_at .later [] _ _ _ _ sourceWider_said (fun _ h => by cases h) (by kernel_rfl) (fun _ h => by cases h) sourceWider_row_tie rfl ⟨rfl, rfl⟩ (by kernel_rfl) rfl sourceWider_plain (by kernel_rfl)
#print axioms sourceWider_card

end Go.Proofs.YtnecjofgjbfheaaGreatDoor
