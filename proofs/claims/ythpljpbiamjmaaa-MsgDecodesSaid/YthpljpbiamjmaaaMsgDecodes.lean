/-
  MsgDecodes: for every slice of bytes, the code's Decode and the reference's read the same message and tell the same code; the law returns true, and what was there has not turned. No condition.
-/
import Derived.BigRegion
import Derived.Deep.RegionHeld3
import Derived.Deep.CutBlock
import Derived.Deep.AppendLies
import Derived.Test.YthpljpbiamjmaaaProg
import Derived.Test.YthpljpbiamjmaaaKit
import Derived.Test.YthpljpbiamjmaaaLaw
import Derived.Test.YthpljpbiamjmaaaRow
import Derived.Test.YthpljpbiamjmaaaCod7
import Derived.Test.YthpljpbiamjmaaaCod9
import Derived.Test.YthpljpbiamjmaaaLaw2
import Derived.Test.YthpljpbiamjmaaaTxt2
import Derived.Test.YthpljpbiamjmaaaFrm4
import Derived.Test.YthpljpbiamjmaaaFrm6
import Derived.Test.YthpljpbiamjmaaaFp
import Derived.Test.YthpljpbiamjmaaaRdk1
import Derived.Test.YthpljpbiamjmaaaNet0
import Derived.Test.YthpljpbiamjmaaaKp0
import Derived.Test.YthpljpbiamjmaaaKp1
import Derived.Test.YthpljpbiamjmaaaMg0
import Derived.Test.YthpljpbiamjmaaaMg5
import Derived.Test.YthpljpbiamjmaaaMg10
import Derived.Test.YthpljpbiamjmaaaMr2
import Derived.Test.YthpljpbiamjmaaaMd1
import Derived.Test.YthpljpbiamjmaaaMl1
import Derived.Test.YthpljpbiamjmaaaMr6e
import Derived.Test.YthpljpbiamjmaaaMr9
namespace Go.Proofs.Ythpljpbiamjmaaa
open Go.RowKit Go.Proofs
open Go.ChangeShapes Go.WideShapes Go.ChangeAt Go.RowKit Go.Proofs
open Go.ChangeMaps (open_string shut_string)

set_option maxRecDepth 100000 in
set_option maxHeartbeats 16000000 in
theorem rdec_k1 {w : World} {v : Value} {l : List UInt8} (h : ByteSl w w.heap.size v l) (hl : l.length ≤ 20000) (hk : (headE l).1.kd = 1) :
    Calls Try.prog 14 #[v] w fun e w' => RDec w w' e l := by
  have hz := zero_cells Try.infoMsg
  obtain ⟨ba, bc, rfl, _⟩ := byteSl_len h
  have hS0 := dst_start h
  have HBY0 := Lib.hid (bySl_of h)
  obtain ⟨LB, hLB⟩ : ∃ LB, LB = l.length := ⟨_, rfl⟩
  rw [← hLB] at hS0 HBY0 ⊢
  have HL : Hid (l.length ≤ 1000000) := Lib.hid (by omega)
  obtain ⟨gR, hgR⟩ : ∃ gR, gR = w.heap.size := ⟨_, rfl⟩
  obtain ⟨gE, hgE⟩ : ∃ gE, gE = w.heap.size + 1 := ⟨_, rfl⟩
  obtain ⟨w0, hw0⟩ : ∃ w0, w0 = (w.alloc (.cells #[.int .i64 0, .int .i64 0, .int .i64 0, .int .i64 0, .int .i64 0, .int .i64 0, .int .i64 0, .bool false, .slice none 0 0, .int .i64 0, .int .i64 0, .slice none 0 0, .string ⟨#[]⟩] 27)).alloc (.cells #[.slice ba LB bc, .int .i64 0, .bool false] 63) := ⟨_, rfl⟩
  rw [← hw0, ← hgE, ← hgR] at hS0
  have HS0 := Lib.hid hS0
  obtain ⟨q1, e1⟩ : ∃ p, p = numE l 1 (0, false) := ⟨_, rfl⟩
  obtain ⟨kd, s1⟩ := q1
  obtain ⟨q2, e2⟩ : ∃ p, p = numE l 8 s1 := ⟨_, rfl⟩
  obtain ⟨fr, s2⟩ := q2
  obtain ⟨q3, e3⟩ : ∃ p, p = numE l 8 s2 := ⟨_, rfl⟩
  obtain ⟨tq, s3⟩ := q3
  obtain ⟨q4, e4⟩ : ∃ p, p = numE l 8 s3 := ⟨_, rfl⟩
  obtain ⟨tm, s4⟩ := q4
  have hh : headE l = (⟨kd, fr, tq, tm, 0, 0, 0, false, [], zeroSn⟩, s4) := by unfold headE; rw [← e1]; dsimp only; rw [← e2]; dsimp only; rw [← e3]; dsimp only; rw [← e4]
  have HH := Lib.hid hh
  rw [hh] at hk
  dsimp only at hk
  obtain rfl : kd = 1 := hk
  have HN1 := Lib.hid (eynum_any hS0.2.1 1 (by decide) HL.out)
  rw [← e1] at HN1
  have E2 := Lib.hid e2
  have E3 := Lib.hid e3
  have E4 := Lib.hid e4
  have HW0 := Lib.hid hw0
  have HGR := Lib.hid hgR
  have HGE := Lib.hid hgE
  have HLB := Lib.hid hLB
  clear h hl hS0 hh e1 e2 e3 e4 hLB hw0 hgR hgE 
  go_enter Try.func14, Try.ntmps14
  go_upto_region 2 with (first | (refine wpList_alloc_z rfl 27 rfl #[.int .i64 0, .int .i64 0, .int .i64 0, .int .i64 0, .int .i64 0, .int .i64 0, .int .i64 0, .bool false, .slice none 0 0, .int .i64 0, .int .i64 0, .slice none 0 0, .string ⟨#[]⟩] hz ?_) | fail)
  rw [← HW0.out, ← HGE.out, ← HGR.out]
  go_wp2_with fail
  refine (HN1.out).mono ?_
  rintro e w1 ⟨rfl, hv1⟩
  have HS1 := Lib.hid (ds0_num HS0.out hv1)
  have HN2 := Lib.hid (eynum_any hv1.1 8 (by decide) HL.out)
  rw [← E2.out] at HN2
  clear hv1 HN1
  go_wp2_with fail
  refine (HN2.out).mono ?_
  rintro e w2 ⟨rfl, hv2⟩
  have HS2 := Lib.hid (ds0_num HS1.out hv2)
  have HN3 := Lib.hid (eynum_any hv2.1 8 (by decide) HL.out)
  rw [← E3.out] at HN3
  clear hv2 HN2
  go_wp2_with fail
  refine (HN3.out).mono ?_
  rintro e w3 ⟨rfl, hv3⟩
  have HS3 := Lib.hid (ds0_num HS2.out hv3)
  have HN4 := Lib.hid (eynum_any hv3.1 8 (by decide) HL.out)
  rw [← E4.out] at HN4
  clear hv3 HN3
  go_wp2_with fail
  refine (HN4.out).mono ?_
  rintro e w4 ⟨rfl, hv4⟩
  have HS4 := Lib.hid (ds0_num HS3.out hv4)
  clear hv4 HN4
  obtain ⟨gM, hgM⟩ : ∃ gM, gM = w4.heap.size := ⟨_, rfl⟩
  obtain ⟨w5, hw5⟩ : ∃ w5, w5 = w4.alloc (.cells #[.int .i64 1, .int .i64 fr, .int .i64 tq, .int .i64 tm, .int .i64 0, .int .i64 0, .int .i64 0, .bool false, .slice none 0 0, .int .i64 0, .int .i64 0, .slice none 0 0, .string ⟨#[]⟩] 27) := ⟨_, rfl⟩
  have hS5 := dst_new HS4.out [.int .i64 1, .int .i64 fr, .int .i64 tq, .int .i64 tm, .int .i64 0, .int .i64 0, .int .i64 0, .bool false, .slice none 0 0, .int .i64 0, .int .i64 0, .slice none 0 0, .string ⟨#[]⟩]
  rw [← hw5, ← hgM] at hS5
  have HS5 := Lib.hid hS5
  have HW5 := Lib.hid hw5
  have HGM := Lib.hid hgM
  clear hS5 hw5 hgM
  go_upto_region 3 with (first | (refine wpList_alloc_z rfl 27 rfl #[.int .i64 0, .int .i64 0, .int .i64 0, .int .i64 0, .int .i64 0, .int .i64 0, .int .i64 0, .bool false, .slice none 0 0, .int .i64 0, .int .i64 0, .slice none 0 0, .string ⟨#[]⟩] hz ?_) | fail)
  rw [← HW5.out, ← HGM.out]
  have c0 := Rw.cell HS5.out.2.1 (j := 0) (v := (.int .i64 1)) rfl
  obtain ⟨qE5, eE5⟩ : ∃ p, p = numE l 8 s4 := ⟨_, rfl⟩
  obtain ⟨ix, s5⟩ := qE5
  have E5 := Lib.hid eE5
  clear eE5
  obtain ⟨qE6, eE6⟩ : ∃ p, p = numE l 8 s5 := ⟨_, rfl⟩
  obtain ⟨lt, s6⟩ := qE6
  have E6 := Lib.hid eE6
  clear eE6
  have HQ := Lib.hid (eynum_any HS5.out.1.2.1 8 (by decide) HL.out)
  rw [← E5.out] at HQ
  go_wp2_with fail
  refine (HQ.out).mono ?_
  rintro e wq5 ⟨rfl, hv5⟩
  have Hs5 := Lib.hid (dst_num HS5.out hv5)
  have cc := Rw.cell Hs5.out.2.1 (j := 4) (v := (.int .i64 0)) rfl
  have ff := Rw.free Hs5.out.2.1 4
  clear hv5 HQ
  go_upto_region 6 with fail
  obtain ⟨wr5, hwr5⟩ : ∃ wr, wr = wq5.setCell ⟨gM, 4, none⟩ (.int .i64 ix) := ⟨_, rfl⟩
  have hS5 := dst_set Hs5.out 4 (.int .i64 ix)
  rw [← hwr5] at hS5 ⊢
  have HU5 : Hid (DSt w wr5 gR gE gM l s5 [.int .i64 1, .int .i64 fr, .int .i64 tq, .int .i64 tm, .int .i64 ix, .int .i64 0, .int .i64 0, .bool false, .slice none 0 0, .int .i64 0, .int .i64 0, .slice none 0 0, .string ⟨#[]⟩]) := Lib.hid hS5
  clear hwr5 hS5 cc ff
  have HQ := Lib.hid (eynum_any HU5.out.1.2.1 8 (by decide) HL.out)
  rw [← E6.out] at HQ
  go_wp2_with fail
  refine (HQ.out).mono ?_
  rintro e wq6 ⟨rfl, hv6⟩
  have Hs6 := Lib.hid (dst_num HU5.out hv6)
  have cc := Rw.cell Hs6.out.2.1 (j := 5) (v := (.int .i64 0)) rfl
  have ff := Rw.free Hs6.out.2.1 5
  clear hv6 HQ
  go_upto_region 29 with fail
  obtain ⟨wr6, hwr6⟩ : ∃ wr, wr = wq6.setCell ⟨gM, 5, none⟩ (.int .i64 lt) := ⟨_, rfl⟩
  have hS6 := dst_set Hs6.out 5 (.int .i64 lt)
  rw [← hwr6] at hS6 ⊢
  have HU6 : Hid (DSt w wr6 gR gE gM l s6 [.int .i64 1, .int .i64 fr, .int .i64 tq, .int .i64 tm, .int .i64 ix, .int .i64 lt, .int .i64 0, .bool false, .slice none 0 0, .int .i64 0, .int .i64 0, .slice none 0 0, .string ⟨#[]⟩]) := Lib.hid hS6
  clear hwr6 hS6 cc ff
  have HRF : Hid (refE l = ((⟨1, fr, tq, tm, ix, lt, 0, false, [], zeroSn⟩ : MsgM), s6)) := Lib.hid (by unfold refE; rw [HH.out]; unfold bodyE; dsimp only; rw [if_pos rfl, ← E5.out]; dsimp only; rw [← E6.out])
  have HSM : Hid (smallM (⟨1, fr, tq, tm, ix, lt, 0, false, [], zeroSn⟩ : MsgM)) := Lib.hid (by have h1 := refE_small l; rw [HRF.out] at h1; exact h1)
  have HAT : Hid (MsgAt wr6 (.slice none 0 0) (.slice none 0 0) (⟨1, fr, tq, tm, ix, lt, 0, false, [], zeroSn⟩ : MsgM)) := Lib.hid (msgAt_nil wr6 rfl rfl)
  have HEN := Lib.hid (rencode_any HAT.out HSM.out)
  unfold msgV at HEN
  dsimp only [zeroSn] at HEN
  obtain ⟨m, hm⟩ : ∃ m : MsgM, m = (⟨1, fr, tq, tm, ix, lt, 0, false, [], zeroSn⟩ : MsgM) := ⟨_, rfl⟩
  have HEN2 : Hid (Calls Try.prog 11 #[.agg #[.int .i64 1, .int .i64 fr, .int .i64 tq, .int .i64 tm, .int .i64 ix, .int .i64 lt, .int .i64 0, .bool false, .slice none 0 0, .int .i64 0, .int .i64 0, .slice none 0 0, .string ⟨#[]⟩]] wr6 fun e w' => EncV wr6 w' e m) := Lib.hid (by rw [hm]; exact HEN.out)
  have HM := Lib.hid hm
  clear HEN hm
  obtain ⟨i9, bad⟩ := s6
  clear c0
  go_wp2_with (first | (refine wpList_load_mid rfl 27 _ rfl gM 0 rfl [.int .i64 1, .int .i64 fr, .int .i64 tq, .int .i64 tm, .int .i64 ix, .int .i64 lt, .int .i64 0, .bool false, .slice none 0 0, .int .i64 0, .int .i64 0, .slice none 0 0, .string ⟨#[]⟩] _ (Rw.whole HU6.out.2.1) Try.underlying27 rfl Try.sizeMsg ?_) | fail)
  refine (HEN2.out).mono ?_
  rintro e wA ⟨vA, rfl, hoA, hbA⟩
  have HSA := Lib.hid (dst_below HU6.out hbA)
  obtain ⟨aA, cA, rfl⟩ := own_len hoA
  have HBA := Lib.hid (bySl_of (own_sl hoA))
  have HB0 := Lib.hid (bySl_below HBY0.out (HSA.out.1.1.mono (Nat.le_refl _)))
  have hx := eyAt_cell HSA.out.1.2.1
  dsimp only at hx
  clear hoA hbA HEN2
  obtain ⟨NA, hNA⟩ : ∃ NA, NA = (encW m).length := ⟨_, rfl⟩
  rw [← hNA] at HBA ⊢
  cases bad with
  | true =>
    have HOK := Lib.hid (okE_bad HRF.out)
    clear hNA
    go_wp2_with (first | (refine wpList_alloc_z rfl 27 rfl #[.int .i64 0, .int .i64 0, .int .i64 0, .int .i64 0, .int .i64 0, .int .i64 0, .int .i64 0, .bool false, .slice none 0 0, .int .i64 0, .int .i64 0, .slice none 0 0, .string ⟨#[]⟩] hz ?_) | (refine wpList_store_mid rfl 27 _ _ rfl gR 0 #[.int .i64 0, .int .i64 0, .int .i64 0, .int .i64 0, .int .i64 0, .int .i64 0, .int .i64 0, .bool false, .slice none 0 0, .int .i64 0, .int .i64 0, .slice none 0 0, .string ⟨#[]⟩] rfl rfl (Rw.there HSA.out.1.2.2.1 0 _ (by simp)) Try.sizeMsg (msg_one _ _ _ _ _ _ _ _ _ _ _ _ _ _ _ _ _) ?_) | fail)
    have HEND := Lib.hid (Rw.storedAll HSA.out.1.2.2.1 [.int .i64 0, .int .i64 0, .int .i64 0, .int .i64 0, .int .i64 0, .int .i64 0, .int .i64 0, .bool false, .slice none 0 0, .int .i64 0, .int .i64 0, .slice none 0 0, .string ⟨#[]⟩] rfl)
    refine bodyPost_ret (v := .tuple #[.agg #[.int .i64 0, .int .i64 0, .int .i64 0, .int .i64 0, .int .i64 0, .int .i64 0, .int .i64 0, .bool false, .slice none 0 0, .int .i64 0, .int .i64 0, .slice none 0 0, .string ⟨#[]⟩], .int .i64 7]) ?_ rfl ?_
    case refine_2 => exact rdec_no HOK.out (below_stores HSA.out.1.1 HSA.out.1.2.2.2.1 _)
    exact results_row_tmp rfl _ _ gR 0 27 [.int .i64 0, .int .i64 0, .int .i64 0, .int .i64 0, .int .i64 0, .int .i64 0, .int .i64 0, .bool false, .slice none 0 0, .int .i64 0, .int .i64 0, .slice none 0 0, .string ⟨#[]⟩] _ rfl HEND.out Try.underlying27 rfl Try.sizeMsg (.int .i64 7) rfl
  | false =>
    rcases (show codW m = 0 ∨ codW m = 1 by unfold codW; split <;> simp) with hc | hc
    · rw [hc]
      have HC := Lib.hid hc
      have hcv1 := run_convert_bysl 30 5 9 Try.underlying30 Try.underlying5 Try.underlying9 HBA.out
      have hcv2 := run_convert_bysl 30 5 9 Try.underlying30 Try.underlying5 Try.underlying9 HB0.out
      have heq := name_eq (encW m) l
      obtain ⟨X, hX⟩ : ∃ X : ByteArray, X = ⟨(encW m).toArray⟩ := ⟨_, rfl⟩
      obtain ⟨Y, hY⟩ : ∃ Y : ByteArray, Y = ⟨l.toArray⟩ := ⟨_, rfl⟩
      rw [← hX] at hcv1 heq
      rw [← hY] at hcv2 heq
      clear hX hY hNA hc
      by_cases hen : encW m = l
      · rw [decide_eq_true hen] at heq
        have HOK := Lib.hid (okE_all HRF.out (by rw [← HM.out]; exact HC.out) (by rw [← HM.out]; exact hen))
        clear hen
        go_wp2_with (first | (refine wpList_load_mid rfl 27 _ rfl gM 0 rfl [.int .i64 1, .int .i64 fr, .int .i64 tq, .int .i64 tm, .int .i64 ix, .int .i64 lt, .int .i64 0, .bool false, .slice none 0 0, .int .i64 0, .int .i64 0, .slice none 0 0, .string ⟨#[]⟩] _ (Rw.whole HSA.out.2.1) Try.underlying27 rfl Try.sizeMsg ?_) | (refine wpList_store_mid rfl 27 _ _ rfl gR 0 #[.int .i64 1, .int .i64 fr, .int .i64 tq, .int .i64 tm, .int .i64 ix, .int .i64 lt, .int .i64 0, .bool false, .slice none 0 0, .int .i64 0, .int .i64 0, .slice none 0 0, .string ⟨#[]⟩] rfl rfl (Rw.there HSA.out.1.2.2.1 0 _ (by simp)) Try.sizeMsg (msg_one _ _ _ _ _ _ _ _ _ _ _ _ _ _ _ _ _) ?_) | fail)
        have HEND := Lib.hid (Rw.storedAll HSA.out.1.2.2.1 [.int .i64 1, .int .i64 fr, .int .i64 tq, .int .i64 tm, .int .i64 ix, .int .i64 lt, .int .i64 0, .bool false, .slice none 0 0, .int .i64 0, .int .i64 0, .slice none 0 0, .string ⟨#[]⟩] rfl)
        refine bodyPost_ret (v := .tuple #[.agg #[.int .i64 1, .int .i64 fr, .int .i64 tq, .int .i64 tm, .int .i64 ix, .int .i64 lt, .int .i64 0, .bool false, .slice none 0 0, .int .i64 0, .int .i64 0, .slice none 0 0, .string ⟨#[]⟩], .int .i64 0]) ?_ rfl ?_
        case refine_2 => exact rdec_yes HOK.out (congrArg Prod.fst HRF.out) (msgAt_nil _ rfl rfl) (below_stores HSA.out.1.1 HSA.out.1.2.2.2.1 _)
        exact results_row_tmp rfl _ _ gR 0 27 [.int .i64 1, .int .i64 fr, .int .i64 tq, .int .i64 tm, .int .i64 ix, .int .i64 lt, .int .i64 0, .bool false, .slice none 0 0, .int .i64 0, .int .i64 0, .slice none 0 0, .string ⟨#[]⟩] _ rfl HEND.out Try.underlying27 rfl Try.sizeMsg (.int .i64 0) rfl
      · rw [decide_eq_false hen] at heq
        have HOK := Lib.hid (okE_enc HRF.out (by rw [← HM.out]; exact hen))
        clear hen
        go_wp2_with (first | (refine wpList_alloc_z rfl 27 rfl #[.int .i64 0, .int .i64 0, .int .i64 0, .int .i64 0, .int .i64 0, .int .i64 0, .int .i64 0, .bool false, .slice none 0 0, .int .i64 0, .int .i64 0, .slice none 0 0, .string ⟨#[]⟩] hz ?_) | (refine wpList_store_mid rfl 27 _ _ rfl gR 0 #[.int .i64 0, .int .i64 0, .int .i64 0, .int .i64 0, .int .i64 0, .int .i64 0, .int .i64 0, .bool false, .slice none 0 0, .int .i64 0, .int .i64 0, .slice none 0 0, .string ⟨#[]⟩] rfl rfl (Rw.there HSA.out.1.2.2.1 0 _ (by simp)) Try.sizeMsg (msg_one _ _ _ _ _ _ _ _ _ _ _ _ _ _ _ _ _) ?_) | fail)
        have HEND := Lib.hid (Rw.storedAll HSA.out.1.2.2.1 [.int .i64 0, .int .i64 0, .int .i64 0, .int .i64 0, .int .i64 0, .int .i64 0, .int .i64 0, .bool false, .slice none 0 0, .int .i64 0, .int .i64 0, .slice none 0 0, .string ⟨#[]⟩] rfl)
        refine bodyPost_ret (v := .tuple #[.agg #[.int .i64 0, .int .i64 0, .int .i64 0, .int .i64 0, .int .i64 0, .int .i64 0, .int .i64 0, .bool false, .slice none 0 0, .int .i64 0, .int .i64 0, .slice none 0 0, .string ⟨#[]⟩], .int .i64 7]) ?_ rfl ?_
        case refine_2 => exact rdec_no HOK.out (below_stores HSA.out.1.1 HSA.out.1.2.2.2.1 _)
        exact results_row_tmp rfl _ _ gR 0 27 [.int .i64 0, .int .i64 0, .int .i64 0, .int .i64 0, .int .i64 0, .int .i64 0, .int .i64 0, .bool false, .slice none 0 0, .int .i64 0, .int .i64 0, .slice none 0 0, .string ⟨#[]⟩] _ rfl HEND.out Try.underlying27 rfl Try.sizeMsg (.int .i64 7) rfl
    · rw [hc]
      have HOK := Lib.hid (okE_cod HRF.out (by rw [← HM.out, hc]; decide))
      clear hNA hc
      go_wp2_with (first | (refine wpList_alloc_z rfl 27 rfl #[.int .i64 0, .int .i64 0, .int .i64 0, .int .i64 0, .int .i64 0, .int .i64 0, .int .i64 0, .bool false, .slice none 0 0, .int .i64 0, .int .i64 0, .slice none 0 0, .string ⟨#[]⟩] hz ?_) | (refine wpList_store_mid rfl 27 _ _ rfl gR 0 #[.int .i64 0, .int .i64 0, .int .i64 0, .int .i64 0, .int .i64 0, .int .i64 0, .int .i64 0, .bool false, .slice none 0 0, .int .i64 0, .int .i64 0, .slice none 0 0, .string ⟨#[]⟩] rfl rfl (Rw.there HSA.out.1.2.2.1 0 _ (by simp)) Try.sizeMsg (msg_one _ _ _ _ _ _ _ _ _ _ _ _ _ _ _ _ _) ?_) | fail)
      have HEND := Lib.hid (Rw.storedAll HSA.out.1.2.2.1 [.int .i64 0, .int .i64 0, .int .i64 0, .int .i64 0, .int .i64 0, .int .i64 0, .int .i64 0, .bool false, .slice none 0 0, .int .i64 0, .int .i64 0, .slice none 0 0, .string ⟨#[]⟩] rfl)
      refine bodyPost_ret (v := .tuple #[.agg #[.int .i64 0, .int .i64 0, .int .i64 0, .int .i64 0, .int .i64 0, .int .i64 0, .int .i64 0, .bool false, .slice none 0 0, .int .i64 0, .int .i64 0, .slice none 0 0, .string ⟨#[]⟩], .int .i64 7]) ?_ rfl ?_
      case refine_2 => exact rdec_no HOK.out (below_stores HSA.out.1.1 HSA.out.1.2.2.2.1 _)
      exact results_row_tmp rfl _ _ gR 0 27 [.int .i64 0, .int .i64 0, .int .i64 0, .int .i64 0, .int .i64 0, .int .i64 0, .int .i64 0, .bool false, .slice none 0 0, .int .i64 0, .int .i64 0, .slice none 0 0, .string ⟨#[]⟩] _ rfl HEND.out Try.underlying27 rfl Try.sizeMsg (.int .i64 7) rfl

set_option maxRecDepth 100000 in
set_option maxHeartbeats 16000000 in
theorem rdec_k2 {w : World} {v : Value} {l : List UInt8} (h : ByteSl w w.heap.size v l) (hl : l.length ≤ 20000) (hk : (headE l).1.kd = 2) :
    Calls Try.prog 14 #[v] w fun e w' => RDec w w' e l := by
  have hz := zero_cells Try.infoMsg
  obtain ⟨ba, bc, rfl, _⟩ := byteSl_len h
  have hS0 := dst_start h
  have HBY0 := Lib.hid (bySl_of h)
  obtain ⟨LB, hLB⟩ : ∃ LB, LB = l.length := ⟨_, rfl⟩
  rw [← hLB] at hS0 HBY0 ⊢
  have HL : Hid (l.length ≤ 1000000) := Lib.hid (by omega)
  obtain ⟨gR, hgR⟩ : ∃ gR, gR = w.heap.size := ⟨_, rfl⟩
  obtain ⟨gE, hgE⟩ : ∃ gE, gE = w.heap.size + 1 := ⟨_, rfl⟩
  obtain ⟨w0, hw0⟩ : ∃ w0, w0 = (w.alloc (.cells #[.int .i64 0, .int .i64 0, .int .i64 0, .int .i64 0, .int .i64 0, .int .i64 0, .int .i64 0, .bool false, .slice none 0 0, .int .i64 0, .int .i64 0, .slice none 0 0, .string ⟨#[]⟩] 27)).alloc (.cells #[.slice ba LB bc, .int .i64 0, .bool false] 63) := ⟨_, rfl⟩
  rw [← hw0, ← hgE, ← hgR] at hS0
  have HS0 := Lib.hid hS0
  obtain ⟨q1, e1⟩ : ∃ p, p = numE l 1 (0, false) := ⟨_, rfl⟩
  obtain ⟨kd, s1⟩ := q1
  obtain ⟨q2, e2⟩ : ∃ p, p = numE l 8 s1 := ⟨_, rfl⟩
  obtain ⟨fr, s2⟩ := q2
  obtain ⟨q3, e3⟩ : ∃ p, p = numE l 8 s2 := ⟨_, rfl⟩
  obtain ⟨tq, s3⟩ := q3
  obtain ⟨q4, e4⟩ : ∃ p, p = numE l 8 s3 := ⟨_, rfl⟩
  obtain ⟨tm, s4⟩ := q4
  have hh : headE l = (⟨kd, fr, tq, tm, 0, 0, 0, false, [], zeroSn⟩, s4) := by unfold headE; rw [← e1]; dsimp only; rw [← e2]; dsimp only; rw [← e3]; dsimp only; rw [← e4]
  have HH := Lib.hid hh
  rw [hh] at hk
  dsimp only at hk
  obtain rfl : kd = 2 := hk
  have HN1 := Lib.hid (eynum_any hS0.2.1 1 (by decide) HL.out)
  rw [← e1] at HN1
  have E2 := Lib.hid e2
  have E3 := Lib.hid e3
  have E4 := Lib.hid e4
  have HW0 := Lib.hid hw0
  have HGR := Lib.hid hgR
  have HGE := Lib.hid hgE
  have HLB := Lib.hid hLB
  clear h hl hS0 hh e1 e2 e3 e4 hLB hw0 hgR hgE 
  go_enter Try.func14, Try.ntmps14
  go_upto_region 2 with (first | (refine wpList_alloc_z rfl 27 rfl #[.int .i64 0, .int .i64 0, .int .i64 0, .int .i64 0, .int .i64 0, .int .i64 0, .int .i64 0, .bool false, .slice none 0 0, .int .i64 0, .int .i64 0, .slice none 0 0, .string ⟨#[]⟩] hz ?_) | fail)
  rw [← HW0.out, ← HGE.out, ← HGR.out]
  go_wp2_with fail
  refine (HN1.out).mono ?_
  rintro e w1 ⟨rfl, hv1⟩
  have HS1 := Lib.hid (ds0_num HS0.out hv1)
  have HN2 := Lib.hid (eynum_any hv1.1 8 (by decide) HL.out)
  rw [← E2.out] at HN2
  clear hv1 HN1
  go_wp2_with fail
  refine (HN2.out).mono ?_
  rintro e w2 ⟨rfl, hv2⟩
  have HS2 := Lib.hid (ds0_num HS1.out hv2)
  have HN3 := Lib.hid (eynum_any hv2.1 8 (by decide) HL.out)
  rw [← E3.out] at HN3
  clear hv2 HN2
  go_wp2_with fail
  refine (HN3.out).mono ?_
  rintro e w3 ⟨rfl, hv3⟩
  have HS3 := Lib.hid (ds0_num HS2.out hv3)
  have HN4 := Lib.hid (eynum_any hv3.1 8 (by decide) HL.out)
  rw [← E4.out] at HN4
  clear hv3 HN3
  go_wp2_with fail
  refine (HN4.out).mono ?_
  rintro e w4 ⟨rfl, hv4⟩
  have HS4 := Lib.hid (ds0_num HS3.out hv4)
  clear hv4 HN4
  obtain ⟨gM, hgM⟩ : ∃ gM, gM = w4.heap.size := ⟨_, rfl⟩
  obtain ⟨w5, hw5⟩ : ∃ w5, w5 = w4.alloc (.cells #[.int .i64 2, .int .i64 fr, .int .i64 tq, .int .i64 tm, .int .i64 0, .int .i64 0, .int .i64 0, .bool false, .slice none 0 0, .int .i64 0, .int .i64 0, .slice none 0 0, .string ⟨#[]⟩] 27) := ⟨_, rfl⟩
  have hS5 := dst_new HS4.out [.int .i64 2, .int .i64 fr, .int .i64 tq, .int .i64 tm, .int .i64 0, .int .i64 0, .int .i64 0, .bool false, .slice none 0 0, .int .i64 0, .int .i64 0, .slice none 0 0, .string ⟨#[]⟩]
  rw [← hw5, ← hgM] at hS5
  have HS5 := Lib.hid hS5
  have HW5 := Lib.hid hw5
  have HGM := Lib.hid hgM
  clear hS5 hw5 hgM
  go_upto_region 3 with (first | (refine wpList_alloc_z rfl 27 rfl #[.int .i64 0, .int .i64 0, .int .i64 0, .int .i64 0, .int .i64 0, .int .i64 0, .int .i64 0, .bool false, .slice none 0 0, .int .i64 0, .int .i64 0, .slice none 0 0, .string ⟨#[]⟩] hz ?_) | fail)
  rw [← HW5.out, ← HGM.out]
  have c0 := Rw.cell HS5.out.2.1 (j := 0) (v := (.int .i64 2)) rfl
  obtain ⟨qE5, eE5⟩ : ∃ p, p = yesE l s4 := ⟨_, rfl⟩
  obtain ⟨yes, s5⟩ := qE5
  have E5 := Lib.hid eE5
  clear eE5
  have HQ := Lib.hid (eyyes_any HS5.out.1.2.1 HL.out)
  rw [← E5.out] at HQ
  go_wp2_with fail
  refine (HQ.out).mono ?_
  rintro e wq5 ⟨rfl, hv5⟩
  have Hs5 := Lib.hid (dst_num HS5.out hv5)
  have cc := Rw.cell Hs5.out.2.1 (j := 7) (v := (.bool false)) rfl
  have ff := Rw.free Hs5.out.2.1 7
  clear hv5 HQ
  go_upto_region 29 with fail
  obtain ⟨wr5, hwr5⟩ : ∃ wr, wr = wq5.setCell ⟨gM, 7, none⟩ (.bool yes) := ⟨_, rfl⟩
  have hS5 := dst_set Hs5.out 7 (.bool yes)
  rw [← hwr5] at hS5 ⊢
  have HU5 : Hid (DSt w wr5 gR gE gM l s5 [.int .i64 2, .int .i64 fr, .int .i64 tq, .int .i64 tm, .int .i64 0, .int .i64 0, .int .i64 0, .bool yes, .slice none 0 0, .int .i64 0, .int .i64 0, .slice none 0 0, .string ⟨#[]⟩]) := Lib.hid hS5
  clear hwr5 hS5 cc ff
  have HRF : Hid (refE l = ((⟨2, fr, tq, tm, 0, 0, 0, yes, [], zeroSn⟩ : MsgM), s5)) := Lib.hid (by unfold refE; rw [HH.out]; unfold bodyE; dsimp only; rw [if_neg (by decide), if_pos rfl, ← E5.out])
  have HSM : Hid (smallM (⟨2, fr, tq, tm, 0, 0, 0, yes, [], zeroSn⟩ : MsgM)) := Lib.hid (by have h1 := refE_small l; rw [HRF.out] at h1; exact h1)
  have HAT : Hid (MsgAt wr5 (.slice none 0 0) (.slice none 0 0) (⟨2, fr, tq, tm, 0, 0, 0, yes, [], zeroSn⟩ : MsgM)) := Lib.hid (msgAt_nil wr5 rfl rfl)
  have HEN := Lib.hid (rencode_any HAT.out HSM.out)
  unfold msgV at HEN
  dsimp only [zeroSn] at HEN
  obtain ⟨m, hm⟩ : ∃ m : MsgM, m = (⟨2, fr, tq, tm, 0, 0, 0, yes, [], zeroSn⟩ : MsgM) := ⟨_, rfl⟩
  have HEN2 : Hid (Calls Try.prog 11 #[.agg #[.int .i64 2, .int .i64 fr, .int .i64 tq, .int .i64 tm, .int .i64 0, .int .i64 0, .int .i64 0, .bool yes, .slice none 0 0, .int .i64 0, .int .i64 0, .slice none 0 0, .string ⟨#[]⟩]] wr5 fun e w' => EncV wr5 w' e m) := Lib.hid (by rw [hm]; exact HEN.out)
  have HM := Lib.hid hm
  clear HEN hm
  obtain ⟨i9, bad⟩ := s5
  clear c0
  go_wp2_with (first | (refine wpList_load_mid rfl 27 _ rfl gM 0 rfl [.int .i64 2, .int .i64 fr, .int .i64 tq, .int .i64 tm, .int .i64 0, .int .i64 0, .int .i64 0, .bool yes, .slice none 0 0, .int .i64 0, .int .i64 0, .slice none 0 0, .string ⟨#[]⟩] _ (Rw.whole HU5.out.2.1) Try.underlying27 rfl Try.sizeMsg ?_) | fail)
  refine (HEN2.out).mono ?_
  rintro e wA ⟨vA, rfl, hoA, hbA⟩
  have HSA := Lib.hid (dst_below HU5.out hbA)
  obtain ⟨aA, cA, rfl⟩ := own_len hoA
  have HBA := Lib.hid (bySl_of (own_sl hoA))
  have HB0 := Lib.hid (bySl_below HBY0.out (HSA.out.1.1.mono (Nat.le_refl _)))
  have hx := eyAt_cell HSA.out.1.2.1
  dsimp only at hx
  clear hoA hbA HEN2
  obtain ⟨NA, hNA⟩ : ∃ NA, NA = (encW m).length := ⟨_, rfl⟩
  rw [← hNA] at HBA ⊢
  cases bad with
  | true =>
    have HOK := Lib.hid (okE_bad HRF.out)
    clear hNA
    go_wp2_with (first | (refine wpList_alloc_z rfl 27 rfl #[.int .i64 0, .int .i64 0, .int .i64 0, .int .i64 0, .int .i64 0, .int .i64 0, .int .i64 0, .bool false, .slice none 0 0, .int .i64 0, .int .i64 0, .slice none 0 0, .string ⟨#[]⟩] hz ?_) | (refine wpList_store_mid rfl 27 _ _ rfl gR 0 #[.int .i64 0, .int .i64 0, .int .i64 0, .int .i64 0, .int .i64 0, .int .i64 0, .int .i64 0, .bool false, .slice none 0 0, .int .i64 0, .int .i64 0, .slice none 0 0, .string ⟨#[]⟩] rfl rfl (Rw.there HSA.out.1.2.2.1 0 _ (by simp)) Try.sizeMsg (msg_one _ _ _ _ _ _ _ _ _ _ _ _ _ _ _ _ _) ?_) | fail)
    have HEND := Lib.hid (Rw.storedAll HSA.out.1.2.2.1 [.int .i64 0, .int .i64 0, .int .i64 0, .int .i64 0, .int .i64 0, .int .i64 0, .int .i64 0, .bool false, .slice none 0 0, .int .i64 0, .int .i64 0, .slice none 0 0, .string ⟨#[]⟩] rfl)
    refine bodyPost_ret (v := .tuple #[.agg #[.int .i64 0, .int .i64 0, .int .i64 0, .int .i64 0, .int .i64 0, .int .i64 0, .int .i64 0, .bool false, .slice none 0 0, .int .i64 0, .int .i64 0, .slice none 0 0, .string ⟨#[]⟩], .int .i64 7]) ?_ rfl ?_
    case refine_2 => exact rdec_no HOK.out (below_stores HSA.out.1.1 HSA.out.1.2.2.2.1 _)
    exact results_row_tmp rfl _ _ gR 0 27 [.int .i64 0, .int .i64 0, .int .i64 0, .int .i64 0, .int .i64 0, .int .i64 0, .int .i64 0, .bool false, .slice none 0 0, .int .i64 0, .int .i64 0, .slice none 0 0, .string ⟨#[]⟩] _ rfl HEND.out Try.underlying27 rfl Try.sizeMsg (.int .i64 7) rfl
  | false =>
    rcases (show codW m = 0 ∨ codW m = 1 by unfold codW; split <;> simp) with hc | hc
    · rw [hc]
      have HC := Lib.hid hc
      have hcv1 := run_convert_bysl 30 5 9 Try.underlying30 Try.underlying5 Try.underlying9 HBA.out
      have hcv2 := run_convert_bysl 30 5 9 Try.underlying30 Try.underlying5 Try.underlying9 HB0.out
      have heq := name_eq (encW m) l
      obtain ⟨X, hX⟩ : ∃ X : ByteArray, X = ⟨(encW m).toArray⟩ := ⟨_, rfl⟩
      obtain ⟨Y, hY⟩ : ∃ Y : ByteArray, Y = ⟨l.toArray⟩ := ⟨_, rfl⟩
      rw [← hX] at hcv1 heq
      rw [← hY] at hcv2 heq
      clear hX hY hNA hc
      by_cases hen : encW m = l
      · rw [decide_eq_true hen] at heq
        have HOK := Lib.hid (okE_all HRF.out (by rw [← HM.out]; exact HC.out) (by rw [← HM.out]; exact hen))
        clear hen
        go_wp2_with (first | (refine wpList_load_mid rfl 27 _ rfl gM 0 rfl [.int .i64 2, .int .i64 fr, .int .i64 tq, .int .i64 tm, .int .i64 0, .int .i64 0, .int .i64 0, .bool yes, .slice none 0 0, .int .i64 0, .int .i64 0, .slice none 0 0, .string ⟨#[]⟩] _ (Rw.whole HSA.out.2.1) Try.underlying27 rfl Try.sizeMsg ?_) | (refine wpList_store_mid rfl 27 _ _ rfl gR 0 #[.int .i64 2, .int .i64 fr, .int .i64 tq, .int .i64 tm, .int .i64 0, .int .i64 0, .int .i64 0, .bool yes, .slice none 0 0, .int .i64 0, .int .i64 0, .slice none 0 0, .string ⟨#[]⟩] rfl rfl (Rw.there HSA.out.1.2.2.1 0 _ (by simp)) Try.sizeMsg (msg_one _ _ _ _ _ _ _ _ _ _ _ _ _ _ _ _ _) ?_) | fail)
        have HEND := Lib.hid (Rw.storedAll HSA.out.1.2.2.1 [.int .i64 2, .int .i64 fr, .int .i64 tq, .int .i64 tm, .int .i64 0, .int .i64 0, .int .i64 0, .bool yes, .slice none 0 0, .int .i64 0, .int .i64 0, .slice none 0 0, .string ⟨#[]⟩] rfl)
        refine bodyPost_ret (v := .tuple #[.agg #[.int .i64 2, .int .i64 fr, .int .i64 tq, .int .i64 tm, .int .i64 0, .int .i64 0, .int .i64 0, .bool yes, .slice none 0 0, .int .i64 0, .int .i64 0, .slice none 0 0, .string ⟨#[]⟩], .int .i64 0]) ?_ rfl ?_
        case refine_2 => exact rdec_yes HOK.out (congrArg Prod.fst HRF.out) (msgAt_nil _ rfl rfl) (below_stores HSA.out.1.1 HSA.out.1.2.2.2.1 _)
        exact results_row_tmp rfl _ _ gR 0 27 [.int .i64 2, .int .i64 fr, .int .i64 tq, .int .i64 tm, .int .i64 0, .int .i64 0, .int .i64 0, .bool yes, .slice none 0 0, .int .i64 0, .int .i64 0, .slice none 0 0, .string ⟨#[]⟩] _ rfl HEND.out Try.underlying27 rfl Try.sizeMsg (.int .i64 0) rfl
      · rw [decide_eq_false hen] at heq
        have HOK := Lib.hid (okE_enc HRF.out (by rw [← HM.out]; exact hen))
        clear hen
        go_wp2_with (first | (refine wpList_alloc_z rfl 27 rfl #[.int .i64 0, .int .i64 0, .int .i64 0, .int .i64 0, .int .i64 0, .int .i64 0, .int .i64 0, .bool false, .slice none 0 0, .int .i64 0, .int .i64 0, .slice none 0 0, .string ⟨#[]⟩] hz ?_) | (refine wpList_store_mid rfl 27 _ _ rfl gR 0 #[.int .i64 0, .int .i64 0, .int .i64 0, .int .i64 0, .int .i64 0, .int .i64 0, .int .i64 0, .bool false, .slice none 0 0, .int .i64 0, .int .i64 0, .slice none 0 0, .string ⟨#[]⟩] rfl rfl (Rw.there HSA.out.1.2.2.1 0 _ (by simp)) Try.sizeMsg (msg_one _ _ _ _ _ _ _ _ _ _ _ _ _ _ _ _ _) ?_) | fail)
        have HEND := Lib.hid (Rw.storedAll HSA.out.1.2.2.1 [.int .i64 0, .int .i64 0, .int .i64 0, .int .i64 0, .int .i64 0, .int .i64 0, .int .i64 0, .bool false, .slice none 0 0, .int .i64 0, .int .i64 0, .slice none 0 0, .string ⟨#[]⟩] rfl)
        refine bodyPost_ret (v := .tuple #[.agg #[.int .i64 0, .int .i64 0, .int .i64 0, .int .i64 0, .int .i64 0, .int .i64 0, .int .i64 0, .bool false, .slice none 0 0, .int .i64 0, .int .i64 0, .slice none 0 0, .string ⟨#[]⟩], .int .i64 7]) ?_ rfl ?_
        case refine_2 => exact rdec_no HOK.out (below_stores HSA.out.1.1 HSA.out.1.2.2.2.1 _)
        exact results_row_tmp rfl _ _ gR 0 27 [.int .i64 0, .int .i64 0, .int .i64 0, .int .i64 0, .int .i64 0, .int .i64 0, .int .i64 0, .bool false, .slice none 0 0, .int .i64 0, .int .i64 0, .slice none 0 0, .string ⟨#[]⟩] _ rfl HEND.out Try.underlying27 rfl Try.sizeMsg (.int .i64 7) rfl
    · rw [hc]
      have HOK := Lib.hid (okE_cod HRF.out (by rw [← HM.out, hc]; decide))
      clear hNA hc
      go_wp2_with (first | (refine wpList_alloc_z rfl 27 rfl #[.int .i64 0, .int .i64 0, .int .i64 0, .int .i64 0, .int .i64 0, .int .i64 0, .int .i64 0, .bool false, .slice none 0 0, .int .i64 0, .int .i64 0, .slice none 0 0, .string ⟨#[]⟩] hz ?_) | (refine wpList_store_mid rfl 27 _ _ rfl gR 0 #[.int .i64 0, .int .i64 0, .int .i64 0, .int .i64 0, .int .i64 0, .int .i64 0, .int .i64 0, .bool false, .slice none 0 0, .int .i64 0, .int .i64 0, .slice none 0 0, .string ⟨#[]⟩] rfl rfl (Rw.there HSA.out.1.2.2.1 0 _ (by simp)) Try.sizeMsg (msg_one _ _ _ _ _ _ _ _ _ _ _ _ _ _ _ _ _) ?_) | fail)
      have HEND := Lib.hid (Rw.storedAll HSA.out.1.2.2.1 [.int .i64 0, .int .i64 0, .int .i64 0, .int .i64 0, .int .i64 0, .int .i64 0, .int .i64 0, .bool false, .slice none 0 0, .int .i64 0, .int .i64 0, .slice none 0 0, .string ⟨#[]⟩] rfl)
      refine bodyPost_ret (v := .tuple #[.agg #[.int .i64 0, .int .i64 0, .int .i64 0, .int .i64 0, .int .i64 0, .int .i64 0, .int .i64 0, .bool false, .slice none 0 0, .int .i64 0, .int .i64 0, .slice none 0 0, .string ⟨#[]⟩], .int .i64 7]) ?_ rfl ?_
      case refine_2 => exact rdec_no HOK.out (below_stores HSA.out.1.1 HSA.out.1.2.2.2.1 _)
      exact results_row_tmp rfl _ _ gR 0 27 [.int .i64 0, .int .i64 0, .int .i64 0, .int .i64 0, .int .i64 0, .int .i64 0, .int .i64 0, .bool false, .slice none 0 0, .int .i64 0, .int .i64 0, .slice none 0 0, .string ⟨#[]⟩] _ rfl HEND.out Try.underlying27 rfl Try.sizeMsg (.int .i64 7) rfl

set_option maxRecDepth 100000 in
set_option maxHeartbeats 16000000 in
theorem rdec_k3 {w : World} {v : Value} {l : List UInt8} (h : ByteSl w w.heap.size v l) (hl : l.length ≤ 20000) (hk : (headE l).1.kd = 3) :
    Calls Try.prog 14 #[v] w fun e w' => RDec w w' e l := by
  have hz := zero_cells Try.infoMsg
  obtain ⟨ba, bc, rfl, _⟩ := byteSl_len h
  have hS0 := dst_start h
  have HBY0 := Lib.hid (bySl_of h)
  obtain ⟨LB, hLB⟩ : ∃ LB, LB = l.length := ⟨_, rfl⟩
  rw [← hLB] at hS0 HBY0 ⊢
  have HL : Hid (l.length ≤ 1000000) := Lib.hid (by omega)
  obtain ⟨gR, hgR⟩ : ∃ gR, gR = w.heap.size := ⟨_, rfl⟩
  obtain ⟨gE, hgE⟩ : ∃ gE, gE = w.heap.size + 1 := ⟨_, rfl⟩
  obtain ⟨w0, hw0⟩ : ∃ w0, w0 = (w.alloc (.cells #[.int .i64 0, .int .i64 0, .int .i64 0, .int .i64 0, .int .i64 0, .int .i64 0, .int .i64 0, .bool false, .slice none 0 0, .int .i64 0, .int .i64 0, .slice none 0 0, .string ⟨#[]⟩] 27)).alloc (.cells #[.slice ba LB bc, .int .i64 0, .bool false] 63) := ⟨_, rfl⟩
  rw [← hw0, ← hgE, ← hgR] at hS0
  have HS0 := Lib.hid hS0
  obtain ⟨q1, e1⟩ : ∃ p, p = numE l 1 (0, false) := ⟨_, rfl⟩
  obtain ⟨kd, s1⟩ := q1
  obtain ⟨q2, e2⟩ : ∃ p, p = numE l 8 s1 := ⟨_, rfl⟩
  obtain ⟨fr, s2⟩ := q2
  obtain ⟨q3, e3⟩ : ∃ p, p = numE l 8 s2 := ⟨_, rfl⟩
  obtain ⟨tq, s3⟩ := q3
  obtain ⟨q4, e4⟩ : ∃ p, p = numE l 8 s3 := ⟨_, rfl⟩
  obtain ⟨tm, s4⟩ := q4
  have hh : headE l = (⟨kd, fr, tq, tm, 0, 0, 0, false, [], zeroSn⟩, s4) := by unfold headE; rw [← e1]; dsimp only; rw [← e2]; dsimp only; rw [← e3]; dsimp only; rw [← e4]
  have HH := Lib.hid hh
  rw [hh] at hk
  dsimp only at hk
  obtain rfl : kd = 3 := hk
  have HN1 := Lib.hid (eynum_any hS0.2.1 1 (by decide) HL.out)
  rw [← e1] at HN1
  have E2 := Lib.hid e2
  have E3 := Lib.hid e3
  have E4 := Lib.hid e4
  have HW0 := Lib.hid hw0
  have HGR := Lib.hid hgR
  have HGE := Lib.hid hgE
  have HLB := Lib.hid hLB
  clear h hl hS0 hh e1 e2 e3 e4 hLB hw0 hgR hgE 
  go_enter Try.func14, Try.ntmps14
  go_upto_region 2 with (first | (refine wpList_alloc_z rfl 27 rfl #[.int .i64 0, .int .i64 0, .int .i64 0, .int .i64 0, .int .i64 0, .int .i64 0, .int .i64 0, .bool false, .slice none 0 0, .int .i64 0, .int .i64 0, .slice none 0 0, .string ⟨#[]⟩] hz ?_) | fail)
  rw [← HW0.out, ← HGE.out, ← HGR.out]
  go_wp2_with fail
  refine (HN1.out).mono ?_
  rintro e w1 ⟨rfl, hv1⟩
  have HS1 := Lib.hid (ds0_num HS0.out hv1)
  have HN2 := Lib.hid (eynum_any hv1.1 8 (by decide) HL.out)
  rw [← E2.out] at HN2
  clear hv1 HN1
  go_wp2_with fail
  refine (HN2.out).mono ?_
  rintro e w2 ⟨rfl, hv2⟩
  have HS2 := Lib.hid (ds0_num HS1.out hv2)
  have HN3 := Lib.hid (eynum_any hv2.1 8 (by decide) HL.out)
  rw [← E3.out] at HN3
  clear hv2 HN2
  go_wp2_with fail
  refine (HN3.out).mono ?_
  rintro e w3 ⟨rfl, hv3⟩
  have HS3 := Lib.hid (ds0_num HS2.out hv3)
  have HN4 := Lib.hid (eynum_any hv3.1 8 (by decide) HL.out)
  rw [← E4.out] at HN4
  clear hv3 HN3
  go_wp2_with fail
  refine (HN4.out).mono ?_
  rintro e w4 ⟨rfl, hv4⟩
  have HS4 := Lib.hid (ds0_num HS3.out hv4)
  clear hv4 HN4
  obtain ⟨gM, hgM⟩ : ∃ gM, gM = w4.heap.size := ⟨_, rfl⟩
  obtain ⟨w5, hw5⟩ : ∃ w5, w5 = w4.alloc (.cells #[.int .i64 3, .int .i64 fr, .int .i64 tq, .int .i64 tm, .int .i64 0, .int .i64 0, .int .i64 0, .bool false, .slice none 0 0, .int .i64 0, .int .i64 0, .slice none 0 0, .string ⟨#[]⟩] 27) := ⟨_, rfl⟩
  have hS5 := dst_new HS4.out [.int .i64 3, .int .i64 fr, .int .i64 tq, .int .i64 tm, .int .i64 0, .int .i64 0, .int .i64 0, .bool false, .slice none 0 0, .int .i64 0, .int .i64 0, .slice none 0 0, .string ⟨#[]⟩]
  rw [← hw5, ← hgM] at hS5
  have HS5 := Lib.hid hS5
  have HW5 := Lib.hid hw5
  have HGM := Lib.hid hgM
  clear hS5 hw5 hgM
  go_upto_region 3 with (first | (refine wpList_alloc_z rfl 27 rfl #[.int .i64 0, .int .i64 0, .int .i64 0, .int .i64 0, .int .i64 0, .int .i64 0, .int .i64 0, .bool false, .slice none 0 0, .int .i64 0, .int .i64 0, .slice none 0 0, .string ⟨#[]⟩] hz ?_) | fail)
  rw [← HW5.out, ← HGM.out]
  have c0 := Rw.cell HS5.out.2.1 (j := 0) (v := (.int .i64 3)) rfl
  obtain ⟨qE5, eE5⟩ : ∃ p, p = numE l 8 s4 := ⟨_, rfl⟩
  obtain ⟨ix, s5⟩ := qE5
  have E5 := Lib.hid eE5
  clear eE5
  obtain ⟨qE6, eE6⟩ : ∃ p, p = numE l 8 s5 := ⟨_, rfl⟩
  obtain ⟨lt, s6⟩ := qE6
  have E6 := Lib.hid eE6
  clear eE6
  obtain ⟨qE7, eE7⟩ : ∃ p, p = numE l 8 s6 := ⟨_, rfl⟩
  obtain ⟨cm, s7⟩ := qE7
  have E7 := Lib.hid eE7
  clear eE7
  obtain ⟨qE8, eE8⟩ : ∃ p, p = numE l 1 s7 := ⟨_, rfl⟩
  obtain ⟨nv, s8⟩ := qE8
  have E8 := Lib.hid eE8
  clear eE8
  have HQ := Lib.hid (eynum_any HS5.out.1.2.1 8 (by decide) HL.out)
  rw [← E5.out] at HQ
  go_wp2_with fail
  refine (HQ.out).mono ?_
  rintro e wq5 ⟨rfl, hv5⟩
  have Hs5 := Lib.hid (dst_num HS5.out hv5)
  have cc := Rw.cell Hs5.out.2.1 (j := 4) (v := (.int .i64 0)) rfl
  have ff := Rw.free Hs5.out.2.1 4
  clear hv5 HQ
  go_upto_region 11 with fail
  obtain ⟨wr5, hwr5⟩ : ∃ wr, wr = wq5.setCell ⟨gM, 4, none⟩ (.int .i64 ix) := ⟨_, rfl⟩
  have hS5 := dst_set Hs5.out 4 (.int .i64 ix)
  rw [← hwr5] at hS5 ⊢
  have HU5 : Hid (DSt w wr5 gR gE gM l s5 [.int .i64 3, .int .i64 fr, .int .i64 tq, .int .i64 tm, .int .i64 ix, .int .i64 0, .int .i64 0, .bool false, .slice none 0 0, .int .i64 0, .int .i64 0, .slice none 0 0, .string ⟨#[]⟩]) := Lib.hid hS5
  clear hwr5 hS5 cc ff
  have HQ := Lib.hid (eynum_any HU5.out.1.2.1 8 (by decide) HL.out)
  rw [← E6.out] at HQ
  go_wp2_with fail
  refine (HQ.out).mono ?_
  rintro e wq6 ⟨rfl, hv6⟩
  have Hs6 := Lib.hid (dst_num HU5.out hv6)
  have cc := Rw.cell Hs6.out.2.1 (j := 5) (v := (.int .i64 0)) rfl
  have ff := Rw.free Hs6.out.2.1 5
  clear hv6 HQ
  go_upto_region 12 with fail
  obtain ⟨wr6, hwr6⟩ : ∃ wr, wr = wq6.setCell ⟨gM, 5, none⟩ (.int .i64 lt) := ⟨_, rfl⟩
  have hS6 := dst_set Hs6.out 5 (.int .i64 lt)
  rw [← hwr6] at hS6 ⊢
  have HU6 : Hid (DSt w wr6 gR gE gM l s6 [.int .i64 3, .int .i64 fr, .int .i64 tq, .int .i64 tm, .int .i64 ix, .int .i64 lt, .int .i64 0, .bool false, .slice none 0 0, .int .i64 0, .int .i64 0, .slice none 0 0, .string ⟨#[]⟩]) := Lib.hid hS6
  clear hwr6 hS6 cc ff
  have HQ := Lib.hid (eynum_any HU6.out.1.2.1 8 (by decide) HL.out)
  rw [← E7.out] at HQ
  go_wp2_with fail
  refine (HQ.out).mono ?_
  rintro e wq7 ⟨rfl, hv7⟩
  have Hs7 := Lib.hid (dst_num HU6.out hv7)
  have cc := Rw.cell Hs7.out.2.1 (j := 6) (v := (.int .i64 0)) rfl
  have ff := Rw.free Hs7.out.2.1 6
  clear hv7 HQ
  go_upto_region 13 with fail
  obtain ⟨wr7, hwr7⟩ : ∃ wr, wr = wq7.setCell ⟨gM, 6, none⟩ (.int .i64 cm) := ⟨_, rfl⟩
  have hS7 := dst_set Hs7.out 6 (.int .i64 cm)
  rw [← hwr7] at hS7 ⊢
  have HU7 : Hid (DSt w wr7 gR gE gM l s7 [.int .i64 3, .int .i64 fr, .int .i64 tq, .int .i64 tm, .int .i64 ix, .int .i64 lt, .int .i64 cm, .bool false, .slice none 0 0, .int .i64 0, .int .i64 0, .slice none 0 0, .string ⟨#[]⟩]) := Lib.hid hS7
  clear hwr7 hS7 cc ff
  have hp := numE_one l s7
  rw [← E8.out] at hp
  obtain ⟨N, rfl⟩ := Int.eq_ofNat_of_zero_le hp.1
  have HN : Hid (N < 256) := Lib.hid (by have := hp.2; omega)
  clear hp
  have HQ := Lib.hid (eynum_any HU7.out.1.2.1 1 (by decide) HL.out)
  rw [← E8.out] at HQ
  go_wp2_with fail
  refine (HQ.out).mono ?_
  rintro e wq8 ⟨rfl, hv8⟩
  have HT8 := Lib.hid (dst_num HU7.out hv8)
  dsimp only at HT8
  obtain ⟨i0, hi0, hz0, hz1, hz2⟩ := info_parts Try.infoEntry
  have hze := zero_cells Try.infoEntz
  clear hv8 HQ c0
  go_wp2_with fail
  go_loopw [7] (fun iv wr => ∃ (k : Nat) (ea : Option Addr) (ec : Nat) (es : List EntM) (s : Nat × Bool), k ≤ N ∧ iv = .int .i64 k ∧ Hid (es.length = k ∧ entsE l N s8 = (es ++ (entsE l (N - k) s).1, (entsE l (N - k) s).2)) ∧ Hid (DSt w wr gR gE gM l s [.int .i64 3, .int .i64 fr, .int .i64 tq, .int .i64 tm, .int .i64 ix, .int .i64 lt, .int .i64 cm, .bool false, .slice ea k ec, .int .i64 0, .int .i64 0, .slice none 0 0, .string ⟨#[]⟩]) ∧ Hid (EyApp w wr es (.slice ea k ec))) (fun iv _ => N - (intOf iv).toNat)
  case atStart => exact ⟨0, none, 0, [], s8, Nat.zero_le _, rfl, Lib.hid ⟨rfl, rfl⟩, HT8, Lib.hid (appE_nil _ _)⟩
  case round =>
    clear HT8 HS5
    obtain ⟨k, ea, ec, es, s, hk, rfl, HC, HD, HA⟩ := hrel
    obtain ⟨w9, hw9⟩ : ∃ w9 : World, w9 = wr := ⟨_, rfl⟩
    subst hw9
    have d2 := eyAt_cell HD.out.1.2.1
    by_cases hgo : k < N ∧ s.2 = false
    · obtain ⟨hlt, hb⟩ := hgo
      rw [hb] at d2
      have HSN := Lib.hid (entsE_go hlt hb HC.out.2)
      obtain ⟨q1, g1⟩ : ∃ p, p = numE l 8 s := ⟨_, rfl⟩
      obtain ⟨xi, t1⟩ := q1
      obtain ⟨q2, g2⟩ : ∃ p, p = numE l 8 t1 := ⟨_, rfl⟩
      obtain ⟨xt, t2⟩ := q2
      obtain ⟨q3, g3⟩ : ∃ p, p = numE l 8 t2 := ⟨_, rfl⟩
      obtain ⟨xk, t3⟩ := q3
      obtain ⟨q4, g4⟩ : ∃ p, p = txtE l t3 := ⟨_, rfl⟩
      obtain ⟨d, t4⟩ := q4
      obtain ⟨q5, g5⟩ : ∃ p, p = lstE l t4 := ⟨_, rfl⟩
      obtain ⟨xm, t5⟩ := q5
      obtain ⟨xd, hxd⟩ : ∃ xd : ByteArray, xd = ⟨d.toArray⟩ := ⟨_, rfl⟩
      obtain ⟨M, hM⟩ : ∃ M, M = xm.length := ⟨_, rfl⟩
      have HNTX : Hid (entE1 l s = (⟨xi, xt, xk, xd, xm⟩, t5)) := Lib.hid (by unfold entE1; rw [← g1]; dsimp only; rw [← g2]; dsimp only; rw [← g3]; dsimp only; rw [← g4]; dsimp only; rw [← g5, hxd])
      have HML : Hid (xm.length ≤ 1000000) := Lib.hid (by have h1 := lstE_len l t4; rw [← g5] at h1; exact h1)
      have G1 := Lib.hid g1
      have G2 := Lib.hid g2
      have G3 := Lib.hid g3
      have G4 := Lib.hid g4
      have G5 := Lib.hid g5
      have HXD := Lib.hid hxd
      have HMM := Lib.hid hM
      have hy : (k : Int) < (N : Int) := by omega
      have hk8 : (k : Int) < 256 := by have := HN.out; omega
      have HKL := Lib.hid hlt
      have HMX : Hid (k + 1 ≤ maxLen) := Lib.hid (by have := HN.out; unfold maxLen; omega)
      have HBT : Hid ((k + 1) * 64 ≤ 140737488355328) := Lib.hid (by have := HN.out; omega)
      have HQ := Lib.hid (eynum_any HD.out.1.2.1 8 (by decide) HL.out)
      rw [← G1.out] at HQ
      clear hk hlt hb g1 g2 g3 g4 g5 hxd hM
      go_wp2_with fail
      refine (HQ.out).mono ?_
      rintro e w10 ⟨rfl, hv⟩
      have HD10 := Lib.hid (dst_num HD.out hv)
      have HK10 := Lib.hid hv.2
      have HQ2 := Lib.hid (eynum_any hv.1 8 (by decide) HL.out)
      dsimp only at HQ2 HD10
      rw [← G2.out] at HQ2
      clear hv HQ d2
      go_wp2_with fail
      refine (HQ2.out).mono ?_
      rintro e w11 ⟨rfl, hv⟩
      have HD11 := Lib.hid (dst_num HD10.out hv)
      have HK11 := Lib.hid (kept_trans HK10.out hv.2)
      have HQ3 := Lib.hid (eynum_any hv.1 8 (by decide) HL.out)
      dsimp only at HQ3 HD11
      rw [← G3.out] at HQ3
      clear hv HQ2
      go_wp2_with fail
      refine (HQ3.out).mono ?_
      rintro e w12 ⟨rfl, hv⟩
      have HD12 := Lib.hid (dst_num HD11.out hv)
      have HK12 := Lib.hid (kept_trans HK11.out hv.2)
      dsimp only at HD12
      clear hv HQ3
      obtain ⟨gX, hgX⟩ : ∃ gX, gX = w12.heap.size := ⟨_, rfl⟩
      obtain ⟨w13, hw13⟩ : ∃ w13, w13 = w12.alloc (.cells #[.int .i64 xi, .int .i64 xt, .int .i64 xk, .string ⟨#[]⟩, .slice none 0 0] 46) := ⟨_, rfl⟩
      have hb13 := below_more (Below.refl _ w12) (.cells #[.int .i64 xi, .int .i64 xt, .int .i64 xk, .string ⟨#[]⟩, .slice none 0 0] 46)
      have hr13 := Rw.alloc w12 46 #[.int .i64 xi, .int .i64 xt, .int .i64 xk, .string ⟨#[]⟩, .slice none 0 0] (Nat.zero_le _)
      rw [← hw13] at hb13 hr13
      rw [← hgX] at hr13
      have HD13 := Lib.hid (dst_below HD12.out hb13)
      have HR13 : Hid (Rw w13 0 gX 46 [.int .i64 xi, .int .i64 xt, .int .i64 xk, .string ⟨#[]⟩, .slice none 0 0]) := Lib.hid hr13
      have HK13 := Lib.hid (kept_then (G := fun _ => False) HK12.out (kept_below hb13) (fun _ h => h.elim))
      have HX9 : Hid (w9.heap.size ≤ gX) := Lib.hid (by rw [hgX]; exact HK12.out.size)
      have HXE : Hid (gX ≠ gE) := Lib.hid (by have h1 := eyAt_lt HD.out.1.2.1; have h2 := HX9.out; omega)
      have HXR : Hid (gX ≠ gR) := Lib.hid (by have h1 := Rw.size HD.out.1.2.2.1; have h2 := HX9.out; omega)
      have HXM : Hid (gX ≠ gM) := Lib.hid (by have h1 := Rw.size HD.out.2.1; have h2 := HX9.out; omega)
      have HXW : Hid (w.heap.size ≤ gX) := Lib.hid (Nat.le_trans HD.out.1.1.size HX9.out)
      have HGX := Lib.hid hgX
      have HW13 := Lib.hid hw13
      have HQ4 := Lib.hid (eytext_any HD13.out.1.2.1 HL.out)
      rw [← G4.out] at HQ4
      clear hb13 hr13 hgX hw13
      go_upto_region 18 with (first | (refine wpList_alloc_z rfl 46 rfl #[.int .i64 0, .int .i64 0, .int .i64 0, .string ⟨#[]⟩, .slice none 0 0] hze ?_) | fail)
      rw [← HW13.out, ← HGX.out]
      go_wp2_with fail
      refine (HQ4.out).mono ?_
      rintro e w14 ⟨rfl, hv⟩
      have HD14 := Lib.hid (dst_num HD13.out hv)
      have HK14 := Lib.hid (kept_trans HK13.out hv.2)
      have HR14 := Lib.hid (rw_kept HR13.out hv.2 HXE.out)
      dsimp only at HD14 ⊢
      rw [← HXD.out]
      have cc := Rw.cell HR14.out (j := 3) (v := .string ⟨#[]⟩) rfl
      have ff := Rw.free HR14.out 3
      clear hv HQ4
      go_upto_region 19 with fail
      obtain ⟨w15, hw15⟩ : ∃ w15, w15 = w14.setCell ⟨gX, 3, none⟩ (.string xd) := ⟨_, rfl⟩
      have hk15 : Kept (fun k => k = gX) w14 w15 := by rw [hw15]; exact kept_put (F := fun k => k = gX) (kept_refl _ _) (.inl rfl) 3 _
      have HD15 := Lib.hid (dst_kept HD14.out hk15 (fun k hk => by subst hk; exact ⟨HXW.out, HXR.out, HXE.out, HXM.out⟩))
      have hr15 := Rw.stored HR14.out 3 (.string xd)
      rw [← hw15] at hr15 ⊢
      have HR15 : Hid (Rw w15 0 gX 46 [.int .i64 xi, .int .i64 xt, .int .i64 xk, .string xd, .slice none 0 0]) := Lib.hid hr15
      have HK15 : Hid (Kept (fun k => k = gE) w9 w15) := Lib.hid (by rw [hw15]; exact kept_put HK14.out (.inr HX9.out) 3 _)
      have HQ5 := Lib.hid (eyints_any HD15.out.1.2.1 HL.out)
      rw [← G5.out] at HQ5
      clear hk15 hr15 hw15 cc ff
      go_wp2_with fail
      refine (HQ5.out).mono ?_
      rintro e w16 ⟨u, rfl, hu, hv⟩
      obtain ⟨ua, uc, rfl⟩ := own_len hu
      dsimp only at hu hv ⊢
      rw [← HMM.out] at hu ⊢
      have HD16 := Lib.hid (dst_num HD15.out hv)
      have HK16 := Lib.hid (kept_trans HK15.out hv.2)
      have HR16 := Lib.hid (rw_kept HR15.out hv.2 HXE.out)
      have HU16 := Lib.hid (own_mono hu (Nat.zero_le _))
      have cc := Rw.cell HR16.out (j := 4) (v := .slice none 0 0) rfl
      have ff := Rw.free HR16.out 4
      clear hu hv HQ5
      go_upto_region 20 with fail
      obtain ⟨w17, hw17⟩ : ∃ w17, w17 = w16.setCell ⟨gX, 4, none⟩ (.slice ua M uc) := ⟨_, rfl⟩
      have hk17 : Kept (fun k => k = gX) w16 w17 := by rw [hw17]; exact kept_put (F := fun k => k = gX) (kept_refl _ _) (.inl rfl) 4 _
      have HD17 := Lib.hid (dst_kept HD16.out hk17 (fun k hk => by subst hk; exact ⟨HXW.out, HXR.out, HXE.out, HXM.out⟩))
      have hr17 := Rw.stored HR16.out 4 (.slice ua M uc)
      have hu17 := own_store HU16.out HR16.out (by decide) 4 (.slice ua M uc)
      rw [← hw17] at hr17 hu17 ⊢
      have HR17 : Hid (Rw w17 0 gX 46 [.int .i64 xi, .int .i64 xt, .int .i64 xk, .string xd, .slice ua M uc]) := Lib.hid hr17
      have HU17 := Lib.hid hu17
      have HK17 : Hid (Kept (fun k => k = gE) w9 w17) := Lib.hid (by rw [hw17]; exact kept_put HK16.out (.inr HX9.out) 4 _)
      have hA17 := appE_keep HA.out HD.out.1.2.1 HK17.out
      obtain ⟨ns, m1, m2, m3⟩ := hA17
      have hnl : ns.length = k := by rw [← HC.out.1, ← m1, List.length_map]
      have HO17 : Hid (w17.ownsRow 0 46 5 (.slice ea k ec) k (rowsE ns)) := Lib.hid (by have := m2.1; rw [hnl] at this; exact this)
      have HNS := Lib.hid hnl
      have HM1 := Lib.hid m1
      have HM2 := Lib.hid m2
      have HM3 := Lib.hid m3
      have HLE : Hid (w.heap.size ≤ w17.heap.size) := Lib.hid HD17.out.1.1.size
      have c8 := Rw.cell HD17.out.2.1 (j := 8) (v := (.slice ea k ec)) rfl
      clear hk17 hr17 hu17 hw17 cc ff m1 m2 m3 hnl
      go_wp2_with (first
        | (refine wpList_load_mid rfl 46 _ rfl gX 0 rfl [.int .i64 xi, .int .i64 xt, .int .i64 xk, .string xd, .slice ua M uc] _ (Rw.whole HR17.out) Try.underlying46 rfl Try.infoEnt ?_)
        | (at_builtin; refine wpList_append_lies _ rfl _ _ 22 rfl 0 46 i0 _ 5 64 Try.underlying22 hi0 hz0 hz1 hz2 rfl (by decide) (.slice ea k ec) k (rowsE ns) rfl ((HO17.out).alloc _) ⟨w17.heap.size, 0, none⟩ 1 1 [.int .i64 xi, .int .i64 xt, .int .i64 xk, .string xd, .slice ua M uc] rfl rfl (World.news_of_block (heap_alloc_new w17 _)) (ent_cells_one _ _ _ _ _ _ _) (by decide) HMX.out HBT.out (Nat.zero_le _) (w17.heap.size + 1) (by simp) ?_; intro gg cap w18 hown hgrow hat hlt4; have hk18 := kept_grown (F := fun x => (Value.slice ea k ec).ownBlock = some x) (kept_below (below_more (Below.refl _ _) _)) hgrow (fun _ hk => .inl hk); have HD18 := Lib.hid (dst_kept HD17.out hk18 (fun x hx => ⟨HM3.out x hx, fun e => own_rw HO17.out HD17.out.1.2.2.1 (by decide) (e ▸ hx), fun e => (eyAt_unlike HO17.out HD17.out.1.2.1) (e ▸ hx), fun e => own_rw HO17.out HD17.out.2.1 (by decide) (e ▸ hx)⟩)); have c18 := Rw.cell HD18.out.2.1 (j := 8) (v := (.slice ea k ec)) rfl; have f18 := Rw.free HD18.out.2.1 8)
        | fail)
      have hA18 := appE_add HM1.out HM2.out HM3.out HLE.out (e := ⟨xi, xt, xk, xd, xm⟩) (u := .slice ua M uc) (by show World.ownsRow _ _ _ _ _ xm.length _; rw [← HMM.out]; exact HU17.out) HML.out HNS.out.symm hown hgrow (fun k hk => by
        simp only [Value.ownBlock, Option.some.injEq] at hk
        subst hk
        exact hat)
      have hA19 := appE_setM hA18 HD18.out.2.1 8 (.slice (some ⟨gg, 0, none⟩) (k + 1) cap)
      have hD19 := dst_set HD18.out 8 (.slice (some ⟨gg, 0, none⟩) (k + 1) cap)
      have HA19 := Lib.hid hA19
      have HD19 := Lib.hid hD19
      clear hown hgrow hat hlt4 hk18 c18 f18 c8 hA18 hA19 hD19
      go_roundw
      case rel =>
        refine ⟨k + 1, some ⟨gg, 0, none⟩, cap, es ++ [⟨xi, xt, xk, xd, xm⟩], t5, HKL.out, by go_num, Lib.hid ⟨by rw [List.length_append, HC.out.1]; rfl, ?_⟩, HD19, HA19⟩
        have h1 := HSN.out
        rw [HNTX.out] at h1
        exact h1
      case measure => have := HKL.out; simp [intOf]; omega
    · have HR : Hid (entsE l N s8 = (es, s)) := Lib.hid (by
        rw [HC.out.2]
        by_cases hb : s.2 = true
        · rw [entsE_bad l _ hb, List.append_nil]
        · have hkn : k = N := by cases hs : s.2 <;> simp_all <;> omega
          rw [hkn, Nat.sub_self, entsE, List.append_nil])
      have HEL : Hid (es.length ≤ 1000000) := Lib.hid (by rw [HC.out.1]; have := HN.out; omega)
      have HKE := Lib.hid HC.out.1
      obtain ⟨qb, hqb⟩ : ∃ qb, qb = s.2 := ⟨_, rfl⟩
      rw [← hqb] at d2
      have hstop : ((k : Int) < (N : Int) ∧ qb = true) ∨ ¬ ((k : Int) < (N : Int)) := by
        by_cases hh : k < N
        · refine .inl ⟨by omega, ?_⟩
          rw [hqb]
          cases hs : s.2
          · exact absurd ⟨hh, hs⟩ hgo
          · rfl
        · exact .inr (by omega)
      clear hgo hk hqb
      rcases hstop with ⟨hy, rfl⟩ | hyk
      · go_upto_region 29 with fail
        clear d2 hy
        have HRF : Hid (refE l = ((⟨3, fr, tq, tm, ix, lt, cm, false, es, zeroSn⟩ : MsgM), s)) := Lib.hid (by unfold refE; rw [HH.out]; unfold bodyE; dsimp only; rw [if_neg (by decide), if_neg (by decide), if_pos rfl, ← E5.out]; dsimp only; rw [← E6.out]; dsimp only; rw [← E7.out]; dsimp only; rw [← E8.out]; dsimp only; rw [Int.toNat_natCast, HR.out])
        have HSM : Hid (smallM (⟨3, fr, tq, tm, ix, lt, cm, false, es, zeroSn⟩ : MsgM)) := Lib.hid (by have h1 := refE_small l; rw [HRF.out] at h1; exact h1)
        have HAT : Hid (MsgAt w9 (.slice ea k ec) (.slice none 0 0) (⟨3, fr, tq, tm, ix, lt, cm, false, es, zeroSn⟩ : MsgM)) := Lib.hid (msgOwn_at (appE_msg HA.out HEL.out))
        have HEN := Lib.hid (rencode_any HAT.out HSM.out)
        unfold msgV at HEN
        dsimp only [zeroSn] at HEN
        obtain ⟨m, hm⟩ : ∃ m : MsgM, m = (⟨3, fr, tq, tm, ix, lt, cm, false, es, zeroSn⟩ : MsgM) := ⟨_, rfl⟩
        have HEN2 : Hid (Calls Try.prog 11 #[.agg #[.int .i64 3, .int .i64 fr, .int .i64 tq, .int .i64 tm, .int .i64 ix, .int .i64 lt, .int .i64 cm, .bool false, .slice ea k ec, .int .i64 0, .int .i64 0, .slice none 0 0, .string ⟨#[]⟩]] w9 fun e w' => EncV w9 w' e m) := Lib.hid (by rw [hm]; exact HEN.out)
        have HM := Lib.hid hm
        clear HEN hm
        obtain ⟨i9, bad⟩ := s
        go_wp2_with (first | (refine wpList_load_mid rfl 27 _ rfl gM 0 rfl [.int .i64 3, .int .i64 fr, .int .i64 tq, .int .i64 tm, .int .i64 ix, .int .i64 lt, .int .i64 cm, .bool false, .slice ea k ec, .int .i64 0, .int .i64 0, .slice none 0 0, .string ⟨#[]⟩] _ (Rw.whole HD.out.2.1) Try.underlying27 rfl Try.sizeMsg ?_) | fail)
        refine (HEN2.out).mono ?_
        rintro e wA ⟨vA, rfl, hoA, hbA⟩
        have HSA := Lib.hid (dst_below HD.out hbA)
        have HMA := Lib.hid (msgOwn_below (appE_msg (kd := 3) (fr := fr) (tq := tq) (tm := tm) (ix := ix) (lt := lt) (cm := cm) (yes := false) HA.out HEL.out) hbA)
        obtain ⟨aA, cA, rfl⟩ := own_len hoA
        have HBA := Lib.hid (bySl_of (own_sl hoA))
        have HB0 := Lib.hid (bySl_below HBY0.out (HSA.out.1.1.mono (Nat.le_refl _)))
        have hx := eyAt_cell HSA.out.1.2.1
        dsimp only at hx
        clear hoA hbA HEN2
        obtain ⟨NA, hNA⟩ : ∃ NA, NA = (encW m).length := ⟨_, rfl⟩
        rw [← hNA] at HBA ⊢
        cases bad with
        | true =>
          have HOK := Lib.hid (okE_bad HRF.out)
          clear hNA
          go_wp2_with (first | (refine wpList_alloc_z rfl 27 rfl #[.int .i64 0, .int .i64 0, .int .i64 0, .int .i64 0, .int .i64 0, .int .i64 0, .int .i64 0, .bool false, .slice none 0 0, .int .i64 0, .int .i64 0, .slice none 0 0, .string ⟨#[]⟩] hz ?_) | (refine wpList_store_mid rfl 27 _ _ rfl gR 0 #[.int .i64 0, .int .i64 0, .int .i64 0, .int .i64 0, .int .i64 0, .int .i64 0, .int .i64 0, .bool false, .slice none 0 0, .int .i64 0, .int .i64 0, .slice none 0 0, .string ⟨#[]⟩] rfl rfl (Rw.there HSA.out.1.2.2.1 0 _ (by simp)) Try.sizeMsg (msg_one _ _ _ _ _ _ _ _ _ _ _ _ _ _ _ _ _) ?_) | fail)
          have HEND := Lib.hid (Rw.storedAll HSA.out.1.2.2.1 [.int .i64 0, .int .i64 0, .int .i64 0, .int .i64 0, .int .i64 0, .int .i64 0, .int .i64 0, .bool false, .slice none 0 0, .int .i64 0, .int .i64 0, .slice none 0 0, .string ⟨#[]⟩] rfl)
          refine bodyPost_ret (v := .tuple #[.agg #[.int .i64 0, .int .i64 0, .int .i64 0, .int .i64 0, .int .i64 0, .int .i64 0, .int .i64 0, .bool false, .slice none 0 0, .int .i64 0, .int .i64 0, .slice none 0 0, .string ⟨#[]⟩], .int .i64 7]) ?_ rfl ?_
          case refine_2 => exact rdec_no HOK.out (below_stores HSA.out.1.1 HSA.out.1.2.2.2.1 _)
          exact results_row_tmp rfl _ _ gR 0 27 [.int .i64 0, .int .i64 0, .int .i64 0, .int .i64 0, .int .i64 0, .int .i64 0, .int .i64 0, .bool false, .slice none 0 0, .int .i64 0, .int .i64 0, .slice none 0 0, .string ⟨#[]⟩] _ rfl HEND.out Try.underlying27 rfl Try.sizeMsg (.int .i64 7) rfl
        | false =>
          rcases (show codW m = 0 ∨ codW m = 1 by unfold codW; split <;> simp) with hc | hc
          · rw [hc]
            have HC := Lib.hid hc
            have hcv1 := run_convert_bysl 30 5 9 Try.underlying30 Try.underlying5 Try.underlying9 HBA.out
            have hcv2 := run_convert_bysl 30 5 9 Try.underlying30 Try.underlying5 Try.underlying9 HB0.out
            have heq := name_eq (encW m) l
            obtain ⟨X, hX⟩ : ∃ X : ByteArray, X = ⟨(encW m).toArray⟩ := ⟨_, rfl⟩
            obtain ⟨Y, hY⟩ : ∃ Y : ByteArray, Y = ⟨l.toArray⟩ := ⟨_, rfl⟩
            rw [← hX] at hcv1 heq
            rw [← hY] at hcv2 heq
            clear hX hY hNA hc
            by_cases hen : encW m = l
            · rw [decide_eq_true hen] at heq
              have HOK := Lib.hid (okE_all HRF.out (by rw [← HM.out]; exact HC.out) (by rw [← HM.out]; exact hen))
              clear hen
              go_wp2_with (first | (refine wpList_load_mid rfl 27 _ rfl gM 0 rfl [.int .i64 3, .int .i64 fr, .int .i64 tq, .int .i64 tm, .int .i64 ix, .int .i64 lt, .int .i64 cm, .bool false, .slice ea k ec, .int .i64 0, .int .i64 0, .slice none 0 0, .string ⟨#[]⟩] _ (Rw.whole HSA.out.2.1) Try.underlying27 rfl Try.sizeMsg ?_) | (refine wpList_store_mid rfl 27 _ _ rfl gR 0 #[.int .i64 3, .int .i64 fr, .int .i64 tq, .int .i64 tm, .int .i64 ix, .int .i64 lt, .int .i64 cm, .bool false, .slice ea k ec, .int .i64 0, .int .i64 0, .slice none 0 0, .string ⟨#[]⟩] rfl rfl (Rw.there HSA.out.1.2.2.1 0 _ (by simp)) Try.sizeMsg (msg_one _ _ _ _ _ _ _ _ _ _ _ _ _ _ _ _ _) ?_) | fail)
              have HEND := Lib.hid (Rw.storedAll HSA.out.1.2.2.1 [.int .i64 3, .int .i64 fr, .int .i64 tq, .int .i64 tm, .int .i64 ix, .int .i64 lt, .int .i64 cm, .bool false, .slice ea k ec, .int .i64 0, .int .i64 0, .slice none 0 0, .string ⟨#[]⟩] rfl)
              refine bodyPost_ret (v := .tuple #[.agg #[.int .i64 3, .int .i64 fr, .int .i64 tq, .int .i64 tm, .int .i64 ix, .int .i64 lt, .int .i64 cm, .bool false, .slice ea k ec, .int .i64 0, .int .i64 0, .slice none 0 0, .string ⟨#[]⟩], .int .i64 0]) ?_ rfl ?_
              case refine_2 => exact rdec_yes HOK.out (congrArg Prod.fst HRF.out) (msgOwn_at (msgOwn_stores HMA.out HSA.out.1.2.2.1 _)) (below_stores HSA.out.1.1 HSA.out.1.2.2.2.1 _)
              exact results_row_tmp rfl _ _ gR 0 27 [.int .i64 3, .int .i64 fr, .int .i64 tq, .int .i64 tm, .int .i64 ix, .int .i64 lt, .int .i64 cm, .bool false, .slice ea k ec, .int .i64 0, .int .i64 0, .slice none 0 0, .string ⟨#[]⟩] _ rfl HEND.out Try.underlying27 rfl Try.sizeMsg (.int .i64 0) rfl
            · rw [decide_eq_false hen] at heq
              have HOK := Lib.hid (okE_enc HRF.out (by rw [← HM.out]; exact hen))
              clear hen
              go_wp2_with (first | (refine wpList_alloc_z rfl 27 rfl #[.int .i64 0, .int .i64 0, .int .i64 0, .int .i64 0, .int .i64 0, .int .i64 0, .int .i64 0, .bool false, .slice none 0 0, .int .i64 0, .int .i64 0, .slice none 0 0, .string ⟨#[]⟩] hz ?_) | (refine wpList_store_mid rfl 27 _ _ rfl gR 0 #[.int .i64 0, .int .i64 0, .int .i64 0, .int .i64 0, .int .i64 0, .int .i64 0, .int .i64 0, .bool false, .slice none 0 0, .int .i64 0, .int .i64 0, .slice none 0 0, .string ⟨#[]⟩] rfl rfl (Rw.there HSA.out.1.2.2.1 0 _ (by simp)) Try.sizeMsg (msg_one _ _ _ _ _ _ _ _ _ _ _ _ _ _ _ _ _) ?_) | fail)
              have HEND := Lib.hid (Rw.storedAll HSA.out.1.2.2.1 [.int .i64 0, .int .i64 0, .int .i64 0, .int .i64 0, .int .i64 0, .int .i64 0, .int .i64 0, .bool false, .slice none 0 0, .int .i64 0, .int .i64 0, .slice none 0 0, .string ⟨#[]⟩] rfl)
              refine bodyPost_ret (v := .tuple #[.agg #[.int .i64 0, .int .i64 0, .int .i64 0, .int .i64 0, .int .i64 0, .int .i64 0, .int .i64 0, .bool false, .slice none 0 0, .int .i64 0, .int .i64 0, .slice none 0 0, .string ⟨#[]⟩], .int .i64 7]) ?_ rfl ?_
              case refine_2 => exact rdec_no HOK.out (below_stores HSA.out.1.1 HSA.out.1.2.2.2.1 _)
              exact results_row_tmp rfl _ _ gR 0 27 [.int .i64 0, .int .i64 0, .int .i64 0, .int .i64 0, .int .i64 0, .int .i64 0, .int .i64 0, .bool false, .slice none 0 0, .int .i64 0, .int .i64 0, .slice none 0 0, .string ⟨#[]⟩] _ rfl HEND.out Try.underlying27 rfl Try.sizeMsg (.int .i64 7) rfl
          · rw [hc]
            have HOK := Lib.hid (okE_cod HRF.out (by rw [← HM.out, hc]; decide))
            clear hNA hc
            go_wp2_with (first | (refine wpList_alloc_z rfl 27 rfl #[.int .i64 0, .int .i64 0, .int .i64 0, .int .i64 0, .int .i64 0, .int .i64 0, .int .i64 0, .bool false, .slice none 0 0, .int .i64 0, .int .i64 0, .slice none 0 0, .string ⟨#[]⟩] hz ?_) | (refine wpList_store_mid rfl 27 _ _ rfl gR 0 #[.int .i64 0, .int .i64 0, .int .i64 0, .int .i64 0, .int .i64 0, .int .i64 0, .int .i64 0, .bool false, .slice none 0 0, .int .i64 0, .int .i64 0, .slice none 0 0, .string ⟨#[]⟩] rfl rfl (Rw.there HSA.out.1.2.2.1 0 _ (by simp)) Try.sizeMsg (msg_one _ _ _ _ _ _ _ _ _ _ _ _ _ _ _ _ _) ?_) | fail)
            have HEND := Lib.hid (Rw.storedAll HSA.out.1.2.2.1 [.int .i64 0, .int .i64 0, .int .i64 0, .int .i64 0, .int .i64 0, .int .i64 0, .int .i64 0, .bool false, .slice none 0 0, .int .i64 0, .int .i64 0, .slice none 0 0, .string ⟨#[]⟩] rfl)
            refine bodyPost_ret (v := .tuple #[.agg #[.int .i64 0, .int .i64 0, .int .i64 0, .int .i64 0, .int .i64 0, .int .i64 0, .int .i64 0, .bool false, .slice none 0 0, .int .i64 0, .int .i64 0, .slice none 0 0, .string ⟨#[]⟩], .int .i64 7]) ?_ rfl ?_
            case refine_2 => exact rdec_no HOK.out (below_stores HSA.out.1.1 HSA.out.1.2.2.2.1 _)
            exact results_row_tmp rfl _ _ gR 0 27 [.int .i64 0, .int .i64 0, .int .i64 0, .int .i64 0, .int .i64 0, .int .i64 0, .int .i64 0, .bool false, .slice none 0 0, .int .i64 0, .int .i64 0, .slice none 0 0, .string ⟨#[]⟩] _ rfl HEND.out Try.underlying27 rfl Try.sizeMsg (.int .i64 7) rfl

      · go_upto_region 29 with fail
        clear d2 hyk
        have HRF : Hid (refE l = ((⟨3, fr, tq, tm, ix, lt, cm, false, es, zeroSn⟩ : MsgM), s)) := Lib.hid (by unfold refE; rw [HH.out]; unfold bodyE; dsimp only; rw [if_neg (by decide), if_neg (by decide), if_pos rfl, ← E5.out]; dsimp only; rw [← E6.out]; dsimp only; rw [← E7.out]; dsimp only; rw [← E8.out]; dsimp only; rw [Int.toNat_natCast, HR.out])
        have HSM : Hid (smallM (⟨3, fr, tq, tm, ix, lt, cm, false, es, zeroSn⟩ : MsgM)) := Lib.hid (by have h1 := refE_small l; rw [HRF.out] at h1; exact h1)
        have HAT : Hid (MsgAt w9 (.slice ea k ec) (.slice none 0 0) (⟨3, fr, tq, tm, ix, lt, cm, false, es, zeroSn⟩ : MsgM)) := Lib.hid (msgOwn_at (appE_msg HA.out HEL.out))
        have HEN := Lib.hid (rencode_any HAT.out HSM.out)
        unfold msgV at HEN
        dsimp only [zeroSn] at HEN
        obtain ⟨m, hm⟩ : ∃ m : MsgM, m = (⟨3, fr, tq, tm, ix, lt, cm, false, es, zeroSn⟩ : MsgM) := ⟨_, rfl⟩
        have HEN2 : Hid (Calls Try.prog 11 #[.agg #[.int .i64 3, .int .i64 fr, .int .i64 tq, .int .i64 tm, .int .i64 ix, .int .i64 lt, .int .i64 cm, .bool false, .slice ea k ec, .int .i64 0, .int .i64 0, .slice none 0 0, .string ⟨#[]⟩]] w9 fun e w' => EncV w9 w' e m) := Lib.hid (by rw [hm]; exact HEN.out)
        have HM := Lib.hid hm
        clear HEN hm
        obtain ⟨i9, bad⟩ := s
        go_wp2_with (first | (refine wpList_load_mid rfl 27 _ rfl gM 0 rfl [.int .i64 3, .int .i64 fr, .int .i64 tq, .int .i64 tm, .int .i64 ix, .int .i64 lt, .int .i64 cm, .bool false, .slice ea k ec, .int .i64 0, .int .i64 0, .slice none 0 0, .string ⟨#[]⟩] _ (Rw.whole HD.out.2.1) Try.underlying27 rfl Try.sizeMsg ?_) | fail)
        refine (HEN2.out).mono ?_
        rintro e wA ⟨vA, rfl, hoA, hbA⟩
        have HSA := Lib.hid (dst_below HD.out hbA)
        have HMA := Lib.hid (msgOwn_below (appE_msg (kd := 3) (fr := fr) (tq := tq) (tm := tm) (ix := ix) (lt := lt) (cm := cm) (yes := false) HA.out HEL.out) hbA)
        obtain ⟨aA, cA, rfl⟩ := own_len hoA
        have HBA := Lib.hid (bySl_of (own_sl hoA))
        have HB0 := Lib.hid (bySl_below HBY0.out (HSA.out.1.1.mono (Nat.le_refl _)))
        have hx := eyAt_cell HSA.out.1.2.1
        dsimp only at hx
        clear hoA hbA HEN2
        obtain ⟨NA, hNA⟩ : ∃ NA, NA = (encW m).length := ⟨_, rfl⟩
        rw [← hNA] at HBA ⊢
        cases bad with
        | true =>
          have HOK := Lib.hid (okE_bad HRF.out)
          clear hNA
          go_wp2_with (first | (refine wpList_alloc_z rfl 27 rfl #[.int .i64 0, .int .i64 0, .int .i64 0, .int .i64 0, .int .i64 0, .int .i64 0, .int .i64 0, .bool false, .slice none 0 0, .int .i64 0, .int .i64 0, .slice none 0 0, .string ⟨#[]⟩] hz ?_) | (refine wpList_store_mid rfl 27 _ _ rfl gR 0 #[.int .i64 0, .int .i64 0, .int .i64 0, .int .i64 0, .int .i64 0, .int .i64 0, .int .i64 0, .bool false, .slice none 0 0, .int .i64 0, .int .i64 0, .slice none 0 0, .string ⟨#[]⟩] rfl rfl (Rw.there HSA.out.1.2.2.1 0 _ (by simp)) Try.sizeMsg (msg_one _ _ _ _ _ _ _ _ _ _ _ _ _ _ _ _ _) ?_) | fail)
          have HEND := Lib.hid (Rw.storedAll HSA.out.1.2.2.1 [.int .i64 0, .int .i64 0, .int .i64 0, .int .i64 0, .int .i64 0, .int .i64 0, .int .i64 0, .bool false, .slice none 0 0, .int .i64 0, .int .i64 0, .slice none 0 0, .string ⟨#[]⟩] rfl)
          refine bodyPost_ret (v := .tuple #[.agg #[.int .i64 0, .int .i64 0, .int .i64 0, .int .i64 0, .int .i64 0, .int .i64 0, .int .i64 0, .bool false, .slice none 0 0, .int .i64 0, .int .i64 0, .slice none 0 0, .string ⟨#[]⟩], .int .i64 7]) ?_ rfl ?_
          case refine_2 => exact rdec_no HOK.out (below_stores HSA.out.1.1 HSA.out.1.2.2.2.1 _)
          exact results_row_tmp rfl _ _ gR 0 27 [.int .i64 0, .int .i64 0, .int .i64 0, .int .i64 0, .int .i64 0, .int .i64 0, .int .i64 0, .bool false, .slice none 0 0, .int .i64 0, .int .i64 0, .slice none 0 0, .string ⟨#[]⟩] _ rfl HEND.out Try.underlying27 rfl Try.sizeMsg (.int .i64 7) rfl
        | false =>
          rcases (show codW m = 0 ∨ codW m = 1 by unfold codW; split <;> simp) with hc | hc
          · rw [hc]
            have HC := Lib.hid hc
            have hcv1 := run_convert_bysl 30 5 9 Try.underlying30 Try.underlying5 Try.underlying9 HBA.out
            have hcv2 := run_convert_bysl 30 5 9 Try.underlying30 Try.underlying5 Try.underlying9 HB0.out
            have heq := name_eq (encW m) l
            obtain ⟨X, hX⟩ : ∃ X : ByteArray, X = ⟨(encW m).toArray⟩ := ⟨_, rfl⟩
            obtain ⟨Y, hY⟩ : ∃ Y : ByteArray, Y = ⟨l.toArray⟩ := ⟨_, rfl⟩
            rw [← hX] at hcv1 heq
            rw [← hY] at hcv2 heq
            clear hX hY hNA hc
            by_cases hen : encW m = l
            · rw [decide_eq_true hen] at heq
              have HOK := Lib.hid (okE_all HRF.out (by rw [← HM.out]; exact HC.out) (by rw [← HM.out]; exact hen))
              clear hen
              go_wp2_with (first | (refine wpList_load_mid rfl 27 _ rfl gM 0 rfl [.int .i64 3, .int .i64 fr, .int .i64 tq, .int .i64 tm, .int .i64 ix, .int .i64 lt, .int .i64 cm, .bool false, .slice ea k ec, .int .i64 0, .int .i64 0, .slice none 0 0, .string ⟨#[]⟩] _ (Rw.whole HSA.out.2.1) Try.underlying27 rfl Try.sizeMsg ?_) | (refine wpList_store_mid rfl 27 _ _ rfl gR 0 #[.int .i64 3, .int .i64 fr, .int .i64 tq, .int .i64 tm, .int .i64 ix, .int .i64 lt, .int .i64 cm, .bool false, .slice ea k ec, .int .i64 0, .int .i64 0, .slice none 0 0, .string ⟨#[]⟩] rfl rfl (Rw.there HSA.out.1.2.2.1 0 _ (by simp)) Try.sizeMsg (msg_one _ _ _ _ _ _ _ _ _ _ _ _ _ _ _ _ _) ?_) | fail)
              have HEND := Lib.hid (Rw.storedAll HSA.out.1.2.2.1 [.int .i64 3, .int .i64 fr, .int .i64 tq, .int .i64 tm, .int .i64 ix, .int .i64 lt, .int .i64 cm, .bool false, .slice ea k ec, .int .i64 0, .int .i64 0, .slice none 0 0, .string ⟨#[]⟩] rfl)
              refine bodyPost_ret (v := .tuple #[.agg #[.int .i64 3, .int .i64 fr, .int .i64 tq, .int .i64 tm, .int .i64 ix, .int .i64 lt, .int .i64 cm, .bool false, .slice ea k ec, .int .i64 0, .int .i64 0, .slice none 0 0, .string ⟨#[]⟩], .int .i64 0]) ?_ rfl ?_
              case refine_2 => exact rdec_yes HOK.out (congrArg Prod.fst HRF.out) (msgOwn_at (msgOwn_stores HMA.out HSA.out.1.2.2.1 _)) (below_stores HSA.out.1.1 HSA.out.1.2.2.2.1 _)
              exact results_row_tmp rfl _ _ gR 0 27 [.int .i64 3, .int .i64 fr, .int .i64 tq, .int .i64 tm, .int .i64 ix, .int .i64 lt, .int .i64 cm, .bool false, .slice ea k ec, .int .i64 0, .int .i64 0, .slice none 0 0, .string ⟨#[]⟩] _ rfl HEND.out Try.underlying27 rfl Try.sizeMsg (.int .i64 0) rfl
            · rw [decide_eq_false hen] at heq
              have HOK := Lib.hid (okE_enc HRF.out (by rw [← HM.out]; exact hen))
              clear hen
              go_wp2_with (first | (refine wpList_alloc_z rfl 27 rfl #[.int .i64 0, .int .i64 0, .int .i64 0, .int .i64 0, .int .i64 0, .int .i64 0, .int .i64 0, .bool false, .slice none 0 0, .int .i64 0, .int .i64 0, .slice none 0 0, .string ⟨#[]⟩] hz ?_) | (refine wpList_store_mid rfl 27 _ _ rfl gR 0 #[.int .i64 0, .int .i64 0, .int .i64 0, .int .i64 0, .int .i64 0, .int .i64 0, .int .i64 0, .bool false, .slice none 0 0, .int .i64 0, .int .i64 0, .slice none 0 0, .string ⟨#[]⟩] rfl rfl (Rw.there HSA.out.1.2.2.1 0 _ (by simp)) Try.sizeMsg (msg_one _ _ _ _ _ _ _ _ _ _ _ _ _ _ _ _ _) ?_) | fail)
              have HEND := Lib.hid (Rw.storedAll HSA.out.1.2.2.1 [.int .i64 0, .int .i64 0, .int .i64 0, .int .i64 0, .int .i64 0, .int .i64 0, .int .i64 0, .bool false, .slice none 0 0, .int .i64 0, .int .i64 0, .slice none 0 0, .string ⟨#[]⟩] rfl)
              refine bodyPost_ret (v := .tuple #[.agg #[.int .i64 0, .int .i64 0, .int .i64 0, .int .i64 0, .int .i64 0, .int .i64 0, .int .i64 0, .bool false, .slice none 0 0, .int .i64 0, .int .i64 0, .slice none 0 0, .string ⟨#[]⟩], .int .i64 7]) ?_ rfl ?_
              case refine_2 => exact rdec_no HOK.out (below_stores HSA.out.1.1 HSA.out.1.2.2.2.1 _)
              exact results_row_tmp rfl _ _ gR 0 27 [.int .i64 0, .int .i64 0, .int .i64 0, .int .i64 0, .int .i64 0, .int .i64 0, .int .i64 0, .bool false, .slice none 0 0, .int .i64 0, .int .i64 0, .slice none 0 0, .string ⟨#[]⟩] _ rfl HEND.out Try.underlying27 rfl Try.sizeMsg (.int .i64 7) rfl
          · rw [hc]
            have HOK := Lib.hid (okE_cod HRF.out (by rw [← HM.out, hc]; decide))
            clear hNA hc
            go_wp2_with (first | (refine wpList_alloc_z rfl 27 rfl #[.int .i64 0, .int .i64 0, .int .i64 0, .int .i64 0, .int .i64 0, .int .i64 0, .int .i64 0, .bool false, .slice none 0 0, .int .i64 0, .int .i64 0, .slice none 0 0, .string ⟨#[]⟩] hz ?_) | (refine wpList_store_mid rfl 27 _ _ rfl gR 0 #[.int .i64 0, .int .i64 0, .int .i64 0, .int .i64 0, .int .i64 0, .int .i64 0, .int .i64 0, .bool false, .slice none 0 0, .int .i64 0, .int .i64 0, .slice none 0 0, .string ⟨#[]⟩] rfl rfl (Rw.there HSA.out.1.2.2.1 0 _ (by simp)) Try.sizeMsg (msg_one _ _ _ _ _ _ _ _ _ _ _ _ _ _ _ _ _) ?_) | fail)
            have HEND := Lib.hid (Rw.storedAll HSA.out.1.2.2.1 [.int .i64 0, .int .i64 0, .int .i64 0, .int .i64 0, .int .i64 0, .int .i64 0, .int .i64 0, .bool false, .slice none 0 0, .int .i64 0, .int .i64 0, .slice none 0 0, .string ⟨#[]⟩] rfl)
            refine bodyPost_ret (v := .tuple #[.agg #[.int .i64 0, .int .i64 0, .int .i64 0, .int .i64 0, .int .i64 0, .int .i64 0, .int .i64 0, .bool false, .slice none 0 0, .int .i64 0, .int .i64 0, .slice none 0 0, .string ⟨#[]⟩], .int .i64 7]) ?_ rfl ?_
            case refine_2 => exact rdec_no HOK.out (below_stores HSA.out.1.1 HSA.out.1.2.2.2.1 _)
            exact results_row_tmp rfl _ _ gR 0 27 [.int .i64 0, .int .i64 0, .int .i64 0, .int .i64 0, .int .i64 0, .int .i64 0, .int .i64 0, .bool false, .slice none 0 0, .int .i64 0, .int .i64 0, .slice none 0 0, .string ⟨#[]⟩] _ rfl HEND.out Try.underlying27 rfl Try.sizeMsg (.int .i64 7) rfl

set_option maxRecDepth 100000 in
set_option maxHeartbeats 16000000 in
theorem rdec_k4 {w : World} {v : Value} {l : List UInt8} (h : ByteSl w w.heap.size v l) (hl : l.length ≤ 20000) (hk : (headE l).1.kd = 4) :
    Calls Try.prog 14 #[v] w fun e w' => RDec w w' e l := by
  have hz := zero_cells Try.infoMsg
  obtain ⟨ba, bc, rfl, _⟩ := byteSl_len h
  have hS0 := dst_start h
  have HBY0 := Lib.hid (bySl_of h)
  obtain ⟨LB, hLB⟩ : ∃ LB, LB = l.length := ⟨_, rfl⟩
  rw [← hLB] at hS0 HBY0 ⊢
  have HL : Hid (l.length ≤ 1000000) := Lib.hid (by omega)
  obtain ⟨gR, hgR⟩ : ∃ gR, gR = w.heap.size := ⟨_, rfl⟩
  obtain ⟨gE, hgE⟩ : ∃ gE, gE = w.heap.size + 1 := ⟨_, rfl⟩
  obtain ⟨w0, hw0⟩ : ∃ w0, w0 = (w.alloc (.cells #[.int .i64 0, .int .i64 0, .int .i64 0, .int .i64 0, .int .i64 0, .int .i64 0, .int .i64 0, .bool false, .slice none 0 0, .int .i64 0, .int .i64 0, .slice none 0 0, .string ⟨#[]⟩] 27)).alloc (.cells #[.slice ba LB bc, .int .i64 0, .bool false] 63) := ⟨_, rfl⟩
  rw [← hw0, ← hgE, ← hgR] at hS0
  have HS0 := Lib.hid hS0
  obtain ⟨q1, e1⟩ : ∃ p, p = numE l 1 (0, false) := ⟨_, rfl⟩
  obtain ⟨kd, s1⟩ := q1
  obtain ⟨q2, e2⟩ : ∃ p, p = numE l 8 s1 := ⟨_, rfl⟩
  obtain ⟨fr, s2⟩ := q2
  obtain ⟨q3, e3⟩ : ∃ p, p = numE l 8 s2 := ⟨_, rfl⟩
  obtain ⟨tq, s3⟩ := q3
  obtain ⟨q4, e4⟩ : ∃ p, p = numE l 8 s3 := ⟨_, rfl⟩
  obtain ⟨tm, s4⟩ := q4
  have hh : headE l = (⟨kd, fr, tq, tm, 0, 0, 0, false, [], zeroSn⟩, s4) := by unfold headE; rw [← e1]; dsimp only; rw [← e2]; dsimp only; rw [← e3]; dsimp only; rw [← e4]
  have HH := Lib.hid hh
  rw [hh] at hk
  dsimp only at hk
  obtain rfl : kd = 4 := hk
  have HN1 := Lib.hid (eynum_any hS0.2.1 1 (by decide) HL.out)
  rw [← e1] at HN1
  have E2 := Lib.hid e2
  have E3 := Lib.hid e3
  have E4 := Lib.hid e4
  have HW0 := Lib.hid hw0
  have HGR := Lib.hid hgR
  have HGE := Lib.hid hgE
  have HLB := Lib.hid hLB
  clear h hl hS0 hh e1 e2 e3 e4 hLB hw0 hgR hgE 
  go_enter Try.func14, Try.ntmps14
  go_upto_region 2 with (first | (refine wpList_alloc_z rfl 27 rfl #[.int .i64 0, .int .i64 0, .int .i64 0, .int .i64 0, .int .i64 0, .int .i64 0, .int .i64 0, .bool false, .slice none 0 0, .int .i64 0, .int .i64 0, .slice none 0 0, .string ⟨#[]⟩] hz ?_) | fail)
  rw [← HW0.out, ← HGE.out, ← HGR.out]
  go_wp2_with fail
  refine (HN1.out).mono ?_
  rintro e w1 ⟨rfl, hv1⟩
  have HS1 := Lib.hid (ds0_num HS0.out hv1)
  have HN2 := Lib.hid (eynum_any hv1.1 8 (by decide) HL.out)
  rw [← E2.out] at HN2
  clear hv1 HN1
  go_wp2_with fail
  refine (HN2.out).mono ?_
  rintro e w2 ⟨rfl, hv2⟩
  have HS2 := Lib.hid (ds0_num HS1.out hv2)
  have HN3 := Lib.hid (eynum_any hv2.1 8 (by decide) HL.out)
  rw [← E3.out] at HN3
  clear hv2 HN2
  go_wp2_with fail
  refine (HN3.out).mono ?_
  rintro e w3 ⟨rfl, hv3⟩
  have HS3 := Lib.hid (ds0_num HS2.out hv3)
  have HN4 := Lib.hid (eynum_any hv3.1 8 (by decide) HL.out)
  rw [← E4.out] at HN4
  clear hv3 HN3
  go_wp2_with fail
  refine (HN4.out).mono ?_
  rintro e w4 ⟨rfl, hv4⟩
  have HS4 := Lib.hid (ds0_num HS3.out hv4)
  clear hv4 HN4
  obtain ⟨gM, hgM⟩ : ∃ gM, gM = w4.heap.size := ⟨_, rfl⟩
  obtain ⟨w5, hw5⟩ : ∃ w5, w5 = w4.alloc (.cells #[.int .i64 4, .int .i64 fr, .int .i64 tq, .int .i64 tm, .int .i64 0, .int .i64 0, .int .i64 0, .bool false, .slice none 0 0, .int .i64 0, .int .i64 0, .slice none 0 0, .string ⟨#[]⟩] 27) := ⟨_, rfl⟩
  have hS5 := dst_new HS4.out [.int .i64 4, .int .i64 fr, .int .i64 tq, .int .i64 tm, .int .i64 0, .int .i64 0, .int .i64 0, .bool false, .slice none 0 0, .int .i64 0, .int .i64 0, .slice none 0 0, .string ⟨#[]⟩]
  rw [← hw5, ← hgM] at hS5
  have HS5 := Lib.hid hS5
  have HW5 := Lib.hid hw5
  have HGM := Lib.hid hgM
  clear hS5 hw5 hgM
  go_upto_region 3 with (first | (refine wpList_alloc_z rfl 27 rfl #[.int .i64 0, .int .i64 0, .int .i64 0, .int .i64 0, .int .i64 0, .int .i64 0, .int .i64 0, .bool false, .slice none 0 0, .int .i64 0, .int .i64 0, .slice none 0 0, .string ⟨#[]⟩] hz ?_) | fail)
  rw [← HW5.out, ← HGM.out]
  have c0 := Rw.cell HS5.out.2.1 (j := 0) (v := (.int .i64 4)) rfl
  obtain ⟨qE5, eE5⟩ : ∃ p, p = yesE l s4 := ⟨_, rfl⟩
  obtain ⟨yes, s5⟩ := qE5
  have E5 := Lib.hid eE5
  clear eE5
  obtain ⟨qE6, eE6⟩ : ∃ p, p = numE l 8 s5 := ⟨_, rfl⟩
  obtain ⟨ix, s6⟩ := qE6
  have E6 := Lib.hid eE6
  clear eE6
  have HQ := Lib.hid (eyyes_any HS5.out.1.2.1 HL.out)
  rw [← E5.out] at HQ
  go_wp2_with fail
  refine (HQ.out).mono ?_
  rintro e wq5 ⟨rfl, hv5⟩
  have Hs5 := Lib.hid (dst_num HS5.out hv5)
  have cc := Rw.cell Hs5.out.2.1 (j := 7) (v := (.bool false)) rfl
  have ff := Rw.free Hs5.out.2.1 7
  clear hv5 HQ
  go_upto_region 23 with fail
  obtain ⟨wr5, hwr5⟩ : ∃ wr, wr = wq5.setCell ⟨gM, 7, none⟩ (.bool yes) := ⟨_, rfl⟩
  have hS5 := dst_set Hs5.out 7 (.bool yes)
  rw [← hwr5] at hS5 ⊢
  have HU5 : Hid (DSt w wr5 gR gE gM l s5 [.int .i64 4, .int .i64 fr, .int .i64 tq, .int .i64 tm, .int .i64 0, .int .i64 0, .int .i64 0, .bool yes, .slice none 0 0, .int .i64 0, .int .i64 0, .slice none 0 0, .string ⟨#[]⟩]) := Lib.hid hS5
  clear hwr5 hS5 cc ff
  have HQ := Lib.hid (eynum_any HU5.out.1.2.1 8 (by decide) HL.out)
  rw [← E6.out] at HQ
  go_wp2_with fail
  refine (HQ.out).mono ?_
  rintro e wq6 ⟨rfl, hv6⟩
  have Hs6 := Lib.hid (dst_num HU5.out hv6)
  have cc := Rw.cell Hs6.out.2.1 (j := 4) (v := (.int .i64 0)) rfl
  have ff := Rw.free Hs6.out.2.1 4
  clear hv6 HQ
  go_upto_region 29 with fail
  obtain ⟨wr6, hwr6⟩ : ∃ wr, wr = wq6.setCell ⟨gM, 4, none⟩ (.int .i64 ix) := ⟨_, rfl⟩
  have hS6 := dst_set Hs6.out 4 (.int .i64 ix)
  rw [← hwr6] at hS6 ⊢
  have HU6 : Hid (DSt w wr6 gR gE gM l s6 [.int .i64 4, .int .i64 fr, .int .i64 tq, .int .i64 tm, .int .i64 ix, .int .i64 0, .int .i64 0, .bool yes, .slice none 0 0, .int .i64 0, .int .i64 0, .slice none 0 0, .string ⟨#[]⟩]) := Lib.hid hS6
  clear hwr6 hS6 cc ff
  have HRF : Hid (refE l = ((⟨4, fr, tq, tm, ix, 0, 0, yes, [], zeroSn⟩ : MsgM), s6)) := Lib.hid (by unfold refE; rw [HH.out]; unfold bodyE; dsimp only; rw [if_neg (by decide), if_neg (by decide), if_neg (by decide), if_pos rfl, ← E5.out]; dsimp only; rw [← E6.out])
  have HSM : Hid (smallM (⟨4, fr, tq, tm, ix, 0, 0, yes, [], zeroSn⟩ : MsgM)) := Lib.hid (by have h1 := refE_small l; rw [HRF.out] at h1; exact h1)
  have HAT : Hid (MsgAt wr6 (.slice none 0 0) (.slice none 0 0) (⟨4, fr, tq, tm, ix, 0, 0, yes, [], zeroSn⟩ : MsgM)) := Lib.hid (msgAt_nil wr6 rfl rfl)
  have HEN := Lib.hid (rencode_any HAT.out HSM.out)
  unfold msgV at HEN
  dsimp only [zeroSn] at HEN
  obtain ⟨m, hm⟩ : ∃ m : MsgM, m = (⟨4, fr, tq, tm, ix, 0, 0, yes, [], zeroSn⟩ : MsgM) := ⟨_, rfl⟩
  have HEN2 : Hid (Calls Try.prog 11 #[.agg #[.int .i64 4, .int .i64 fr, .int .i64 tq, .int .i64 tm, .int .i64 ix, .int .i64 0, .int .i64 0, .bool yes, .slice none 0 0, .int .i64 0, .int .i64 0, .slice none 0 0, .string ⟨#[]⟩]] wr6 fun e w' => EncV wr6 w' e m) := Lib.hid (by rw [hm]; exact HEN.out)
  have HM := Lib.hid hm
  clear HEN hm
  obtain ⟨i9, bad⟩ := s6
  clear c0
  go_wp2_with (first | (refine wpList_load_mid rfl 27 _ rfl gM 0 rfl [.int .i64 4, .int .i64 fr, .int .i64 tq, .int .i64 tm, .int .i64 ix, .int .i64 0, .int .i64 0, .bool yes, .slice none 0 0, .int .i64 0, .int .i64 0, .slice none 0 0, .string ⟨#[]⟩] _ (Rw.whole HU6.out.2.1) Try.underlying27 rfl Try.sizeMsg ?_) | fail)
  refine (HEN2.out).mono ?_
  rintro e wA ⟨vA, rfl, hoA, hbA⟩
  have HSA := Lib.hid (dst_below HU6.out hbA)
  obtain ⟨aA, cA, rfl⟩ := own_len hoA
  have HBA := Lib.hid (bySl_of (own_sl hoA))
  have HB0 := Lib.hid (bySl_below HBY0.out (HSA.out.1.1.mono (Nat.le_refl _)))
  have hx := eyAt_cell HSA.out.1.2.1
  dsimp only at hx
  clear hoA hbA HEN2
  obtain ⟨NA, hNA⟩ : ∃ NA, NA = (encW m).length := ⟨_, rfl⟩
  rw [← hNA] at HBA ⊢
  cases bad with
  | true =>
    have HOK := Lib.hid (okE_bad HRF.out)
    clear hNA
    go_wp2_with (first | (refine wpList_alloc_z rfl 27 rfl #[.int .i64 0, .int .i64 0, .int .i64 0, .int .i64 0, .int .i64 0, .int .i64 0, .int .i64 0, .bool false, .slice none 0 0, .int .i64 0, .int .i64 0, .slice none 0 0, .string ⟨#[]⟩] hz ?_) | (refine wpList_store_mid rfl 27 _ _ rfl gR 0 #[.int .i64 0, .int .i64 0, .int .i64 0, .int .i64 0, .int .i64 0, .int .i64 0, .int .i64 0, .bool false, .slice none 0 0, .int .i64 0, .int .i64 0, .slice none 0 0, .string ⟨#[]⟩] rfl rfl (Rw.there HSA.out.1.2.2.1 0 _ (by simp)) Try.sizeMsg (msg_one _ _ _ _ _ _ _ _ _ _ _ _ _ _ _ _ _) ?_) | fail)
    have HEND := Lib.hid (Rw.storedAll HSA.out.1.2.2.1 [.int .i64 0, .int .i64 0, .int .i64 0, .int .i64 0, .int .i64 0, .int .i64 0, .int .i64 0, .bool false, .slice none 0 0, .int .i64 0, .int .i64 0, .slice none 0 0, .string ⟨#[]⟩] rfl)
    refine bodyPost_ret (v := .tuple #[.agg #[.int .i64 0, .int .i64 0, .int .i64 0, .int .i64 0, .int .i64 0, .int .i64 0, .int .i64 0, .bool false, .slice none 0 0, .int .i64 0, .int .i64 0, .slice none 0 0, .string ⟨#[]⟩], .int .i64 7]) ?_ rfl ?_
    case refine_2 => exact rdec_no HOK.out (below_stores HSA.out.1.1 HSA.out.1.2.2.2.1 _)
    exact results_row_tmp rfl _ _ gR 0 27 [.int .i64 0, .int .i64 0, .int .i64 0, .int .i64 0, .int .i64 0, .int .i64 0, .int .i64 0, .bool false, .slice none 0 0, .int .i64 0, .int .i64 0, .slice none 0 0, .string ⟨#[]⟩] _ rfl HEND.out Try.underlying27 rfl Try.sizeMsg (.int .i64 7) rfl
  | false =>
    rcases (show codW m = 0 ∨ codW m = 1 by unfold codW; split <;> simp) with hc | hc
    · rw [hc]
      have HC := Lib.hid hc
      have hcv1 := run_convert_bysl 30 5 9 Try.underlying30 Try.underlying5 Try.underlying9 HBA.out
      have hcv2 := run_convert_bysl 30 5 9 Try.underlying30 Try.underlying5 Try.underlying9 HB0.out
      have heq := name_eq (encW m) l
      obtain ⟨X, hX⟩ : ∃ X : ByteArray, X = ⟨(encW m).toArray⟩ := ⟨_, rfl⟩
      obtain ⟨Y, hY⟩ : ∃ Y : ByteArray, Y = ⟨l.toArray⟩ := ⟨_, rfl⟩
      rw [← hX] at hcv1 heq
      rw [← hY] at hcv2 heq
      clear hX hY hNA hc
      by_cases hen : encW m = l
      · rw [decide_eq_true hen] at heq
        have HOK := Lib.hid (okE_all HRF.out (by rw [← HM.out]; exact HC.out) (by rw [← HM.out]; exact hen))
        clear hen
        go_wp2_with (first | (refine wpList_load_mid rfl 27 _ rfl gM 0 rfl [.int .i64 4, .int .i64 fr, .int .i64 tq, .int .i64 tm, .int .i64 ix, .int .i64 0, .int .i64 0, .bool yes, .slice none 0 0, .int .i64 0, .int .i64 0, .slice none 0 0, .string ⟨#[]⟩] _ (Rw.whole HSA.out.2.1) Try.underlying27 rfl Try.sizeMsg ?_) | (refine wpList_store_mid rfl 27 _ _ rfl gR 0 #[.int .i64 4, .int .i64 fr, .int .i64 tq, .int .i64 tm, .int .i64 ix, .int .i64 0, .int .i64 0, .bool yes, .slice none 0 0, .int .i64 0, .int .i64 0, .slice none 0 0, .string ⟨#[]⟩] rfl rfl (Rw.there HSA.out.1.2.2.1 0 _ (by simp)) Try.sizeMsg (msg_one _ _ _ _ _ _ _ _ _ _ _ _ _ _ _ _ _) ?_) | fail)
        have HEND := Lib.hid (Rw.storedAll HSA.out.1.2.2.1 [.int .i64 4, .int .i64 fr, .int .i64 tq, .int .i64 tm, .int .i64 ix, .int .i64 0, .int .i64 0, .bool yes, .slice none 0 0, .int .i64 0, .int .i64 0, .slice none 0 0, .string ⟨#[]⟩] rfl)
        refine bodyPost_ret (v := .tuple #[.agg #[.int .i64 4, .int .i64 fr, .int .i64 tq, .int .i64 tm, .int .i64 ix, .int .i64 0, .int .i64 0, .bool yes, .slice none 0 0, .int .i64 0, .int .i64 0, .slice none 0 0, .string ⟨#[]⟩], .int .i64 0]) ?_ rfl ?_
        case refine_2 => exact rdec_yes HOK.out (congrArg Prod.fst HRF.out) (msgAt_nil _ rfl rfl) (below_stores HSA.out.1.1 HSA.out.1.2.2.2.1 _)
        exact results_row_tmp rfl _ _ gR 0 27 [.int .i64 4, .int .i64 fr, .int .i64 tq, .int .i64 tm, .int .i64 ix, .int .i64 0, .int .i64 0, .bool yes, .slice none 0 0, .int .i64 0, .int .i64 0, .slice none 0 0, .string ⟨#[]⟩] _ rfl HEND.out Try.underlying27 rfl Try.sizeMsg (.int .i64 0) rfl
      · rw [decide_eq_false hen] at heq
        have HOK := Lib.hid (okE_enc HRF.out (by rw [← HM.out]; exact hen))
        clear hen
        go_wp2_with (first | (refine wpList_alloc_z rfl 27 rfl #[.int .i64 0, .int .i64 0, .int .i64 0, .int .i64 0, .int .i64 0, .int .i64 0, .int .i64 0, .bool false, .slice none 0 0, .int .i64 0, .int .i64 0, .slice none 0 0, .string ⟨#[]⟩] hz ?_) | (refine wpList_store_mid rfl 27 _ _ rfl gR 0 #[.int .i64 0, .int .i64 0, .int .i64 0, .int .i64 0, .int .i64 0, .int .i64 0, .int .i64 0, .bool false, .slice none 0 0, .int .i64 0, .int .i64 0, .slice none 0 0, .string ⟨#[]⟩] rfl rfl (Rw.there HSA.out.1.2.2.1 0 _ (by simp)) Try.sizeMsg (msg_one _ _ _ _ _ _ _ _ _ _ _ _ _ _ _ _ _) ?_) | fail)
        have HEND := Lib.hid (Rw.storedAll HSA.out.1.2.2.1 [.int .i64 0, .int .i64 0, .int .i64 0, .int .i64 0, .int .i64 0, .int .i64 0, .int .i64 0, .bool false, .slice none 0 0, .int .i64 0, .int .i64 0, .slice none 0 0, .string ⟨#[]⟩] rfl)
        refine bodyPost_ret (v := .tuple #[.agg #[.int .i64 0, .int .i64 0, .int .i64 0, .int .i64 0, .int .i64 0, .int .i64 0, .int .i64 0, .bool false, .slice none 0 0, .int .i64 0, .int .i64 0, .slice none 0 0, .string ⟨#[]⟩], .int .i64 7]) ?_ rfl ?_
        case refine_2 => exact rdec_no HOK.out (below_stores HSA.out.1.1 HSA.out.1.2.2.2.1 _)
        exact results_row_tmp rfl _ _ gR 0 27 [.int .i64 0, .int .i64 0, .int .i64 0, .int .i64 0, .int .i64 0, .int .i64 0, .int .i64 0, .bool false, .slice none 0 0, .int .i64 0, .int .i64 0, .slice none 0 0, .string ⟨#[]⟩] _ rfl HEND.out Try.underlying27 rfl Try.sizeMsg (.int .i64 7) rfl
    · rw [hc]
      have HOK := Lib.hid (okE_cod HRF.out (by rw [← HM.out, hc]; decide))
      clear hNA hc
      go_wp2_with (first | (refine wpList_alloc_z rfl 27 rfl #[.int .i64 0, .int .i64 0, .int .i64 0, .int .i64 0, .int .i64 0, .int .i64 0, .int .i64 0, .bool false, .slice none 0 0, .int .i64 0, .int .i64 0, .slice none 0 0, .string ⟨#[]⟩] hz ?_) | (refine wpList_store_mid rfl 27 _ _ rfl gR 0 #[.int .i64 0, .int .i64 0, .int .i64 0, .int .i64 0, .int .i64 0, .int .i64 0, .int .i64 0, .bool false, .slice none 0 0, .int .i64 0, .int .i64 0, .slice none 0 0, .string ⟨#[]⟩] rfl rfl (Rw.there HSA.out.1.2.2.1 0 _ (by simp)) Try.sizeMsg (msg_one _ _ _ _ _ _ _ _ _ _ _ _ _ _ _ _ _) ?_) | fail)
      have HEND := Lib.hid (Rw.storedAll HSA.out.1.2.2.1 [.int .i64 0, .int .i64 0, .int .i64 0, .int .i64 0, .int .i64 0, .int .i64 0, .int .i64 0, .bool false, .slice none 0 0, .int .i64 0, .int .i64 0, .slice none 0 0, .string ⟨#[]⟩] rfl)
      refine bodyPost_ret (v := .tuple #[.agg #[.int .i64 0, .int .i64 0, .int .i64 0, .int .i64 0, .int .i64 0, .int .i64 0, .int .i64 0, .bool false, .slice none 0 0, .int .i64 0, .int .i64 0, .slice none 0 0, .string ⟨#[]⟩], .int .i64 7]) ?_ rfl ?_
      case refine_2 => exact rdec_no HOK.out (below_stores HSA.out.1.1 HSA.out.1.2.2.2.1 _)
      exact results_row_tmp rfl _ _ gR 0 27 [.int .i64 0, .int .i64 0, .int .i64 0, .int .i64 0, .int .i64 0, .int .i64 0, .int .i64 0, .bool false, .slice none 0 0, .int .i64 0, .int .i64 0, .slice none 0 0, .string ⟨#[]⟩] _ rfl HEND.out Try.underlying27 rfl Try.sizeMsg (.int .i64 7) rfl

set_option maxRecDepth 100000 in
set_option maxHeartbeats 16000000 in
theorem rdec_k5 {w : World} {v : Value} {l : List UInt8} (h : ByteSl w w.heap.size v l) (hl : l.length ≤ 20000) (hk : (headE l).1.kd = 5) :
    Calls Try.prog 14 #[v] w fun e w' => RDec w w' e l := by
  have hz := zero_cells Try.infoMsg
  obtain ⟨ba, bc, rfl, _⟩ := byteSl_len h
  have hS0 := dst_start h
  have HBY0 := Lib.hid (bySl_of h)
  obtain ⟨LB, hLB⟩ : ∃ LB, LB = l.length := ⟨_, rfl⟩
  rw [← hLB] at hS0 HBY0 ⊢
  have HL : Hid (l.length ≤ 1000000) := Lib.hid (by omega)
  obtain ⟨gR, hgR⟩ : ∃ gR, gR = w.heap.size := ⟨_, rfl⟩
  obtain ⟨gE, hgE⟩ : ∃ gE, gE = w.heap.size + 1 := ⟨_, rfl⟩
  obtain ⟨w0, hw0⟩ : ∃ w0, w0 = (w.alloc (.cells #[.int .i64 0, .int .i64 0, .int .i64 0, .int .i64 0, .int .i64 0, .int .i64 0, .int .i64 0, .bool false, .slice none 0 0, .int .i64 0, .int .i64 0, .slice none 0 0, .string ⟨#[]⟩] 27)).alloc (.cells #[.slice ba LB bc, .int .i64 0, .bool false] 63) := ⟨_, rfl⟩
  rw [← hw0, ← hgE, ← hgR] at hS0
  have HS0 := Lib.hid hS0
  obtain ⟨q1, e1⟩ : ∃ p, p = numE l 1 (0, false) := ⟨_, rfl⟩
  obtain ⟨kd, s1⟩ := q1
  obtain ⟨q2, e2⟩ : ∃ p, p = numE l 8 s1 := ⟨_, rfl⟩
  obtain ⟨fr, s2⟩ := q2
  obtain ⟨q3, e3⟩ : ∃ p, p = numE l 8 s2 := ⟨_, rfl⟩
  obtain ⟨tq, s3⟩ := q3
  obtain ⟨q4, e4⟩ : ∃ p, p = numE l 8 s3 := ⟨_, rfl⟩
  obtain ⟨tm, s4⟩ := q4
  have hh : headE l = (⟨kd, fr, tq, tm, 0, 0, 0, false, [], zeroSn⟩, s4) := by unfold headE; rw [← e1]; dsimp only; rw [← e2]; dsimp only; rw [← e3]; dsimp only; rw [← e4]
  have HH := Lib.hid hh
  rw [hh] at hk
  dsimp only at hk
  obtain rfl : kd = 5 := hk
  have HN1 := Lib.hid (eynum_any hS0.2.1 1 (by decide) HL.out)
  rw [← e1] at HN1
  have E2 := Lib.hid e2
  have E3 := Lib.hid e3
  have E4 := Lib.hid e4
  have HW0 := Lib.hid hw0
  have HGR := Lib.hid hgR
  have HGE := Lib.hid hgE
  have HLB := Lib.hid hLB
  clear h hl hS0 hh e1 e2 e3 e4 hLB hw0 hgR hgE 
  go_enter Try.func14, Try.ntmps14
  go_upto_region 2 with (first | (refine wpList_alloc_z rfl 27 rfl #[.int .i64 0, .int .i64 0, .int .i64 0, .int .i64 0, .int .i64 0, .int .i64 0, .int .i64 0, .bool false, .slice none 0 0, .int .i64 0, .int .i64 0, .slice none 0 0, .string ⟨#[]⟩] hz ?_) | fail)
  rw [← HW0.out, ← HGE.out, ← HGR.out]
  go_wp2_with fail
  refine (HN1.out).mono ?_
  rintro e w1 ⟨rfl, hv1⟩
  have HS1 := Lib.hid (ds0_num HS0.out hv1)
  have HN2 := Lib.hid (eynum_any hv1.1 8 (by decide) HL.out)
  rw [← E2.out] at HN2
  clear hv1 HN1
  go_wp2_with fail
  refine (HN2.out).mono ?_
  rintro e w2 ⟨rfl, hv2⟩
  have HS2 := Lib.hid (ds0_num HS1.out hv2)
  have HN3 := Lib.hid (eynum_any hv2.1 8 (by decide) HL.out)
  rw [← E3.out] at HN3
  clear hv2 HN2
  go_wp2_with fail
  refine (HN3.out).mono ?_
  rintro e w3 ⟨rfl, hv3⟩
  have HS3 := Lib.hid (ds0_num HS2.out hv3)
  have HN4 := Lib.hid (eynum_any hv3.1 8 (by decide) HL.out)
  rw [← E4.out] at HN4
  clear hv3 HN3
  go_wp2_with fail
  refine (HN4.out).mono ?_
  rintro e w4 ⟨rfl, hv4⟩
  have HS4 := Lib.hid (ds0_num HS3.out hv4)
  clear hv4 HN4
  obtain ⟨gM, hgM⟩ : ∃ gM, gM = w4.heap.size := ⟨_, rfl⟩
  obtain ⟨w5, hw5⟩ : ∃ w5, w5 = w4.alloc (.cells #[.int .i64 5, .int .i64 fr, .int .i64 tq, .int .i64 tm, .int .i64 0, .int .i64 0, .int .i64 0, .bool false, .slice none 0 0, .int .i64 0, .int .i64 0, .slice none 0 0, .string ⟨#[]⟩] 27) := ⟨_, rfl⟩
  have hS5 := dst_new HS4.out [.int .i64 5, .int .i64 fr, .int .i64 tq, .int .i64 tm, .int .i64 0, .int .i64 0, .int .i64 0, .bool false, .slice none 0 0, .int .i64 0, .int .i64 0, .slice none 0 0, .string ⟨#[]⟩]
  rw [← hw5, ← hgM] at hS5
  have HS5 := Lib.hid hS5
  have HW5 := Lib.hid hw5
  have HGM := Lib.hid hgM
  clear hS5 hw5 hgM
  go_upto_region 3 with (first | (refine wpList_alloc_z rfl 27 rfl #[.int .i64 0, .int .i64 0, .int .i64 0, .int .i64 0, .int .i64 0, .int .i64 0, .int .i64 0, .bool false, .slice none 0 0, .int .i64 0, .int .i64 0, .slice none 0 0, .string ⟨#[]⟩] hz ?_) | fail)
  rw [← HW5.out, ← HGM.out]
  have c0 := Rw.cell HS5.out.2.1 (j := 0) (v := (.int .i64 5)) rfl
  obtain ⟨qE5, eE5⟩ : ∃ p, p = numE l 8 s4 := ⟨_, rfl⟩
  obtain ⟨si, s5⟩ := qE5
  have E5 := Lib.hid eE5
  clear eE5
  obtain ⟨qE6, eE6⟩ : ∃ p, p = numE l 8 s5 := ⟨_, rfl⟩
  obtain ⟨st, s6⟩ := qE6
  have E6 := Lib.hid eE6
  clear eE6
  obtain ⟨qE7, eE7⟩ : ∃ p, p = lstE l s6 := ⟨_, rfl⟩
  obtain ⟨ms, s7⟩ := qE7
  have E7 := Lib.hid eE7
  clear eE7
  obtain ⟨qE8, eE8⟩ : ∃ p, p = txtE l s7 := ⟨_, rfl⟩
  obtain ⟨d, s8⟩ := qE8
  have E8 := Lib.hid eE8
  clear eE8
  obtain ⟨sd, hsd⟩ : ∃ sd : ByteArray, sd = ⟨d.toArray⟩ := ⟨_, rfl⟩
  have HSD := Lib.hid hsd
  clear hsd
  obtain ⟨M, hM⟩ : ∃ M, M = ms.length := ⟨_, rfl⟩
  have HMM := Lib.hid hM
  clear hM
  have HQ := Lib.hid (eynum_any HS5.out.1.2.1 8 (by decide) HL.out)
  rw [← E5.out] at HQ
  go_wp2_with fail
  refine (HQ.out).mono ?_
  rintro e wq5 ⟨rfl, hv5⟩
  have Hs5 := Lib.hid (dst_num HS5.out hv5)
  have cc := Rw.cell Hs5.out.2.1 (j := 9) (v := (.int .i64 0)) rfl
  have ff := Rw.free Hs5.out.2.1 9
  clear hv5 HQ
  go_upto_region 26 with fail
  obtain ⟨wr5, hwr5⟩ : ∃ wr, wr = wq5.setCell ⟨gM, 9, none⟩ (.int .i64 si) := ⟨_, rfl⟩
  have hS5 := dst_set Hs5.out 9 (.int .i64 si)
  rw [← hwr5] at hS5 ⊢
  have HU5 : Hid (DSt w wr5 gR gE gM l s5 [.int .i64 5, .int .i64 fr, .int .i64 tq, .int .i64 tm, .int .i64 0, .int .i64 0, .int .i64 0, .bool false, .slice none 0 0, .int .i64 si, .int .i64 0, .slice none 0 0, .string ⟨#[]⟩]) := Lib.hid hS5
  clear hwr5 hS5 cc ff
  have HQ := Lib.hid (eynum_any HU5.out.1.2.1 8 (by decide) HL.out)
  rw [← E6.out] at HQ
  go_wp2_with fail
  refine (HQ.out).mono ?_
  rintro e wq6 ⟨rfl, hv6⟩
  have Hs6 := Lib.hid (dst_num HU5.out hv6)
  have cc := Rw.cell Hs6.out.2.1 (j := 10) (v := (.int .i64 0)) rfl
  have ff := Rw.free Hs6.out.2.1 10
  clear hv6 HQ
  go_upto_region 27 with fail
  obtain ⟨wr6, hwr6⟩ : ∃ wr, wr = wq6.setCell ⟨gM, 10, none⟩ (.int .i64 st) := ⟨_, rfl⟩
  have hS6 := dst_set Hs6.out 10 (.int .i64 st)
  rw [← hwr6] at hS6 ⊢
  have HU6 : Hid (DSt w wr6 gR gE gM l s6 [.int .i64 5, .int .i64 fr, .int .i64 tq, .int .i64 tm, .int .i64 0, .int .i64 0, .int .i64 0, .bool false, .slice none 0 0, .int .i64 si, .int .i64 st, .slice none 0 0, .string ⟨#[]⟩]) := Lib.hid hS6
  clear hwr6 hS6 cc ff
  have HQ := Lib.hid (eyints_any HU6.out.1.2.1 HL.out)
  rw [← E7.out] at HQ
  go_wp2_with fail
  refine (HQ.out).mono ?_
  rintro e wq7 ⟨v7, rfl, ho7, hv7⟩
  have HT7 := Lib.hid (dst_num HU6.out hv7)
  obtain ⟨ma, mc, rfl⟩ := own_len ho7
  dsimp only at ho7 ⊢
  rw [← HMM.out] at ho7 ⊢
  have HO7 := Lib.hid (own_mono ho7 (Nat.zero_le _))
  have cc := Rw.cell HT7.out.2.1 (j := 11) (v := (.slice none 0 0)) rfl
  have ff := Rw.free HT7.out.2.1 11
  clear hv7 HQ ho7
  go_upto_region 28 with fail
  obtain ⟨wr7, hwr7⟩ : ∃ wr, wr = wq7.setCell ⟨gM, 11, none⟩ (.slice ma M mc) := ⟨_, rfl⟩
  have hS7 := dst_set HT7.out 11 (.slice ma M mc)
  have hP7 := own_store HO7.out HT7.out.2.1 (by decide) 11 (.slice ma M mc)
  rw [← hwr7] at hS7 hP7 ⊢
  have HU7 : Hid (DSt w wr7 gR gE gM l s7 [.int .i64 5, .int .i64 fr, .int .i64 tq, .int .i64 tm, .int .i64 0, .int .i64 0, .int .i64 0, .bool false, .slice none 0 0, .int .i64 si, .int .i64 st, .slice ma M mc, .string ⟨#[]⟩]) := Lib.hid hS7
  have HP7 := Lib.hid hP7
  clear hwr7 hS7 hP7 cc ff
  have HQ := Lib.hid (eytext_any HU7.out.1.2.1 HL.out)
  rw [← E8.out] at HQ
  go_wp2_with fail
  refine (HQ.out).mono ?_
  rintro e wq8 ⟨rfl, hv8⟩
  have HT8 := Lib.hid (dst_num HU7.out hv8)
  have HP8 := Lib.hid (ey_own HP7.out HU7.out.1.2.1 hv8.2)
  dsimp only at HT8 ⊢
  rw [← HSD.out]
  have cc := Rw.cell HT8.out.2.1 (j := 12) (v := (.string ⟨#[]⟩)) rfl
  have ff := Rw.free HT8.out.2.1 12
  clear hv8 HQ
  go_upto_region 29 with fail
  obtain ⟨wr8, hwr8⟩ : ∃ wr, wr = wq8.setCell ⟨gM, 12, none⟩ (.string sd) := ⟨_, rfl⟩
  have hS8 := dst_set HT8.out 12 (.string sd)
  have hP8 := own_store HP8.out HT8.out.2.1 (by decide) 12 (.string sd)
  rw [← hwr8] at hS8 hP8 ⊢
  have HU8 : Hid (DSt w wr8 gR gE gM l s8 [.int .i64 5, .int .i64 fr, .int .i64 tq, .int .i64 tm, .int .i64 0, .int .i64 0, .int .i64 0, .bool false, .slice none 0 0, .int .i64 si, .int .i64 st, .slice ma M mc, .string sd]) := Lib.hid hS8
  have HMO : Hid (MsgOwn wr8 (.slice none 0 0) (.slice ma M mc) ⟨5, fr, tq, tm, 0, 0, 0, false, [], ⟨si, st, ms, sd⟩⟩) := Lib.hid ⟨ownE_nil _, by simp, by show World.ownsRow _ _ _ _ _ ms.length _; rw [← HMM.out]; exact hP8, by have h1 := lstE_len l s6; rw [← E7.out] at h1; exact h1⟩
  clear hwr8 hS8 hP8 cc ff
  have HRF : Hid (refE l = ((⟨5, fr, tq, tm, 0, 0, 0, false, [], ⟨si, st, ms, sd⟩⟩ : MsgM), s8)) := Lib.hid (by unfold refE; rw [HH.out]; unfold bodyE snpE; dsimp only; rw [if_neg (by decide), if_neg (by decide), if_neg (by decide), if_neg (by decide), if_pos rfl, ← E5.out]; dsimp only; rw [← E6.out]; dsimp only; rw [← E7.out]; dsimp only; rw [← E8.out, HSD.out])
  have HSM : Hid (smallM (⟨5, fr, tq, tm, 0, 0, 0, false, [], ⟨si, st, ms, sd⟩⟩ : MsgM)) := Lib.hid (by have h1 := refE_small l; rw [HRF.out] at h1; exact h1)
  have HAT : Hid (MsgAt wr8 (.slice none 0 0) (.slice ma M mc) (⟨5, fr, tq, tm, 0, 0, 0, false, [], ⟨si, st, ms, sd⟩⟩ : MsgM)) := Lib.hid (msgOwn_at HMO.out)
  have HEN := Lib.hid (rencode_any HAT.out HSM.out)
  unfold msgV at HEN
  dsimp only [zeroSn] at HEN
  obtain ⟨m, hm⟩ : ∃ m : MsgM, m = (⟨5, fr, tq, tm, 0, 0, 0, false, [], ⟨si, st, ms, sd⟩⟩ : MsgM) := ⟨_, rfl⟩
  have HEN2 : Hid (Calls Try.prog 11 #[.agg #[.int .i64 5, .int .i64 fr, .int .i64 tq, .int .i64 tm, .int .i64 0, .int .i64 0, .int .i64 0, .bool false, .slice none 0 0, .int .i64 si, .int .i64 st, .slice ma M mc, .string sd]] wr8 fun e w' => EncV wr8 w' e m) := Lib.hid (by rw [hm]; exact HEN.out)
  have HM := Lib.hid hm
  clear HEN hm
  obtain ⟨i9, bad⟩ := s8
  clear c0
  go_wp2_with (first | (refine wpList_load_mid rfl 27 _ rfl gM 0 rfl [.int .i64 5, .int .i64 fr, .int .i64 tq, .int .i64 tm, .int .i64 0, .int .i64 0, .int .i64 0, .bool false, .slice none 0 0, .int .i64 si, .int .i64 st, .slice ma M mc, .string sd] _ (Rw.whole HU8.out.2.1) Try.underlying27 rfl Try.sizeMsg ?_) | fail)
  refine (HEN2.out).mono ?_
  rintro e wA ⟨vA, rfl, hoA, hbA⟩
  have HSA := Lib.hid (dst_below HU8.out hbA)
  have HMA := Lib.hid (msgOwn_below HMO.out hbA)
  obtain ⟨aA, cA, rfl⟩ := own_len hoA
  have HBA := Lib.hid (bySl_of (own_sl hoA))
  have HB0 := Lib.hid (bySl_below HBY0.out (HSA.out.1.1.mono (Nat.le_refl _)))
  have hx := eyAt_cell HSA.out.1.2.1
  dsimp only at hx
  clear hoA hbA HEN2
  obtain ⟨NA, hNA⟩ : ∃ NA, NA = (encW m).length := ⟨_, rfl⟩
  rw [← hNA] at HBA ⊢
  cases bad with
  | true =>
    have HOK := Lib.hid (okE_bad HRF.out)
    clear hNA
    go_wp2_with (first | (refine wpList_alloc_z rfl 27 rfl #[.int .i64 0, .int .i64 0, .int .i64 0, .int .i64 0, .int .i64 0, .int .i64 0, .int .i64 0, .bool false, .slice none 0 0, .int .i64 0, .int .i64 0, .slice none 0 0, .string ⟨#[]⟩] hz ?_) | (refine wpList_store_mid rfl 27 _ _ rfl gR 0 #[.int .i64 0, .int .i64 0, .int .i64 0, .int .i64 0, .int .i64 0, .int .i64 0, .int .i64 0, .bool false, .slice none 0 0, .int .i64 0, .int .i64 0, .slice none 0 0, .string ⟨#[]⟩] rfl rfl (Rw.there HSA.out.1.2.2.1 0 _ (by simp)) Try.sizeMsg (msg_one _ _ _ _ _ _ _ _ _ _ _ _ _ _ _ _ _) ?_) | fail)
    have HEND := Lib.hid (Rw.storedAll HSA.out.1.2.2.1 [.int .i64 0, .int .i64 0, .int .i64 0, .int .i64 0, .int .i64 0, .int .i64 0, .int .i64 0, .bool false, .slice none 0 0, .int .i64 0, .int .i64 0, .slice none 0 0, .string ⟨#[]⟩] rfl)
    refine bodyPost_ret (v := .tuple #[.agg #[.int .i64 0, .int .i64 0, .int .i64 0, .int .i64 0, .int .i64 0, .int .i64 0, .int .i64 0, .bool false, .slice none 0 0, .int .i64 0, .int .i64 0, .slice none 0 0, .string ⟨#[]⟩], .int .i64 7]) ?_ rfl ?_
    case refine_2 => exact rdec_no HOK.out (below_stores HSA.out.1.1 HSA.out.1.2.2.2.1 _)
    exact results_row_tmp rfl _ _ gR 0 27 [.int .i64 0, .int .i64 0, .int .i64 0, .int .i64 0, .int .i64 0, .int .i64 0, .int .i64 0, .bool false, .slice none 0 0, .int .i64 0, .int .i64 0, .slice none 0 0, .string ⟨#[]⟩] _ rfl HEND.out Try.underlying27 rfl Try.sizeMsg (.int .i64 7) rfl
  | false =>
    rcases (show codW m = 0 ∨ codW m = 1 by unfold codW; split <;> simp) with hc | hc
    · rw [hc]
      have HC := Lib.hid hc
      have hcv1 := run_convert_bysl 30 5 9 Try.underlying30 Try.underlying5 Try.underlying9 HBA.out
      have hcv2 := run_convert_bysl 30 5 9 Try.underlying30 Try.underlying5 Try.underlying9 HB0.out
      have heq := name_eq (encW m) l
      obtain ⟨X, hX⟩ : ∃ X : ByteArray, X = ⟨(encW m).toArray⟩ := ⟨_, rfl⟩
      obtain ⟨Y, hY⟩ : ∃ Y : ByteArray, Y = ⟨l.toArray⟩ := ⟨_, rfl⟩
      rw [← hX] at hcv1 heq
      rw [← hY] at hcv2 heq
      clear hX hY hNA hc
      by_cases hen : encW m = l
      · rw [decide_eq_true hen] at heq
        have HOK := Lib.hid (okE_all HRF.out (by rw [← HM.out]; exact HC.out) (by rw [← HM.out]; exact hen))
        clear hen
        go_wp2_with (first | (refine wpList_load_mid rfl 27 _ rfl gM 0 rfl [.int .i64 5, .int .i64 fr, .int .i64 tq, .int .i64 tm, .int .i64 0, .int .i64 0, .int .i64 0, .bool false, .slice none 0 0, .int .i64 si, .int .i64 st, .slice ma M mc, .string sd] _ (Rw.whole HSA.out.2.1) Try.underlying27 rfl Try.sizeMsg ?_) | (refine wpList_store_mid rfl 27 _ _ rfl gR 0 #[.int .i64 5, .int .i64 fr, .int .i64 tq, .int .i64 tm, .int .i64 0, .int .i64 0, .int .i64 0, .bool false, .slice none 0 0, .int .i64 si, .int .i64 st, .slice ma M mc, .string sd] rfl rfl (Rw.there HSA.out.1.2.2.1 0 _ (by simp)) Try.sizeMsg (msg_one _ _ _ _ _ _ _ _ _ _ _ _ _ _ _ _ _) ?_) | fail)
        have HEND := Lib.hid (Rw.storedAll HSA.out.1.2.2.1 [.int .i64 5, .int .i64 fr, .int .i64 tq, .int .i64 tm, .int .i64 0, .int .i64 0, .int .i64 0, .bool false, .slice none 0 0, .int .i64 si, .int .i64 st, .slice ma M mc, .string sd] rfl)
        refine bodyPost_ret (v := .tuple #[.agg #[.int .i64 5, .int .i64 fr, .int .i64 tq, .int .i64 tm, .int .i64 0, .int .i64 0, .int .i64 0, .bool false, .slice none 0 0, .int .i64 si, .int .i64 st, .slice ma M mc, .string sd], .int .i64 0]) ?_ rfl ?_
        case refine_2 => exact rdec_yes HOK.out (congrArg Prod.fst HRF.out) (msgOwn_at (msgOwn_stores HMA.out HSA.out.1.2.2.1 _)) (below_stores HSA.out.1.1 HSA.out.1.2.2.2.1 _)
        exact results_row_tmp rfl _ _ gR 0 27 [.int .i64 5, .int .i64 fr, .int .i64 tq, .int .i64 tm, .int .i64 0, .int .i64 0, .int .i64 0, .bool false, .slice none 0 0, .int .i64 si, .int .i64 st, .slice ma M mc, .string sd] _ rfl HEND.out Try.underlying27 rfl Try.sizeMsg (.int .i64 0) rfl
      · rw [decide_eq_false hen] at heq
        have HOK := Lib.hid (okE_enc HRF.out (by rw [← HM.out]; exact hen))
        clear hen
        go_wp2_with (first | (refine wpList_alloc_z rfl 27 rfl #[.int .i64 0, .int .i64 0, .int .i64 0, .int .i64 0, .int .i64 0, .int .i64 0, .int .i64 0, .bool false, .slice none 0 0, .int .i64 0, .int .i64 0, .slice none 0 0, .string ⟨#[]⟩] hz ?_) | (refine wpList_store_mid rfl 27 _ _ rfl gR 0 #[.int .i64 0, .int .i64 0, .int .i64 0, .int .i64 0, .int .i64 0, .int .i64 0, .int .i64 0, .bool false, .slice none 0 0, .int .i64 0, .int .i64 0, .slice none 0 0, .string ⟨#[]⟩] rfl rfl (Rw.there HSA.out.1.2.2.1 0 _ (by simp)) Try.sizeMsg (msg_one _ _ _ _ _ _ _ _ _ _ _ _ _ _ _ _ _) ?_) | fail)
        have HEND := Lib.hid (Rw.storedAll HSA.out.1.2.2.1 [.int .i64 0, .int .i64 0, .int .i64 0, .int .i64 0, .int .i64 0, .int .i64 0, .int .i64 0, .bool false, .slice none 0 0, .int .i64 0, .int .i64 0, .slice none 0 0, .string ⟨#[]⟩] rfl)
        refine bodyPost_ret (v := .tuple #[.agg #[.int .i64 0, .int .i64 0, .int .i64 0, .int .i64 0, .int .i64 0, .int .i64 0, .int .i64 0, .bool false, .slice none 0 0, .int .i64 0, .int .i64 0, .slice none 0 0, .string ⟨#[]⟩], .int .i64 7]) ?_ rfl ?_
        case refine_2 => exact rdec_no HOK.out (below_stores HSA.out.1.1 HSA.out.1.2.2.2.1 _)
        exact results_row_tmp rfl _ _ gR 0 27 [.int .i64 0, .int .i64 0, .int .i64 0, .int .i64 0, .int .i64 0, .int .i64 0, .int .i64 0, .bool false, .slice none 0 0, .int .i64 0, .int .i64 0, .slice none 0 0, .string ⟨#[]⟩] _ rfl HEND.out Try.underlying27 rfl Try.sizeMsg (.int .i64 7) rfl
    · rw [hc]
      have HOK := Lib.hid (okE_cod HRF.out (by rw [← HM.out, hc]; decide))
      clear hNA hc
      go_wp2_with (first | (refine wpList_alloc_z rfl 27 rfl #[.int .i64 0, .int .i64 0, .int .i64 0, .int .i64 0, .int .i64 0, .int .i64 0, .int .i64 0, .bool false, .slice none 0 0, .int .i64 0, .int .i64 0, .slice none 0 0, .string ⟨#[]⟩] hz ?_) | (refine wpList_store_mid rfl 27 _ _ rfl gR 0 #[.int .i64 0, .int .i64 0, .int .i64 0, .int .i64 0, .int .i64 0, .int .i64 0, .int .i64 0, .bool false, .slice none 0 0, .int .i64 0, .int .i64 0, .slice none 0 0, .string ⟨#[]⟩] rfl rfl (Rw.there HSA.out.1.2.2.1 0 _ (by simp)) Try.sizeMsg (msg_one _ _ _ _ _ _ _ _ _ _ _ _ _ _ _ _ _) ?_) | fail)
      have HEND := Lib.hid (Rw.storedAll HSA.out.1.2.2.1 [.int .i64 0, .int .i64 0, .int .i64 0, .int .i64 0, .int .i64 0, .int .i64 0, .int .i64 0, .bool false, .slice none 0 0, .int .i64 0, .int .i64 0, .slice none 0 0, .string ⟨#[]⟩] rfl)
      refine bodyPost_ret (v := .tuple #[.agg #[.int .i64 0, .int .i64 0, .int .i64 0, .int .i64 0, .int .i64 0, .int .i64 0, .int .i64 0, .bool false, .slice none 0 0, .int .i64 0, .int .i64 0, .slice none 0 0, .string ⟨#[]⟩], .int .i64 7]) ?_ rfl ?_
      case refine_2 => exact rdec_no HOK.out (below_stores HSA.out.1.1 HSA.out.1.2.2.2.1 _)
      exact results_row_tmp rfl _ _ gR 0 27 [.int .i64 0, .int .i64 0, .int .i64 0, .int .i64 0, .int .i64 0, .int .i64 0, .int .i64 0, .bool false, .slice none 0 0, .int .i64 0, .int .i64 0, .slice none 0 0, .string ⟨#[]⟩] _ rfl HEND.out Try.underlying27 rfl Try.sizeMsg (.int .i64 7) rfl

set_option maxRecDepth 100000 in
set_option maxHeartbeats 16000000 in
theorem rdec_k6 {w : World} {v : Value} {l : List UInt8} (h : ByteSl w w.heap.size v l) (hl : l.length ≤ 20000) (hk : (headE l).1.kd ≠ 1 ∧ (headE l).1.kd ≠ 2 ∧ (headE l).1.kd ≠ 3 ∧ (headE l).1.kd ≠ 4 ∧ (headE l).1.kd ≠ 5) :
    Calls Try.prog 14 #[v] w fun e w' => RDec w w' e l := by
  have hz := zero_cells Try.infoMsg
  obtain ⟨ba, bc, rfl, _⟩ := byteSl_len h
  have hS0 := dst_start h
  have HBY0 := Lib.hid (bySl_of h)
  obtain ⟨LB, hLB⟩ : ∃ LB, LB = l.length := ⟨_, rfl⟩
  rw [← hLB] at hS0 HBY0 ⊢
  have HL : Hid (l.length ≤ 1000000) := Lib.hid (by omega)
  obtain ⟨gR, hgR⟩ : ∃ gR, gR = w.heap.size := ⟨_, rfl⟩
  obtain ⟨gE, hgE⟩ : ∃ gE, gE = w.heap.size + 1 := ⟨_, rfl⟩
  obtain ⟨w0, hw0⟩ : ∃ w0, w0 = (w.alloc (.cells #[.int .i64 0, .int .i64 0, .int .i64 0, .int .i64 0, .int .i64 0, .int .i64 0, .int .i64 0, .bool false, .slice none 0 0, .int .i64 0, .int .i64 0, .slice none 0 0, .string ⟨#[]⟩] 27)).alloc (.cells #[.slice ba LB bc, .int .i64 0, .bool false] 63) := ⟨_, rfl⟩
  rw [← hw0, ← hgE, ← hgR] at hS0
  have HS0 := Lib.hid hS0
  obtain ⟨q1, e1⟩ : ∃ p, p = numE l 1 (0, false) := ⟨_, rfl⟩
  obtain ⟨kd, s1⟩ := q1
  obtain ⟨q2, e2⟩ : ∃ p, p = numE l 8 s1 := ⟨_, rfl⟩
  obtain ⟨fr, s2⟩ := q2
  obtain ⟨q3, e3⟩ : ∃ p, p = numE l 8 s2 := ⟨_, rfl⟩
  obtain ⟨tq, s3⟩ := q3
  obtain ⟨q4, e4⟩ : ∃ p, p = numE l 8 s3 := ⟨_, rfl⟩
  obtain ⟨tm, s4⟩ := q4
  have hh : headE l = (⟨kd, fr, tq, tm, 0, 0, 0, false, [], zeroSn⟩, s4) := by unfold headE; rw [← e1]; dsimp only; rw [← e2]; dsimp only; rw [← e3]; dsimp only; rw [← e4]
  have HH := Lib.hid hh
  rw [hh] at hk
  dsimp only at hk
  have y1 : (kd == 1) = false := by rw [beq_eq_false_iff_ne]; exact hk.1
  have y2 : (kd == 2) = false := by rw [beq_eq_false_iff_ne]; exact hk.2.1
  have y3 : (kd == 3) = false := by rw [beq_eq_false_iff_ne]; exact hk.2.2.1
  have y4 : (kd == 4) = false := by rw [beq_eq_false_iff_ne]; exact hk.2.2.2.1
  have y5 : (kd == 5) = false := by rw [beq_eq_false_iff_ne]; exact hk.2.2.2.2
  have HKN := Lib.hid hk
  have HN1 := Lib.hid (eynum_any hS0.2.1 1 (by decide) HL.out)
  rw [← e1] at HN1
  have E2 := Lib.hid e2
  have E3 := Lib.hid e3
  have E4 := Lib.hid e4
  have HW0 := Lib.hid hw0
  have HGR := Lib.hid hgR
  have HGE := Lib.hid hgE
  have HLB := Lib.hid hLB
  clear h hl hS0 hh e1 e2 e3 e4 hLB hw0 hgR hgE hk
  go_enter Try.func14, Try.ntmps14
  go_upto_region 2 with (first | (refine wpList_alloc_z rfl 27 rfl #[.int .i64 0, .int .i64 0, .int .i64 0, .int .i64 0, .int .i64 0, .int .i64 0, .int .i64 0, .bool false, .slice none 0 0, .int .i64 0, .int .i64 0, .slice none 0 0, .string ⟨#[]⟩] hz ?_) | fail)
  rw [← HW0.out, ← HGE.out, ← HGR.out]
  go_wp2_with fail
  refine (HN1.out).mono ?_
  rintro e w1 ⟨rfl, hv1⟩
  have HS1 := Lib.hid (ds0_num HS0.out hv1)
  have HN2 := Lib.hid (eynum_any hv1.1 8 (by decide) HL.out)
  rw [← E2.out] at HN2
  clear hv1 HN1
  go_wp2_with fail
  refine (HN2.out).mono ?_
  rintro e w2 ⟨rfl, hv2⟩
  have HS2 := Lib.hid (ds0_num HS1.out hv2)
  have HN3 := Lib.hid (eynum_any hv2.1 8 (by decide) HL.out)
  rw [← E3.out] at HN3
  clear hv2 HN2
  go_wp2_with fail
  refine (HN3.out).mono ?_
  rintro e w3 ⟨rfl, hv3⟩
  have HS3 := Lib.hid (ds0_num HS2.out hv3)
  have HN4 := Lib.hid (eynum_any hv3.1 8 (by decide) HL.out)
  rw [← E4.out] at HN4
  clear hv3 HN3
  go_wp2_with fail
  refine (HN4.out).mono ?_
  rintro e w4 ⟨rfl, hv4⟩
  have HS4 := Lib.hid (ds0_num HS3.out hv4)
  clear hv4 HN4
  obtain ⟨gM, hgM⟩ : ∃ gM, gM = w4.heap.size := ⟨_, rfl⟩
  obtain ⟨w5, hw5⟩ : ∃ w5, w5 = w4.alloc (.cells #[.int .i64 kd, .int .i64 fr, .int .i64 tq, .int .i64 tm, .int .i64 0, .int .i64 0, .int .i64 0, .bool false, .slice none 0 0, .int .i64 0, .int .i64 0, .slice none 0 0, .string ⟨#[]⟩] 27) := ⟨_, rfl⟩
  have hS5 := dst_new HS4.out [.int .i64 kd, .int .i64 fr, .int .i64 tq, .int .i64 tm, .int .i64 0, .int .i64 0, .int .i64 0, .bool false, .slice none 0 0, .int .i64 0, .int .i64 0, .slice none 0 0, .string ⟨#[]⟩]
  rw [← hw5, ← hgM] at hS5
  have HS5 := Lib.hid hS5
  have HW5 := Lib.hid hw5
  have HGM := Lib.hid hgM
  clear hS5 hw5 hgM
  go_upto_region 3 with (first | (refine wpList_alloc_z rfl 27 rfl #[.int .i64 0, .int .i64 0, .int .i64 0, .int .i64 0, .int .i64 0, .int .i64 0, .int .i64 0, .bool false, .slice none 0 0, .int .i64 0, .int .i64 0, .slice none 0 0, .string ⟨#[]⟩] hz ?_) | fail)
  rw [← HW5.out, ← HGM.out]
  have c0 := Rw.cell HS5.out.2.1 (j := 0) (v := (.int .i64 kd)) rfl
  go_upto_region 29 with fail
  have HRF : Hid (refE l = ((⟨kd, fr, tq, tm, 0, 0, 0, false, [], zeroSn⟩ : MsgM), s4)) := Lib.hid (by unfold refE; rw [HH.out]; unfold bodyE; dsimp only; rw [if_neg HKN.out.1, if_neg HKN.out.2.1, if_neg HKN.out.2.2.1, if_neg HKN.out.2.2.2.1, if_neg HKN.out.2.2.2.2])
  have HSM : Hid (smallM (⟨kd, fr, tq, tm, 0, 0, 0, false, [], zeroSn⟩ : MsgM)) := Lib.hid (by have h1 := refE_small l; rw [HRF.out] at h1; exact h1)
  have HAT : Hid (MsgAt w5 (.slice none 0 0) (.slice none 0 0) (⟨kd, fr, tq, tm, 0, 0, 0, false, [], zeroSn⟩ : MsgM)) := Lib.hid (msgAt_nil w5 rfl rfl)
  have HEN := Lib.hid (rencode_any HAT.out HSM.out)
  unfold msgV at HEN
  dsimp only [zeroSn] at HEN
  obtain ⟨m, hm⟩ : ∃ m : MsgM, m = (⟨kd, fr, tq, tm, 0, 0, 0, false, [], zeroSn⟩ : MsgM) := ⟨_, rfl⟩
  have HEN2 : Hid (Calls Try.prog 11 #[.agg #[.int .i64 kd, .int .i64 fr, .int .i64 tq, .int .i64 tm, .int .i64 0, .int .i64 0, .int .i64 0, .bool false, .slice none 0 0, .int .i64 0, .int .i64 0, .slice none 0 0, .string ⟨#[]⟩]] w5 fun e w' => EncV w5 w' e m) := Lib.hid (by rw [hm]; exact HEN.out)
  have HM := Lib.hid hm
  clear HEN hm
  obtain ⟨i9, bad⟩ := s4
  clear c0
  go_wp2_with (first | (refine wpList_load_mid rfl 27 _ rfl gM 0 rfl [.int .i64 kd, .int .i64 fr, .int .i64 tq, .int .i64 tm, .int .i64 0, .int .i64 0, .int .i64 0, .bool false, .slice none 0 0, .int .i64 0, .int .i64 0, .slice none 0 0, .string ⟨#[]⟩] _ (Rw.whole HS5.out.2.1) Try.underlying27 rfl Try.sizeMsg ?_) | fail)
  refine (HEN2.out).mono ?_
  rintro e wA ⟨vA, rfl, hoA, hbA⟩
  have HSA := Lib.hid (dst_below HS5.out hbA)
  obtain ⟨aA, cA, rfl⟩ := own_len hoA
  have HBA := Lib.hid (bySl_of (own_sl hoA))
  have HB0 := Lib.hid (bySl_below HBY0.out (HSA.out.1.1.mono (Nat.le_refl _)))
  have hx := eyAt_cell HSA.out.1.2.1
  dsimp only at hx
  clear hoA hbA HEN2
  obtain ⟨NA, hNA⟩ : ∃ NA, NA = (encW m).length := ⟨_, rfl⟩
  rw [← hNA] at HBA ⊢
  cases bad with
  | true =>
    have HOK := Lib.hid (okE_bad HRF.out)
    clear hNA
    go_wp2_with (first | (refine wpList_alloc_z rfl 27 rfl #[.int .i64 0, .int .i64 0, .int .i64 0, .int .i64 0, .int .i64 0, .int .i64 0, .int .i64 0, .bool false, .slice none 0 0, .int .i64 0, .int .i64 0, .slice none 0 0, .string ⟨#[]⟩] hz ?_) | (refine wpList_store_mid rfl 27 _ _ rfl gR 0 #[.int .i64 0, .int .i64 0, .int .i64 0, .int .i64 0, .int .i64 0, .int .i64 0, .int .i64 0, .bool false, .slice none 0 0, .int .i64 0, .int .i64 0, .slice none 0 0, .string ⟨#[]⟩] rfl rfl (Rw.there HSA.out.1.2.2.1 0 _ (by simp)) Try.sizeMsg (msg_one _ _ _ _ _ _ _ _ _ _ _ _ _ _ _ _ _) ?_) | fail)
    have HEND := Lib.hid (Rw.storedAll HSA.out.1.2.2.1 [.int .i64 0, .int .i64 0, .int .i64 0, .int .i64 0, .int .i64 0, .int .i64 0, .int .i64 0, .bool false, .slice none 0 0, .int .i64 0, .int .i64 0, .slice none 0 0, .string ⟨#[]⟩] rfl)
    refine bodyPost_ret (v := .tuple #[.agg #[.int .i64 0, .int .i64 0, .int .i64 0, .int .i64 0, .int .i64 0, .int .i64 0, .int .i64 0, .bool false, .slice none 0 0, .int .i64 0, .int .i64 0, .slice none 0 0, .string ⟨#[]⟩], .int .i64 7]) ?_ rfl ?_
    case refine_2 => exact rdec_no HOK.out (below_stores HSA.out.1.1 HSA.out.1.2.2.2.1 _)
    exact results_row_tmp rfl _ _ gR 0 27 [.int .i64 0, .int .i64 0, .int .i64 0, .int .i64 0, .int .i64 0, .int .i64 0, .int .i64 0, .bool false, .slice none 0 0, .int .i64 0, .int .i64 0, .slice none 0 0, .string ⟨#[]⟩] _ rfl HEND.out Try.underlying27 rfl Try.sizeMsg (.int .i64 7) rfl
  | false =>
    rcases (show codW m = 0 ∨ codW m = 1 by unfold codW; split <;> simp) with hc | hc
    · rw [hc]
      have HC := Lib.hid hc
      have hcv1 := run_convert_bysl 30 5 9 Try.underlying30 Try.underlying5 Try.underlying9 HBA.out
      have hcv2 := run_convert_bysl 30 5 9 Try.underlying30 Try.underlying5 Try.underlying9 HB0.out
      have heq := name_eq (encW m) l
      obtain ⟨X, hX⟩ : ∃ X : ByteArray, X = ⟨(encW m).toArray⟩ := ⟨_, rfl⟩
      obtain ⟨Y, hY⟩ : ∃ Y : ByteArray, Y = ⟨l.toArray⟩ := ⟨_, rfl⟩
      rw [← hX] at hcv1 heq
      rw [← hY] at hcv2 heq
      clear hX hY hNA hc
      by_cases hen : encW m = l
      · rw [decide_eq_true hen] at heq
        have HOK := Lib.hid (okE_all HRF.out (by rw [← HM.out]; exact HC.out) (by rw [← HM.out]; exact hen))
        clear hen
        go_wp2_with (first | (refine wpList_load_mid rfl 27 _ rfl gM 0 rfl [.int .i64 kd, .int .i64 fr, .int .i64 tq, .int .i64 tm, .int .i64 0, .int .i64 0, .int .i64 0, .bool false, .slice none 0 0, .int .i64 0, .int .i64 0, .slice none 0 0, .string ⟨#[]⟩] _ (Rw.whole HSA.out.2.1) Try.underlying27 rfl Try.sizeMsg ?_) | (refine wpList_store_mid rfl 27 _ _ rfl gR 0 #[.int .i64 kd, .int .i64 fr, .int .i64 tq, .int .i64 tm, .int .i64 0, .int .i64 0, .int .i64 0, .bool false, .slice none 0 0, .int .i64 0, .int .i64 0, .slice none 0 0, .string ⟨#[]⟩] rfl rfl (Rw.there HSA.out.1.2.2.1 0 _ (by simp)) Try.sizeMsg (msg_one _ _ _ _ _ _ _ _ _ _ _ _ _ _ _ _ _) ?_) | fail)
        have HEND := Lib.hid (Rw.storedAll HSA.out.1.2.2.1 [.int .i64 kd, .int .i64 fr, .int .i64 tq, .int .i64 tm, .int .i64 0, .int .i64 0, .int .i64 0, .bool false, .slice none 0 0, .int .i64 0, .int .i64 0, .slice none 0 0, .string ⟨#[]⟩] rfl)
        refine bodyPost_ret (v := .tuple #[.agg #[.int .i64 kd, .int .i64 fr, .int .i64 tq, .int .i64 tm, .int .i64 0, .int .i64 0, .int .i64 0, .bool false, .slice none 0 0, .int .i64 0, .int .i64 0, .slice none 0 0, .string ⟨#[]⟩], .int .i64 0]) ?_ rfl ?_
        case refine_2 => exact rdec_yes HOK.out (congrArg Prod.fst HRF.out) (msgAt_nil _ rfl rfl) (below_stores HSA.out.1.1 HSA.out.1.2.2.2.1 _)
        exact results_row_tmp rfl _ _ gR 0 27 [.int .i64 kd, .int .i64 fr, .int .i64 tq, .int .i64 tm, .int .i64 0, .int .i64 0, .int .i64 0, .bool false, .slice none 0 0, .int .i64 0, .int .i64 0, .slice none 0 0, .string ⟨#[]⟩] _ rfl HEND.out Try.underlying27 rfl Try.sizeMsg (.int .i64 0) rfl
      · rw [decide_eq_false hen] at heq
        have HOK := Lib.hid (okE_enc HRF.out (by rw [← HM.out]; exact hen))
        clear hen
        go_wp2_with (first | (refine wpList_alloc_z rfl 27 rfl #[.int .i64 0, .int .i64 0, .int .i64 0, .int .i64 0, .int .i64 0, .int .i64 0, .int .i64 0, .bool false, .slice none 0 0, .int .i64 0, .int .i64 0, .slice none 0 0, .string ⟨#[]⟩] hz ?_) | (refine wpList_store_mid rfl 27 _ _ rfl gR 0 #[.int .i64 0, .int .i64 0, .int .i64 0, .int .i64 0, .int .i64 0, .int .i64 0, .int .i64 0, .bool false, .slice none 0 0, .int .i64 0, .int .i64 0, .slice none 0 0, .string ⟨#[]⟩] rfl rfl (Rw.there HSA.out.1.2.2.1 0 _ (by simp)) Try.sizeMsg (msg_one _ _ _ _ _ _ _ _ _ _ _ _ _ _ _ _ _) ?_) | fail)
        have HEND := Lib.hid (Rw.storedAll HSA.out.1.2.2.1 [.int .i64 0, .int .i64 0, .int .i64 0, .int .i64 0, .int .i64 0, .int .i64 0, .int .i64 0, .bool false, .slice none 0 0, .int .i64 0, .int .i64 0, .slice none 0 0, .string ⟨#[]⟩] rfl)
        refine bodyPost_ret (v := .tuple #[.agg #[.int .i64 0, .int .i64 0, .int .i64 0, .int .i64 0, .int .i64 0, .int .i64 0, .int .i64 0, .bool false, .slice none 0 0, .int .i64 0, .int .i64 0, .slice none 0 0, .string ⟨#[]⟩], .int .i64 7]) ?_ rfl ?_
        case refine_2 => exact rdec_no HOK.out (below_stores HSA.out.1.1 HSA.out.1.2.2.2.1 _)
        exact results_row_tmp rfl _ _ gR 0 27 [.int .i64 0, .int .i64 0, .int .i64 0, .int .i64 0, .int .i64 0, .int .i64 0, .int .i64 0, .bool false, .slice none 0 0, .int .i64 0, .int .i64 0, .slice none 0 0, .string ⟨#[]⟩] _ rfl HEND.out Try.underlying27 rfl Try.sizeMsg (.int .i64 7) rfl
    · rw [hc]
      have HOK := Lib.hid (okE_cod HRF.out (by rw [← HM.out, hc]; decide))
      clear hNA hc
      go_wp2_with (first | (refine wpList_alloc_z rfl 27 rfl #[.int .i64 0, .int .i64 0, .int .i64 0, .int .i64 0, .int .i64 0, .int .i64 0, .int .i64 0, .bool false, .slice none 0 0, .int .i64 0, .int .i64 0, .slice none 0 0, .string ⟨#[]⟩] hz ?_) | (refine wpList_store_mid rfl 27 _ _ rfl gR 0 #[.int .i64 0, .int .i64 0, .int .i64 0, .int .i64 0, .int .i64 0, .int .i64 0, .int .i64 0, .bool false, .slice none 0 0, .int .i64 0, .int .i64 0, .slice none 0 0, .string ⟨#[]⟩] rfl rfl (Rw.there HSA.out.1.2.2.1 0 _ (by simp)) Try.sizeMsg (msg_one _ _ _ _ _ _ _ _ _ _ _ _ _ _ _ _ _) ?_) | fail)
      have HEND := Lib.hid (Rw.storedAll HSA.out.1.2.2.1 [.int .i64 0, .int .i64 0, .int .i64 0, .int .i64 0, .int .i64 0, .int .i64 0, .int .i64 0, .bool false, .slice none 0 0, .int .i64 0, .int .i64 0, .slice none 0 0, .string ⟨#[]⟩] rfl)
      refine bodyPost_ret (v := .tuple #[.agg #[.int .i64 0, .int .i64 0, .int .i64 0, .int .i64 0, .int .i64 0, .int .i64 0, .int .i64 0, .bool false, .slice none 0 0, .int .i64 0, .int .i64 0, .slice none 0 0, .string ⟨#[]⟩], .int .i64 7]) ?_ rfl ?_
      case refine_2 => exact rdec_no HOK.out (below_stores HSA.out.1.1 HSA.out.1.2.2.2.1 _)
      exact results_row_tmp rfl _ _ gR 0 27 [.int .i64 0, .int .i64 0, .int .i64 0, .int .i64 0, .int .i64 0, .int .i64 0, .int .i64 0, .bool false, .slice none 0 0, .int .i64 0, .int .i64 0, .slice none 0 0, .string ⟨#[]⟩] _ rfl HEND.out Try.underlying27 rfl Try.sizeMsg (.int .i64 7) rfl

theorem rdecode_any {w : World} {v : Value} {l : List UInt8} (h : ByteSl w w.heap.size v l) (hl : l.length ≤ 20000) :
    Calls Try.prog 14 #[v] w fun e w' => RDec w w' e l := by
  by_cases h1 : (headE l).1.kd = 1
  · exact rdec_k1 h hl h1
  by_cases h2 : (headE l).1.kd = 2
  · exact rdec_k2 h hl h2
  by_cases h3 : (headE l).1.kd = 3
  · exact rdec_k3 h hl h3
  by_cases h4 : (headE l).1.kd = 4
  · exact rdec_k4 h hl h4
  by_cases h5 : (headE l).1.kd = 5
  · exact rdec_k5 h hl h5
  exact rdec_k6 h hl ⟨h1, h2, h3, h4, h5⟩

theorem rdec_same {w w' : World} {e : Ending} {l : List UInt8} (h : RDec w w' e l) : ∃ ev mv, e = .returned (.tuple #[msgV (decR l) ev mv, .int .i64 (decC l)]) ∧ MsgAt w' ev mv (decR l) ∧ Below w.heap.size w w' := by
  obtain ⟨hb, h⟩ := h
  rcases h with ⟨hk, ev, mv, rfl, hat⟩ | ⟨hk, rfl⟩
  · obtain ⟨h1, h2⟩ := refE_ok.1 hk
    rw [h2] at hat ⊢
    exact ⟨ev, mv, by unfold decC; rw [if_pos h1], hat, hb⟩
  · have hg := refE_ok.2 hk
    have hd : decR l = zeroMs := by unfold decR; rw [if_neg (by rw [hg]; decide)]
    rw [hd]
    exact ⟨.slice none 0 0, .slice none 0 0, by unfold decC; rw [if_neg (by rw [hg]; decide)]; rfl, msgAt_nil _ rfl rfl, hb⟩

theorem byteSl_later {w w' : World} {v : Value} {l : List UInt8} (h : ByteSl w w.heap.size v l) (hb : Below w.heap.size w w') : ByteSl w' w'.heap.size v l := by
  have h1 := ByteSl.keep h hb (Nat.le_refl _)
  rcases h1 with h1 | ⟨ad, c, hv, hc, hl⟩
  · exact .inl h1
  · refine .inr ⟨ad, c, hv, hc, ?_⟩
    rcases hl with hl | ⟨b, o, ha, hb2, hby⟩
    · exact .inl hl
    · exact .inr ⟨b, o, ha, Nat.lt_of_lt_of_le hb2 hb.size, hby⟩

set_option maxRecDepth 100000 in
set_option maxHeartbeats 8000000 in
theorem msgDecodes_any (v : Value) (l : List UInt8) (w : World) (hs : ByteSl w w.heap.size v l) (_ : l.length ≤ 140737488351232) :
    Calls Try.prog 4 #[v] w fun e w' => e = .returned (.bool true) ∧ Below w.heap.size w w' := by
  have HD := Lib.hid (decode_any hs)
  have HSL := Lib.hid hs
  obtain ⟨a, c, rfl, _⟩ := byteSl_len hs
  obtain ⟨L, hL⟩ : ∃ L, L = l.length := ⟨_, rfl⟩
  rw [← hL] at HD HSL ⊢
  have HL := Lib.hid hL
  have hz := zero_cells Try.infoMsg
  clear hs hL
  by_cases hbig : (20000 : Int) < (L : Int)
  · have q0 : 20000 < L := by omega
    have HAW := Lib.hid (mawake_any w)
    go_enter Try.func4, Try.ntmps4
    go_wp2_with fail
    refine (HAW.out).mono ?_
    rintro e w1 ⟨rfl, hb⟩
    have HB := Lib.hid hb
    clear hb
    go_wp2_with fail
    go_ret
    exact ⟨rfl, HB.out⟩
  have q0 : ¬ 20000 < L := by omega
  have HQ := Lib.hid q0
  obtain ⟨m, hm⟩ : ∃ m, m = decR l := ⟨_, rfl⟩
  obtain ⟨C, hC⟩ : ∃ C, C = decC l := ⟨_, rfl⟩
  have HM0 := Lib.hid hm
  have HC0 := Lib.hid hC
  obtain ⟨n, hn⟩ : ∃ n, n = m.es.length := ⟨_, rfl⟩
  obtain ⟨M, hM⟩ : ∃ M, M = m.sn.ms.length := ⟨_, rfl⟩
  have HN := Lib.hid hn
  have HM := Lib.hid hM
  have HD2 : Hid (Calls Try.prog 13 #[.slice a L c] w fun e w' => ∃ ev mv, e = .returned (.tuple #[msgV m ev mv, .int .i64 C]) ∧ MsgAt w' ev mv m ∧ Below w.heap.size w w') := Lib.hid (HD.out.mono (fun e w' h => by
    obtain ⟨ev, mv, h1, h2, h3⟩ := h
    exact ⟨ev, mv, by rw [hm, hC]; exact h1, by rw [hm]; exact msgOwn_at h2, h3⟩))
  clear hm hC hn hM HD
  go_enter Try.func4, Try.ntmps4
  go_wp2_with fail
  refine (HD2.out).mono ?_
  rintro e w1 ⟨ev, mv, rfl, hat, hb1⟩
  obtain ⟨ea, ec, rfl, _⟩ := id hat.1
  obtain ⟨ma, mc, rfl⟩ := intsAt_len hat.2.2
  rw [← HN.out, ← HM.out] at hat ⊢
  unfold msgV
  obtain ⟨g3, hg3⟩ : ∃ g3, g3 = w1.heap.size := ⟨_, rfl⟩
  obtain ⟨x1, hx1⟩ : ∃ x1, x1 = w1.alloc (.cells #[.int .i64 m.kd, .int .i64 m.fr, .int .i64 m.to, .int .i64 m.tm, .int .i64 m.ix, .int .i64 m.lt, .int .i64 m.cm, .bool m.yes, .slice ea n ec, .int .i64 m.sn.ix, .int .i64 m.sn.tm, .slice ma M mc, .string m.sn.d] 27) := ⟨_, rfl⟩
  have hbA := below_more (Below.refl _ w1) (.cells #[.int .i64 m.kd, .int .i64 m.fr, .int .i64 m.to, .int .i64 m.tm, .int .i64 m.ix, .int .i64 m.lt, .int .i64 m.cm, .bool m.yes, .slice ea n ec, .int .i64 m.sn.ix, .int .i64 m.sn.tm, .slice ma M mc, .string m.sn.d] 27)
  have hr1 := Rw.alloc w1 27 #[.int .i64 m.kd, .int .i64 m.fr, .int .i64 m.to, .int .i64 m.tm, .int .i64 m.ix, .int .i64 m.lt, .int .i64 m.cm, .bool m.yes, .slice ea n ec, .int .i64 m.sn.ix, .int .i64 m.sn.tm, .slice ma M mc, .string m.sn.d] (Nat.zero_le _)
  rw [← hx1] at hbA hr1
  rw [← hg3] at hr1
  have HB1 := Lib.hid (below_then hb1 hbA)
  have HAT := Lib.hid (msgAt_below hat hbA)
  have HR1 : Hid (Rw x1 0 g3 27 [.int .i64 m.kd, .int .i64 m.fr, .int .i64 m.to, .int .i64 m.tm, .int .i64 m.ix, .int .i64 m.lt, .int .i64 m.cm, .bool m.yes, .slice ea n ec, .int .i64 m.sn.ix, .int .i64 m.sn.tm, .slice ma M mc, .string m.sn.d]) := Lib.hid hr1
  have HRD : Hid (Calls Try.prog 14 #[.slice a L c] x1 fun e w' => ∃ ev mv, e = .returned (.tuple #[msgV m ev mv, .int .i64 C]) ∧ MsgAt w' ev mv m ∧ Below x1.heap.size x1 w') := Lib.hid ((rdecode_any (w := x1) (byteSl_later HSL.out HB1.out) (by have := HL.out; have := HQ.out; omega)).mono (fun e w' h => by
    obtain ⟨ev, mv, h1, h2, h3⟩ := rdec_same h
    exact ⟨ev, mv, by rw [HM0.out, HC0.out]; exact h1, by rw [HM0.out]; exact h2, h3⟩))
  have HG3 := Lib.hid hg3
  have HX1 := Lib.hid hx1
  clear hat hb1 hbA hr1 hx1 hg3 HD2
  go_upto_region 4 with (first | (refine wpList_alloc_z rfl 27 rfl #[.int .i64 0, .int .i64 0, .int .i64 0, .int .i64 0, .int .i64 0, .int .i64 0, .int .i64 0, .bool false, .slice none 0 0, .int .i64 0, .int .i64 0, .slice none 0 0, .string ⟨#[]⟩] hz ?_) | fail)
  rw [← HX1.out, ← HG3.out]
  go_wp2_with fail
  refine (HRD.out).mono ?_
  rintro e w2 ⟨ev, mv, rfl, hat, hb2⟩
  obtain ⟨fa, fc, rfl, _⟩ := id hat.1
  obtain ⟨na, nc, rfl⟩ := intsAt_len hat.2.2
  rw [← HN.out, ← HM.out] at hat ⊢
  unfold msgV
  obtain ⟨g5, hg5⟩ : ∃ g5, g5 = w2.heap.size := ⟨_, rfl⟩
  obtain ⟨x2, hx2⟩ : ∃ x2, x2 = w2.alloc (.cells #[.int .i64 m.kd, .int .i64 m.fr, .int .i64 m.to, .int .i64 m.tm, .int .i64 m.ix, .int .i64 m.lt, .int .i64 m.cm, .bool m.yes, .slice fa n fc, .int .i64 m.sn.ix, .int .i64 m.sn.tm, .slice na M nc, .string m.sn.d] 27) := ⟨_, rfl⟩
  have hbA := below_more (Below.refl _ w2) (.cells #[.int .i64 m.kd, .int .i64 m.fr, .int .i64 m.to, .int .i64 m.tm, .int .i64 m.ix, .int .i64 m.lt, .int .i64 m.cm, .bool m.yes, .slice fa n fc, .int .i64 m.sn.ix, .int .i64 m.sn.tm, .slice na M nc, .string m.sn.d] 27)
  have hr2 := Rw.alloc w2 27 #[.int .i64 m.kd, .int .i64 m.fr, .int .i64 m.to, .int .i64 m.tm, .int .i64 m.ix, .int .i64 m.lt, .int .i64 m.cm, .bool m.yes, .slice fa n fc, .int .i64 m.sn.ix, .int .i64 m.sn.tm, .slice na M nc, .string m.sn.d] (Nat.zero_le _)
  rw [← hx2] at hbA hr2
  rw [← hg5] at hr2
  have HB2 := Lib.hid (below_then (below_then HB1.out hb2) hbA)
  have HAT2 := Lib.hid (msgAt_below hat hbA)
  have HAT1 := Lib.hid (msgAt_below (msgAt_below HAT.out hb2) hbA)
  have HR2 : Hid (Rw x2 0 g5 27 [.int .i64 m.kd, .int .i64 m.fr, .int .i64 m.to, .int .i64 m.tm, .int .i64 m.ix, .int .i64 m.lt, .int .i64 m.cm, .bool m.yes, .slice fa n fc, .int .i64 m.sn.ix, .int .i64 m.sn.tm, .slice na M nc, .string m.sn.d]) := Lib.hid hr2
  have HR12 := Lib.hid (Rw.below (Rw.below HR1.out hb2) hbA)
  have HSS := sameMsg_any m m ⟨rfl, rfl, rfl, rfl⟩ HAT1.out HAT2.out
  unfold msgV at HSS
  have HS := Lib.hid HSS
  have HG5 := Lib.hid hg5
  have HX2 := Lib.hid hx2
  clear hat hb2 hbA hr2 hx2 hg5 HRD HSS
  go_upto_region 5 with (first | (refine wpList_alloc_z rfl 27 rfl #[.int .i64 0, .int .i64 0, .int .i64 0, .int .i64 0, .int .i64 0, .int .i64 0, .int .i64 0, .bool false, .slice none 0 0, .int .i64 0, .int .i64 0, .slice none 0 0, .string ⟨#[]⟩] hz ?_) | fail)
  rw [← HX2.out, ← HG5.out]
  go_wp2_with (first | (refine wpList_load_mid rfl 27 _ rfl g3 0 rfl [.int .i64 m.kd, .int .i64 m.fr, .int .i64 m.to, .int .i64 m.tm, .int .i64 m.ix, .int .i64 m.lt, .int .i64 m.cm, .bool m.yes, .slice ea n ec, .int .i64 m.sn.ix, .int .i64 m.sn.tm, .slice ma M mc, .string m.sn.d] _ (Rw.whole HR12.out) Try.underlying27 rfl Try.sizeMsg ?_) | (refine wpList_load_mid rfl 27 _ rfl g5 0 rfl [.int .i64 m.kd, .int .i64 m.fr, .int .i64 m.to, .int .i64 m.tm, .int .i64 m.ix, .int .i64 m.lt, .int .i64 m.cm, .bool m.yes, .slice fa n fc, .int .i64 m.sn.ix, .int .i64 m.sn.tm, .slice na M nc, .string m.sn.d] _ (Rw.whole HR2.out) Try.underlying27 rfl Try.sizeMsg ?_) | fail)
  refine (HS.out).mono ?_
  rintro e w3 ⟨⟨r, rfl, hr⟩, hb3⟩
  obtain rfl : r = true := hr.2 rfl
  have HB3 := Lib.hid (below_then HB2.out hb3)
  have HAW := Lib.hid (mawake_any w3)
  clear hr hb3 HS
  go_wp2_with fail
  refine (HAW.out).mono ?_
  rintro e w4 ⟨rfl, hb4⟩
  have HB4 := Lib.hid (below_then HB3.out hb4)
  clear hb4
  go_wp2_with fail
  go_ret
  exact ⟨rfl, HB4.out⟩

theorem msgDecodes_own : ownKnob Try.prog.godebug = none := by kernel_rfl

theorem msgDecodes_bytesByte : Try.prog.bytesOf 5 = 1 := by kernel_rfl

set_option maxRecDepth 100000 in
theorem msgDecodes_lifted (os : Os) (started : os.Started) (H : Type) (enc : TypeId × Value → H) :
    ReturnsInHanded {} Try.checked os 4 .any (Rows.msgDecodesSpec.pre6 enc Try.prog Try.f4 Rows.msgDecodesRow.domain false) (Rows.msgDecodesSpec.post enc Try.prog Try.f4 false true false false) := by
  refine law_lifted (C := Try.checked) msgDecodes_own started (by kernel_rfl) Try.func4
    (ChangeSpec.witness6 (enc := enc) (C := Try.checked) false ⟨#[], #[.slice none 0 0], []⟩ 8 (by kernel_rfl) (by kernel_rfl) (by kernel_rfl) (by kernel_rfl))
    (by kernel_rfl) (of_decide_eq_true (by kernel_rfl)) (tb := 4) (by kernel_rfl) Try.underlying4 rfl (fun ds h => by match ds, h with | [d0], _ => exact ⟨rfl, rfl, rfl⟩) ?_
  intro W base args ds p hval0 hA0 hlt hsz0
  have hval : ∀ (j : Nat) t v, Try.f4.params[j]? = some t → args[j]? = some v → Value.okWide Try.prog W .any base t v := hval0
  have hA : DataW.TrodAll enc Try.prog W 0 (fun _ => true) true Try.f4.params.toList args.toList ds p := hA0
  have hsz : (DataW.weightsEach Try.prog Try.f4.params.toList ds).all (· ≤ reachBytes) = true := hsz0
  rw [Try.params4] at hA hval hsz
  obtain ⟨v0, vs0, d0, ds0, p0, q0, hargs, rfl, rfl, h0, r0⟩ := trodAll_cons hA
  obtain ⟨rfl, rfl, rfl⟩ := trodAll_nil r0
  obtain rfl : args = #[v0] := by cases args; simp_all
  have s0 := sized_at hsz (j := 0) (t := 30) (d := d0) rfl rfl
  obtain ⟨a0, g0, z0⟩ := open_bytes Try.underlying30 Try.underlying5 (by kernel_rfl) msgDecodes_bytesByte (hval 0 30 v0 rfl rfl) h0 s0
  exact msgDecodes_any (w := W) v0 a0 g0 z0

theorem msgDecodes_over : Rows.msgDecodesRow.holds Try.pinned (OpenSpec.ofChange Rows.msgDecodesSpec) :=
  OpenClaim.holds_of_wide 4 Try.f4 rfl rfl rfl rfl rfl rfl rfl ⟨rfl, rfl, rfl, rfl, rfl⟩ rfl rfl rfl rfl rfl (by kernel_rfl) Try.func4 (by kernel_rfl)
    (of_decide_eq_true (by kernel_rfl)) (by unfold Func.isWrapper; first | (rw [if_pos (by decide +kernel)]; kernel_rfl) | (rw [if_neg (by decide +kernel)]; exact ⟨rfl, rfl⟩))
    (fun os started H enc _ => msgDecodes_lifted os started H enc)

theorem msgDecodes_proved : Rows.MsgDecodesSaid := msgDecodes_over
#print axioms msgDecodes_proved

end Go.Proofs.Ythpljpbiamjmaaa
