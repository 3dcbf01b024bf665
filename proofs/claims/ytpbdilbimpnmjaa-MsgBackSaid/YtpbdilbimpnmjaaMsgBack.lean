/-
  MsgBack: for every message and number, what Encode writes of a message that may be written is read by Decode as the message that it was, with a byte more, or of any first part, nothing is read; what may not be written is refused with no bytes; the law returns true, and what was there has not turned. No condition.
-/
import Derived.BigRegion
import Derived.Deep.RegionHeld3
import Derived.Test.YtpbdilbimpnmjaaProg
import Derived.Test.YtpbdilbimpnmjaaKit
import Derived.Test.YtpbdilbimpnmjaaLaw
import Derived.Test.YtpbdilbimpnmjaaInfo
import Derived.Test.YtpbdilbimpnmjaaRow
import Derived.Test.YtpbdilbimpnmjaaCod7
import Derived.Test.YtpbdilbimpnmjaaCod9
import Derived.Test.YtpbdilbimpnmjaaFrm4
import Derived.Test.YtpbdilbimpnmjaaFrm11
import Derived.Test.YtpbdilbimpnmjaaKp0
import Derived.Test.YtpbdilbimpnmjaaMg0
import Derived.Test.YtpbdilbimpnmjaaMg5
import Derived.Test.YtpbdilbimpnmjaaMg10
import Derived.Test.YtpbdilbimpnmjaaMr2
import Derived.Test.YtpbdilbimpnmjaaMd6
import Derived.Test.YtpbdilbimpnmjaaMd7
import Derived.Test.YtpbdilbimpnmjaaMd8
import Derived.Test.YtpbdilbimpnmjaaMl1
import Derived.Test.YtpbdilbimpnmjaaMl2
import Derived.Test.YtpbdilbimpnmjaaMl4
namespace Go.Proofs.Ytpbdilbimpnmjaa
open Go.ChangeShapes Go.WideShapes Go.ChangeAt Go.RowKit Go.Proofs
open Go.ChangeMaps (open_string shut_string)

set_option maxRecDepth 100000 in
set_option maxHeartbeats 8000000 in
theorem msgBack_any (m : MsgM) (ev mv : Value) {w : World} (hm : MsgW w ev mv m) (k : Int) (hk : -9223372036854775808 ≤ k ∧ k ≤ 9223372036854775807) :
    Calls Try.prog 5 #[msgV m ev mv, .int .i64 k] w fun e w' => e = .returned (.bool true) ∧ Below w.heap.size w w' := by
  obtain ⟨⟨a, c, rfl⟩, ⟨a2, c2, rfl⟩⟩ := msgWd_len hm
  obtain ⟨gM, hgM⟩ : ∃ gM, gM = w.heap.size := ⟨_, rfl⟩
  have hb0 := below_more (Below.refl _ w) (.cells #[.int .i64 m.kd, .int .i64 m.fr, .int .i64 m.to, .int .i64 m.tm, .int .i64 m.ix, .int .i64 m.lt, .int .i64 m.cm, .bool m.yes, .slice a m.es.length c, .int .i64 m.sn.ix, .int .i64 m.sn.tm, .slice a2 m.sn.ms.length c2, .string m.sn.d] 27)
  have hr0 : Rw (w.alloc (.cells #[.int .i64 m.kd, .int .i64 m.fr, .int .i64 m.to, .int .i64 m.tm, .int .i64 m.ix, .int .i64 m.lt, .int .i64 m.cm, .bool m.yes, .slice a m.es.length c, .int .i64 m.sn.ix, .int .i64 m.sn.tm, .slice a2 m.sn.ms.length c2, .string m.sn.d] 27)) 0 gM 27 [.int .i64 m.kd, .int .i64 m.fr, .int .i64 m.to, .int .i64 m.tm, .int .i64 m.ix, .int .i64 m.lt, .int .i64 m.cm, .bool m.yes, .slice a m.es.length c, .int .i64 m.sn.ix, .int .i64 m.sn.tm, .slice a2 m.sn.ms.length c2, .string m.sn.d] := by rw [hgM]; exact Rw.alloc w _ _ (Nat.zero_le _)
  have HIN := Lib.hid (in_any (msgWd_below hm hb0))
  have HMW := Lib.hid hm
  have HB0 := Lib.hid hb0
  have HR0 := Lib.hid hr0
  have HK := Lib.hid hk
  have HGM := Lib.hid hgM
  have hz := zero_cells Try.infoMsg
  obtain ⟨i0, hi, hz0, hz1, hz2⟩ := info_parts Try.infoByte
  obtain ⟨n, hn⟩ : ∃ n, n = m.es.length := ⟨_, rfl⟩
  obtain ⟨M, hM⟩ : ∃ M, M = m.sn.ms.length := ⟨_, rfl⟩
  have HN := Lib.hid hn
  have HM := Lib.hid hM
  unfold msgV at HIN ⊢
  rw [← hn, ← hM] at HIN HB0 HR0 HMW ⊢
  clear hm hk hn hM hb0 hr0
  go_enter Try.func5, Try.ntmps5
  go_upto_region 1 with fail
  rw [← hgM]
  clear hgM
  obtain ⟨w0, hw0⟩ : ∃ w0, w0 = w.alloc (.cells #[.int .i64 m.kd, .int .i64 m.fr, .int .i64 m.to, .int .i64 m.tm, .int .i64 m.ix, .int .i64 m.lt, .int .i64 m.cm, .bool m.yes, .slice a n c, .int .i64 m.sn.ix, .int .i64 m.sn.tm, .slice a2 M c2, .string m.sn.d] 27) := ⟨_, rfl⟩
  rw [← hw0] at HIN HB0 HR0 ⊢
  clear hw0
  go_wp2_with (first | (refine wpList_load_mid rfl 27 _ rfl gM 0 rfl [.int .i64 m.kd, .int .i64 m.fr, .int .i64 m.to, .int .i64 m.tm, .int .i64 m.ix, .int .i64 m.lt, .int .i64 m.cm, .bool m.yes, .slice a n c, .int .i64 m.sn.ix, .int .i64 m.sn.tm, .slice a2 M c2, .string m.sn.d] _ (Rw.whole HR0.out) Try.underlying27 rfl Try.sizeMsg ?_) | fail)
  refine (HIN.out).mono ?_
  rintro e w1 ⟨⟨b, rfl, hb⟩, hb1⟩
  have HB1 := Lib.hid (below_then HB0.out hb1)
  have HR1 := Lib.hid (Rw.below HR0.out hb1)
  have HQ := Lib.hid hb
  clear hb hb1 HIN
  cases b with
  | false =>
    have HAW := Lib.hid (mawake_any w1)
    go_wp2_with fail
    refine (HAW.out).mono ?_
    rintro e w2 ⟨rfl, hb2⟩
    have HB2 := Lib.hid (below_then HB1.out hb2)
    clear hb2
    go_wp2_with fail
    go_ret
    exact ⟨rfl, HB2.out⟩
  | true =>
    have hms := msgW_at (ev := .slice a n c) (mv := .slice a2 M c2) HMW.out (HQ.out rfl).1 (HQ.out rfl).2.1 (HQ.out rfl).2.2
    have HAT := Lib.hid hms.1
    have HSM := Lib.hid hms.2
    have HEN := Lib.hid (encode_any (msgAt_below HAT.out HB1.out) HSM.out)
    unfold msgV at HEN
    clear hms HQ
    go_wp2_with (first | (refine wpList_load_mid rfl 27 _ rfl gM 0 rfl [.int .i64 m.kd, .int .i64 m.fr, .int .i64 m.to, .int .i64 m.tm, .int .i64 m.ix, .int .i64 m.lt, .int .i64 m.cm, .bool m.yes, .slice a n c, .int .i64 m.sn.ix, .int .i64 m.sn.tm, .slice a2 M c2, .string m.sn.d] _ (Rw.whole HR1.out) Try.underlying27 rfl Try.sizeMsg ?_) | fail)
    refine (HEN.out).mono ?_
    rintro e w2 ⟨v2, rfl, ho2, hb2⟩
    have HB2 := Lib.hid (below_then HB1.out hb2)
    have HR2 := Lib.hid (Rw.below HR1.out hb2)
    cases hok : okMB m with
    | false =>
      obtain ⟨e1, e2⟩ := codW_no hok
      rw [e1] at ho2
      rw [e2]
      obtain ⟨a3, c3, rfl⟩ := own_len ho2
      have HAW := Lib.hid (mawake_any w2)
      rw [show ([] : List UInt8).length = 0 from rfl]
      clear ho2 hb2 hok e1 e2 HEN HAT HSM
      go_wp2_with fail
      refine (HAW.out).mono ?_
      rintro e w3 ⟨rfl, hb3⟩
      have HB3 := Lib.hid (below_then HB2.out hb3)
      clear hb3
      go_wp2_with fail
      go_ret
      exact ⟨rfl, HB3.out⟩
    | true =>
      obtain ⟨e1, e2⟩ := codW_yes hok
      obtain ⟨hl1, hl2⟩ := msgLen_small hok
      obtain ⟨hg1, hg2⟩ := dec_back hok HSM.out
      have HMORE := Lib.hid (dec_more hok HSM.out 0)
      have HCUT := Lib.hid (fun t (ht : t < (msgW m).length) => dec_cut hok HSM.out ht)
      rw [e1] at ho2
      rw [e2]
      obtain ⟨L, hL⟩ : ∃ L, L = msgW m := ⟨_, rfl⟩
      rw [← hL] at ho2 hl1 hl2 hg1 hg2 HMORE HCUT
      obtain ⟨N, hN⟩ : ∃ N, N = L.length := ⟨_, rfl⟩
      rw [← hN] at ho2 hl1 hl2 HCUT
      obtain ⟨g2, c3, rfl, hg2b⟩ := own_some ho2 (by omega)
      have hb25 : 25 ≤ (N : Int) := by omega
      have hNz : ((N : Int) == 0) = false := by rw [beq_eq_false_iff_ne]; omega
      have HL2 := Lib.hid hl2
      have HL1 := Lib.hid hl1
      have HNN := Lib.hid hN
      have HDE := Lib.hid (decode_any (own_sl ho2))
      have HO2 := Lib.hid ho2
      have HDC := Lib.hid (decC_yes hg1)
      have HDR := Lib.hid hg2
      clear hb2 hok e1 e2 hl1 hl2 hg1 hg2 hL hN ho2 HEN hg2b
      go_wp2_with fail
      refine (HDE.out).mono ?_
      rintro e w3 ⟨ev3, mv3, rfl, ho3, hb3⟩
      rw [HDR.out] at ho3
      rw [HDC.out, HDR.out]
      obtain ⟨ea, ec, rfl, _⟩ := id (msgOwn_at ho3).1
      obtain ⟨ma, mc, rfl⟩ := intsAt_len (msgOwn_at ho3).2.2
      rw [← HN.out, ← HM.out] at ho3 ⊢
      have hbA := below_more (Below.refl _ w3) (.cells #[.int .i64 m.kd, .int .i64 m.fr, .int .i64 m.to, .int .i64 m.tm, .int .i64 m.ix, .int .i64 m.lt, .int .i64 m.cm, .bool m.yes, .slice ea n ec, .int .i64 m.sn.ix, .int .i64 m.sn.tm, .slice ma M mc, .string m.sn.d] 27)
      have HBA := Lib.hid (hb3.trans (Below.mono hbA hb3.size))
      have HO3 := Lib.hid (msgOwn_below ho3 hbA)
      obtain ⟨g3, hg3⟩ : ∃ g3, g3 = w3.heap.size := ⟨_, rfl⟩
      have hr3 : Rw (w3.alloc (.cells #[.int .i64 m.kd, .int .i64 m.fr, .int .i64 m.to, .int .i64 m.tm, .int .i64 m.ix, .int .i64 m.lt, .int .i64 m.cm, .bool m.yes, .slice ea n ec, .int .i64 m.sn.ix, .int .i64 m.sn.tm, .slice ma M mc, .string m.sn.d] 27)) 0 g3 27 [.int .i64 m.kd, .int .i64 m.fr, .int .i64 m.to, .int .i64 m.tm, .int .i64 m.ix, .int .i64 m.lt, .int .i64 m.cm, .bool m.yes, .slice ea n ec, .int .i64 m.sn.ix, .int .i64 m.sn.tm, .slice ma M mc, .string m.sn.d] := by rw [hg3]; exact Rw.alloc w3 _ _ (Nat.zero_le _)
      have HR3 := Lib.hid hr3
      unfold msgV
      clear ho3 hb3 hbA HDE hr3 HDR
      go_upto_region 7 with (first | (refine wpList_alloc_z rfl 27 rfl #[.int .i64 0, .int .i64 0, .int .i64 0, .int .i64 0, .int .i64 0, .int .i64 0, .int .i64 0, .bool false, .slice none 0 0, .int .i64 0, .int .i64 0, .slice none 0 0, .string ⟨#[]⟩] hz ?_) | fail)
      rw [← hg3]
      obtain ⟨x3, hx3⟩ : ∃ x3, x3 = w3.alloc (.cells #[.int .i64 m.kd, .int .i64 m.fr, .int .i64 m.to, .int .i64 m.tm, .int .i64 m.ix, .int .i64 m.lt, .int .i64 m.cm, .bool m.yes, .slice ea n ec, .int .i64 m.sn.ix, .int .i64 m.sn.tm, .slice ma M mc, .string m.sn.d] 27) := ⟨_, rfl⟩
      rw [← hx3] at HBA HO3 HR3 ⊢
      have HB3 := Lib.hid (below_then HB2.out HBA.out)
      have HR3A := Lib.hid (Rw.below HR2.out HBA.out)
      have HO23 := Lib.hid (own_below HO2.out HBA.out)
      clear hg3 hx3 HR2
      have hbm : Below x3.heap.size x3 (x3.alloc (.cells #[] 5)) := below_more (Below.refl _ _) _
      have HSL : Hid (ByteSl (x3.alloc (.cells #[] 5)) (x3.alloc (.cells #[] 5)).heap.size (.slice (some ⟨g2, 0, none⟩) N c3) L) := Lib.hid (own_sl (own_below HO23.out hbm))
      have HLT : Hid (0 + L.length < 1099511627776) := Lib.hid (by rw [← HNN.out]; have := HL2.out; omega)
      have HLN : Hid (N < 1099511627776) := Lib.hid (by have := HL2.out; omega)
      clear hbm
      go_wp2_with (first | (at_builtin; refine wpList_append_sl rfl _ _ 30 rfl x3.heap.size 5 i0 (.int .u8 0) Try.underlying30 hi hz0 hz1 hz2 rfl _ 0 [] rfl (World.ownsRow_lit x3 #[] 0 (Nat.le_refl _) (by decide) rfl) _ L rfl _ HSL.out HLT.out (by simp) ?_; intro v4 w4 hown4 hb4; rw [Nat.zero_add, List.nil_append, ← HNN.out] at hown4; obtain ⟨a4, c4, rfl⟩ := own_len hown4; have hs4 : x3.heap.size ≤ w4.heap.size := Nat.le_trans (by simp) hb4.size; have HB4 := Lib.hid hb4; have HO4 := Lib.hid hown4; clear hb4) | (at_builtin; refine wpList_append1 rfl _ _ 30 rfl x3.heap.size 5 rfl i0 (.int .u8 0) 1 Try.underlying30 hi hz0 hz1 hz2 rfl _ N _ rfl HO4.out rfl rfl HLN.out (by omega) hs4 ?_; intro v5 w5 hown5 hb5; have HO5 := Lib.hid hown5; have HB5 := Lib.hid hb5; clear hown5 hb5 hs4 hown4) | fail)
      have e0 : L.map byteV ++ [Value.int .u8 0] = (L ++ [0]).map byteV := by rw [List.map_append]; rfl
      have ho5 := HO5.out
      rw [e0] at ho5
      have hb35 : Below x3.heap.size x3 w5 := ((below_more (Below.refl _ x3) _).trans HB4.out).trans HB5.out
      have HD5 := Lib.hid (decode_any (own_sl ho5))
      have HB35 := Lib.hid hb35
      clear e0 ho5 hb35 HO5 HB5 HB4 HO4 HSL
      refine (HD5.out).mono ?_
      rintro e w6 hd6
      obtain ⟨⟨ea6, ec6, ma6, mc6, rfl⟩, hb6⟩ := decV_zero HMORE.out hd6
      have HB6 := Lib.hid (below_then HB35.out hb6)
      clear hd6 hb6 HD5
      go_upto_region 8 with (first | (refine wpList_alloc_z rfl 27 rfl #[.int .i64 0, .int .i64 0, .int .i64 0, .int .i64 0, .int .i64 0, .int .i64 0, .int .i64 0, .bool false, .slice none 0 0, .int .i64 0, .int .i64 0, .slice none 0 0, .string ⟨#[]⟩] hz ?_) | fail)
      have hbx := below_more HB6.out (.cells #[.int .i64 0, .int .i64 0, .int .i64 0, .int .i64 0, .int .i64 0, .int .i64 0, .int .i64 0, .bool false, .slice ea6 0 ec6, .int .i64 0, .int .i64 0, .slice ma6 0 mc6, .string ⟨#[]⟩] 27)
      obtain ⟨x6, hx6⟩ : ∃ x6, x6 = w6.alloc (.cells #[.int .i64 0, .int .i64 0, .int .i64 0, .int .i64 0, .int .i64 0, .int .i64 0, .int .i64 0, .bool false, .slice ea6 0 ec6, .int .i64 0, .int .i64 0, .slice ma6 0 mc6, .string ⟨#[]⟩] 27) := ⟨_, rfl⟩
      rw [← hx6] at hbx ⊢
      have HBX := Lib.hid hbx
      have HRD := Lib.hid (round_any k N x6 HK.out ⟨by have := HL1.out; omega, HLN.out⟩)
      clear hbx hx6 HB6
      go_wp2_with fail
      refine (HRD.out).mono ?_
      rintro e w7 ⟨⟨r, hr, rfl⟩, rfl⟩
      have hfs := byteSl_first (own_sl (own_below HO23.out HBX.out)) r (Nat.le_of_lt hr)
      have hsl := slice_to3 (P := Try.prog) (T := 30) (by kernel_rfl) (by kernel_rfl) g2 0 N c3 r (by omega)
      have HD7 := Lib.hid (decode_any hfs.2)
      have HCR := Lib.hid (HCUT.out r hr)
      have hr0' : (0 : Int) ≤ (r : Int) := by omega
      have hr1' : (r : Int) ≤ (c3 : Int) := by omega
      clear hfs hr HRD
      go_wp2_with fail
      refine (HD7.out).mono ?_
      rintro e w8 hd8
      obtain ⟨⟨ea8, ec8, ma8, mc8, rfl⟩, hb8⟩ := decV_zero HCR.out hd8
      have HB8 := Lib.hid (below_then HBX.out hb8)
      clear hd8 hb8 HD7 hsl hr0' hr1'
      go_upto_region 9 with (first | (refine wpList_alloc_z rfl 27 rfl #[.int .i64 0, .int .i64 0, .int .i64 0, .int .i64 0, .int .i64 0, .int .i64 0, .int .i64 0, .bool false, .slice none 0 0, .int .i64 0, .int .i64 0, .slice none 0 0, .string ⟨#[]⟩] hz ?_) | fail)
      have hby := below_more HB8.out (.cells #[.int .i64 0, .int .i64 0, .int .i64 0, .int .i64 0, .int .i64 0, .int .i64 0, .int .i64 0, .bool false, .slice ea8 0 ec8, .int .i64 0, .int .i64 0, .slice ma8 0 mc8, .string ⟨#[]⟩] 27)
      obtain ⟨x8, hx8⟩ : ∃ x8, x8 = w8.alloc (.cells #[.int .i64 0, .int .i64 0, .int .i64 0, .int .i64 0, .int .i64 0, .int .i64 0, .int .i64 0, .bool false, .slice ea8 0 ec8, .int .i64 0, .int .i64 0, .slice ma8 0 mc8, .string ⟨#[]⟩] 27) := ⟨_, rfl⟩
      rw [← hx8] at hby ⊢
      have HBY := Lib.hid hby
      have HBW := Lib.hid (below_then HB3.out hby)
      have HRA := Lib.hid (Rw.below HR3A.out hby)
      have HRB := Lib.hid (Rw.below HR3.out hby)
      have hs1 := sameMsg_any m m ⟨rfl, rfl, rfl, rfl⟩ (msgAt_below HAT.out HBW.out) (msgAt_below (msgOwn_at HO3.out) hby)
      unfold msgV at hs1
      have HS1 := Lib.hid hs1
      clear hs1 hby hx8 HB8
      have x0 := Rw.cell HRA.out (j := 0) (v := (.int .i64 m.kd)) rfl
      have x1 := Rw.cell HRA.out (j := 1) (v := (.int .i64 m.fr)) rfl
      have x2 := Rw.cell HRA.out (j := 2) (v := (.int .i64 m.to)) rfl
      have x3 := Rw.cell HRA.out (j := 3) (v := (.int .i64 m.tm)) rfl
      have x4 := Rw.cell HRA.out (j := 4) (v := (.int .i64 m.ix)) rfl
      have x5 := Rw.cell HRA.out (j := 5) (v := (.int .i64 m.lt)) rfl
      have x6 := Rw.cell HRA.out (j := 6) (v := (.int .i64 m.cm)) rfl
      have x7 := Rw.cell HRA.out (j := 7) (v := (.bool m.yes)) rfl
      have x8 := Rw.cell HRA.out (j := 8) (v := (.slice a n c)) rfl
      have x9 := Rw.cell HRA.out (j := 9) (v := (.int .i64 m.sn.ix)) rfl
      have x10 := Rw.cell HRA.out (j := 10) (v := (.int .i64 m.sn.tm)) rfl
      have x11 := Rw.cell HRA.out (j := 11) (v := (.slice a2 M c2)) rfl
      have x12 := Rw.cell HRA.out (j := 12) (v := (.string m.sn.d)) rfl
      have y0 := Rw.cell HRB.out (j := 0) (v := (.int .i64 m.kd)) rfl
      have y1 := Rw.cell HRB.out (j := 1) (v := (.int .i64 m.fr)) rfl
      have y2 := Rw.cell HRB.out (j := 2) (v := (.int .i64 m.to)) rfl
      have y3 := Rw.cell HRB.out (j := 3) (v := (.int .i64 m.tm)) rfl
      have y4 := Rw.cell HRB.out (j := 4) (v := (.int .i64 m.ix)) rfl
      have y5 := Rw.cell HRB.out (j := 5) (v := (.int .i64 m.lt)) rfl
      have y6 := Rw.cell HRB.out (j := 6) (v := (.int .i64 m.cm)) rfl
      have y7 := Rw.cell HRB.out (j := 7) (v := (.bool m.yes)) rfl
      have y8 := Rw.cell HRB.out (j := 8) (v := (.slice ea n ec)) rfl
      have y9 := Rw.cell HRB.out (j := 9) (v := (.int .i64 m.sn.ix)) rfl
      have y10 := Rw.cell HRB.out (j := 10) (v := (.int .i64 m.sn.tm)) rfl
      have y11 := Rw.cell HRB.out (j := 11) (v := (.slice ma M mc)) rfl
      have y12 := Rw.cell HRB.out (j := 12) (v := (.string m.sn.d)) rfl
      go_wp2_with fail
      refine (HS1.out).mono ?_
      rintro e w9 ⟨⟨q, rfl, hq⟩, hb9⟩
      obtain rfl : q = true := hq.2 rfl
      have HB9 := Lib.hid (below_then HBW.out hb9)
      have HAW := Lib.hid (mawake_any w9)
      clear hq hb9 HS1 x0 y0 x1 y1 x2 y2 x3 y3 x4 y4 x5 y5 x6 y6 x7 y7 x8 y8 x9 y9 x10 y10 x11 y11 x12 y12
      go_wp2_with fail
      refine (HAW.out).mono ?_
      rintro e w10 ⟨rfl, hb10⟩
      have HB10 := Lib.hid (below_then HB9.out hb10)
      clear hb10
      go_wp2_with fail
      go_ret
      exact ⟨rfl, HB10.out⟩

theorem msgBack_own : ownKnob Try.prog.godebug = none := by kernel_rfl

set_option maxRecDepth 100000 in
theorem msgBack_lifted (os : Os) (started : os.Started) (H : Type) (enc : TypeId × Value → H) :
    ReturnsInHanded {} Try.checked os 5 .any (Rows.msgBackSpec.pre6 enc Try.prog Try.f5 Rows.msgBackRow.domain false) (Rows.msgBackSpec.post enc Try.prog Try.f5 false true false false) := by
  refine law_lifted (C := Try.checked) msgBack_own started (by kernel_rfl) Try.func5
    (ChangeSpec.witness6 (enc := enc) (C := Try.checked) false ⟨#[], #[.agg #[.int .i64 0, .int .i64 0, .int .i64 0, .int .i64 0, .int .i64 0, .int .i64 0, .int .i64 0, .bool false, .slice none 0 0, .int .i64 0, .int .i64 0, .slice none 0 0, .string ByteArray.empty], .int .i64 0], []⟩ 8 (by kernel_rfl) (by kernel_rfl) (by kernel_rfl) (by kernel_rfl))
    (by kernel_rfl) (of_decide_eq_true (by kernel_rfl)) (tb := 4) (by kernel_rfl) Try.underlying4 rfl (fun ds h => by match ds, h with | [d0, d1], _ => exact ⟨rfl, rfl, rfl⟩) ?_
  intro W base args ds p hval0 hA0 hlt hsz0
  have hval : ∀ (j : Nat) t v, Try.f5.params[j]? = some t → args[j]? = some v → Value.okWide Try.prog W .any base t v := hval0
  have hA : DataW.TrodAll enc Try.prog W 0 (fun _ => true) true Try.f5.params.toList args.toList ds p := hA0
  have hsz : (DataW.weightsEach Try.prog Try.f5.params.toList ds).all (· ≤ reachBytes) = true := hsz0
  rw [Try.params5] at hA hval hsz
  obtain ⟨v0, vs0, d0, ds0, p0, q0, hargs, rfl, rfl, h0, r0⟩ := trodAll_cons hA
  obtain ⟨v1, vs1, d1, ds1, p1, q1, rfl, rfl, rfl, h1, r1⟩ := trodAll_cons r0
  obtain ⟨rfl, rfl, rfl⟩ := trodAll_nil r1
  obtain rfl : args = #[v0, v1] := by cases args; simp_all
  have s0 := sized_at hsz (j := 0) (t := 27) (d := d0) rfl rfl
  obtain ⟨m0_0, m0_1, m0_2, m0_3, m0_4, m0_5, m0_6, m0_7, m0_8, m0_9, m0_10, m0_11, m0_12, m0_13, t0⟩ := Try.msTys
  obtain ⟨e0_0, e0_1, e0_2, e0_3, e0_4, u0⟩ := Try.enTys
  obtain ⟨a0, b0, c0, rfl, g0⟩ := open_msg t0 u0 (hval 0 27 v0 rfl rfl) h0 s0
  obtain ⟨a1, rfl, rfl, rfl, w1⟩ := open_int Try.underlying3 (hval 1 3 v1 rfl rfl) h1
  exact msgBack_any (w := W) a0 b0 c0 g0 a1 (bounds_i64 w1)

theorem msgBack_over : Rows.msgBackRow.holds Try.pinned (OpenSpec.ofChange Rows.msgBackSpec) :=
  OpenClaim.holds_of_wide 5 Try.f5 rfl rfl rfl rfl rfl rfl rfl ⟨rfl, rfl, rfl, rfl, rfl⟩ rfl rfl rfl rfl rfl (by kernel_rfl) Try.func5 (by kernel_rfl)
    (of_decide_eq_true (by kernel_rfl)) (by unfold Func.isWrapper; first | (rw [if_pos (by decide +kernel)]; kernel_rfl) | (rw [if_neg (by decide +kernel)]; exact ⟨rfl, rfl⟩))
    (fun os started H enc _ => msgBack_lifted os started H enc)

theorem msgBack_proved : Rows.MsgBackSaid := msgBack_over
#print axioms msgBack_proved

end Go.Proofs.Ytpbdilbimpnmjaa
