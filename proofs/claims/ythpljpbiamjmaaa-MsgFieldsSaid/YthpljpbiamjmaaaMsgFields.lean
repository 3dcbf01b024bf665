/-
  MsgFields: for every message that may be written, with each of five fields turned the code's Encode and the reference's tell the same code, and at least two of the five are refused; the law returns true, and what was there has not turned. No condition.
-/
import Derived.BigRegion
import Derived.Deep.RegionHeld3
import Derived.Test.YthpljpbiamjmaaaProg
import Derived.Test.YthpljpbiamjmaaaKit
import Derived.Test.YthpljpbiamjmaaaLaw
import Derived.Test.YthpljpbiamjmaaaRow
import Derived.Test.YthpljpbiamjmaaaCod7
import Derived.Test.YthpljpbiamjmaaaFrm4
import Derived.Test.YthpljpbiamjmaaaMg0
import Derived.Test.YthpljpbiamjmaaaMg5
import Derived.Test.YthpljpbiamjmaaaMg10
import Derived.Test.YthpljpbiamjmaaaMl1
import Derived.Test.YthpljpbiamjmaaaMr6e
import Derived.Test.YthpljpbiamjmaaaMr9
namespace Go.Proofs.Ythpljpbiamjmaaa
open Go.ChangeShapes Go.WideShapes Go.ChangeAt Go.RowKit Go.Proofs
open Go.ChangeMaps (open_string shut_string)

theorem cod_no {m : MsgM} (h : okMB m = false) : codW m = 1 := by unfold codW; rw [if_neg (by rw [h]; decide)]

theorem cod_yes {m : MsgM} (h : okMB m = true) : codW m = 0 := by unfold codW; rw [if_pos h]

theorem cod_two (m : MsgM) : (codW m = 0 ∧ okMB m = true) ∨ (codW m = 1 ∧ okMB m = false) := by
  cases h : okMB m with
  | true => exact .inl ⟨cod_yes h, rfl⟩
  | false => exact .inr ⟨cod_no h, rfl⟩

/-- What Encode, the code's or the reference's, tells, its bytes left aside. -/
def CodeOf (w w' : World) (e : Ending) (C : Int) : Prop := ∃ a n c, e = .returned (.tuple #[.slice a n c, .int .i64 C]) ∧ Below w.heap.size w w'

theorem code_of {w w' : World} {e : Ending} {m : MsgM} (h : EncV w w' e m) : CodeOf w w' e (codW m) := by
  obtain ⟨v, rfl, ho, hb⟩ := h
  obtain ⟨a, c, rfl⟩ := own_len ho
  exact ⟨a, _, c, rfl, hb⟩

theorem enc_code {w : World} {m : MsgM} {ev mv : Value} (h : MsgAt w ev mv m) (hs : smallM m) :
    Calls Try.prog 10 #[msgV m ev mv] w fun e w' => CodeOf w w' e (codW m) :=
  (encode_any h hs).mono (fun _ _ hr => code_of hr)

theorem renc_code {w : World} {m : MsgM} {ev mv : Value} (h : MsgAt w ev mv m) (hs : smallM m) :
    Calls Try.prog 11 #[msgV m ev mv] w fun e w' => CodeOf w w' e (codW m) :=
  (rencode_any h hs).mono (fun _ _ hr => code_of hr)

set_option maxRecDepth 100000 in
set_option maxHeartbeats 40000000 in
theorem msgFields_any (m : MsgM) (ev mv : Value) {w : World} (hm : MsgW w ev mv m) :
    Calls Try.prog 7 #[msgV m ev mv] w fun e w' => e = .returned (.bool true) ∧ Below w.heap.size w w' := by
  obtain ⟨⟨a, c, rfl⟩, ⟨a2, c2, rfl⟩⟩ := msgWd_len hm
  obtain ⟨gM, hgM⟩ : ∃ gM, gM = w.heap.size := ⟨_, rfl⟩
  have hb0 := below_more (Below.refl _ w) (.cells #[.int .i64 m.kd, .int .i64 m.fr, .int .i64 m.to, .int .i64 m.tm, .int .i64 m.ix, .int .i64 m.lt, .int .i64 m.cm, .bool m.yes, .slice a m.es.length c, .int .i64 m.sn.ix, .int .i64 m.sn.tm, .slice a2 m.sn.ms.length c2, .string m.sn.d] 27)
  have hr0 : Rw (w.alloc (.cells #[.int .i64 m.kd, .int .i64 m.fr, .int .i64 m.to, .int .i64 m.tm, .int .i64 m.ix, .int .i64 m.lt, .int .i64 m.cm, .bool m.yes, .slice a m.es.length c, .int .i64 m.sn.ix, .int .i64 m.sn.tm, .slice a2 m.sn.ms.length c2, .string m.sn.d] 27)) 0 gM 27 [.int .i64 m.kd, .int .i64 m.fr, .int .i64 m.to, .int .i64 m.tm, .int .i64 m.ix, .int .i64 m.lt, .int .i64 m.cm, .bool m.yes, .slice a m.es.length c, .int .i64 m.sn.ix, .int .i64 m.sn.tm, .slice a2 m.sn.ms.length c2, .string m.sn.d] := by rw [hgM]; exact Rw.alloc w _ _ (Nat.zero_le _)
  have hz := zero_cells Try.infoMsg
  have HIN := Lib.hid (in_any (msgWd_below hm hb0))
  have HMW := Lib.hid hm
  have HB0 := Lib.hid hb0
  have HR0 := Lib.hid hr0
  obtain ⟨n, hn⟩ : ∃ n, n = m.es.length := ⟨_, rfl⟩
  obtain ⟨M, hM⟩ : ∃ M, M = m.sn.ms.length := ⟨_, rfl⟩
  have HN := Lib.hid hn
  have HM := Lib.hid hM
  unfold msgV at HIN ⊢
  rw [← hn, ← hM] at HIN HB0 HR0 HMW ⊢
  clear hm hn hM hb0 hr0
  go_enter Try.func7, Try.ntmps7
  go_upto_region 1 with fail
  rw [← hgM]
  clear hgM
  obtain ⟨w0, hw0⟩ : ∃ w0, w0 = w.alloc (.cells #[.int .i64 m.kd, .int .i64 m.fr, .int .i64 m.to, .int .i64 m.tm, .int .i64 m.ix, .int .i64 m.lt, .int .i64 m.cm, .bool m.yes, .slice a n c, .int .i64 m.sn.ix, .int .i64 m.sn.tm, .slice a2 M c2, .string m.sn.d] 27) := ⟨_, rfl⟩
  rw [← hw0] at HIN HB0 HR0 ⊢
  clear hw0
  go_wp2_with (first | (refine wpList_load_mid rfl 27 _ rfl gM 0 rfl [.int .i64 m.kd, .int .i64 m.fr, .int .i64 m.to, .int .i64 m.tm, .int .i64 m.ix, .int .i64 m.lt, .int .i64 m.cm, .bool m.yes, .slice a n c, .int .i64 m.sn.ix, .int .i64 m.sn.tm, .slice a2 M c2, .string m.sn.d] _ (Rw.whole HR0.out) Try.underlying27 rfl Try.sizeMsg ?_) | fail)
  refine (HIN.out).mono ?_
  rintro e w1 ⟨⟨b, rfl, hb⟩, hb1⟩
  have HB1 := Lib.hid (below_then HB0.out hb1)
  have HR1 := Lib.hid (Rw.below HR0.out hb1)
  have HQ := Lib.hid hb
  clear hb hb1 HIN
  cases b with
  | false =>
    have HAW := Lib.hid (mawake_any w1)
    go_wp2_with fail
    refine (HAW.out).mono ?_
    rintro e w2 ⟨rfl, hb2⟩
    have HB2 := Lib.hid (below_then HB1.out hb2)
    clear hb2
    go_wp2_with fail
    go_ret
    exact ⟨rfl, HB2.out⟩
  | true =>
    have hms := msgW_at (ev := .slice a n c) (mv := .slice a2 M c2) HMW.out (HQ.out rfl).1 (HQ.out rfl).2.1 (HQ.out rfl).2.2
    have HAT := Lib.hid hms.1
    have HSM := Lib.hid hms.2
    have HEN := Lib.hid (enc_code (msgAt_below HAT.out HB1.out) HSM.out)
    unfold msgV at HEN
    clear hms HQ
    go_wp2_with (first | (refine wpList_load_mid rfl 27 _ rfl gM 0 rfl [.int .i64 m.kd, .int .i64 m.fr, .int .i64 m.to, .int .i64 m.tm, .int .i64 m.ix, .int .i64 m.lt, .int .i64 m.cm, .bool m.yes, .slice a n c, .int .i64 m.sn.ix, .int .i64 m.sn.tm, .slice a2 M c2, .string m.sn.d] _ (Rw.whole HR1.out) Try.underlying27 rfl Try.sizeMsg ?_) | fail)
    refine (HEN.out).mono ?_
    rintro e w2 ⟨ax, nx, cx, rfl, hb2⟩
    have HB2 := Lib.hid (below_then HB1.out hb2)
    have HR2 := Lib.hid (Rw.below HR1.out hb2)
    clear hb2 HEN
    cases hok : okMB m with
    | false =>
      rw [cod_no hok]
      have HAW := Lib.hid (mawake_any w2)
      clear hok
      go_wp2_with fail
      refine (HAW.out).mono ?_
      rintro e w3 ⟨rfl, hb3⟩
      have HB3 := Lib.hid (below_then HB2.out hb3)
      clear hb3
      go_wp2_with fail
      go_ret
      exact ⟨rfl, HB3.out⟩
    | true =>
      rw [cod_yes hok]
      have HTWO := Lib.hid (fields_two hok)
      clear hok
      go_wp2_with fail
      go_loopw [5, 6] (fun ov iv wr => ∃ (k o : Nat), k ≤ 5 ∧ iv = .int .i64 k ∧ ov = .int .i64 o ∧ Hid (o = oddN m k) ∧ Hid (Below w.heap.size w wr ∧ Rw wr 0 gM 27 [.int .i64 m.kd, .int .i64 m.fr, .int .i64 m.to, .int .i64 m.tm, .int .i64 m.ix, .int .i64 m.lt, .int .i64 m.cm, .bool m.yes, .slice a n c, .int .i64 m.sn.ix, .int .i64 m.sn.tm, .slice a2 M c2, .string m.sn.d])) (fun _ iv _ => 5 - (intOf iv).toNat)
      case atStart => exact ⟨0, 0, Nat.zero_le _, rfl, rfl, Lib.hid rfl, Lib.hid ⟨HB2.out, HR2.out⟩⟩
      case round =>
        obtain ⟨k, o, hk, rfl, rfl, HO, HW⟩ := hrel
        obtain ⟨w3, hw3⟩ : ∃ w3 : World, w3 = wr := ⟨_, rfl⟩
        subst hw3
        clear HB2 HR2
        have ho5 : (o : Int) < 6 := by have h1 := oddN_le m k; have h2 := HO.out; omega
        have ho0 : 0 ≤ (o : Int) := by omega
        have hk6 : k = 0 ∨ k = 1 ∨ k = 2 ∨ k = 3 ∨ k = 4 ∨ k = 5 := by omega
        have HRX : Hid (Rw w3 0 gM 27 [.int .i64 m.kd, .int .i64 m.fr, .int .i64 m.to, .int .i64 m.tm, .int .i64 m.ix, .int .i64 m.lt, .int .i64 m.cm, .bool m.yes, .slice a n c, .int .i64 m.sn.ix, .int .i64 m.sn.tm, .slice a2 M c2, .string m.sn.d]) := Lib.hid HW.out.2
        obtain ⟨gX, hgX⟩ : ∃ gX, gX = w3.heap.size := ⟨_, rfl⟩
        have HBA := Lib.hid (below_more (Below.refl _ w3) (.cells #[.int .i64 m.kd, .int .i64 m.fr, .int .i64 m.to, .int .i64 m.tm, .int .i64 m.ix, .int .i64 m.lt, .int .i64 m.cm, .bool m.yes, .slice a n c, .int .i64 m.sn.ix, .int .i64 m.sn.tm, .slice a2 M c2, .string m.sn.d] 27))
        have HRA : Hid (Rw (w3.alloc (.cells #[.int .i64 m.kd, .int .i64 m.fr, .int .i64 m.to, .int .i64 m.tm, .int .i64 m.ix, .int .i64 m.lt, .int .i64 m.cm, .bool m.yes, .slice a n c, .int .i64 m.sn.ix, .int .i64 m.sn.tm, .slice a2 M c2, .string m.sn.d] 27)) 0 gX 27 [.int .i64 m.kd, .int .i64 m.fr, .int .i64 m.to, .int .i64 m.tm, .int .i64 m.ix, .int .i64 m.lt, .int .i64 m.cm, .bool m.yes, .slice a n c, .int .i64 m.sn.ix, .int .i64 m.sn.tm, .slice a2 M c2, .string m.sn.d]) := Lib.hid (by rw [hgX]; exact Rw.alloc w3 _ _ (Nat.zero_le _))
        have HGX := Lib.hid hgX
        clear hk hgX
        rcases hk6 with rfl | rfl | rfl | rfl | rfl | rfl
        · go_upto_region 11 with (first | (refine wpList_load_mid rfl 27 _ rfl gM 0 rfl [.int .i64 m.kd, .int .i64 m.fr, .int .i64 m.to, .int .i64 m.tm, .int .i64 m.ix, .int .i64 m.lt, .int .i64 m.cm, .bool m.yes, .slice a n c, .int .i64 m.sn.ix, .int .i64 m.sn.tm, .slice a2 M c2, .string m.sn.d] _ (Rw.whole HRX.out) Try.underlying27 rfl Try.sizeMsg ?_) | (refine wpList_alloc_z rfl 27 rfl #[.int .i64 0, .int .i64 0, .int .i64 0, .int .i64 0, .int .i64 0, .int .i64 0, .int .i64 0, .bool false, .slice none 0 0, .int .i64 0, .int .i64 0, .slice none 0 0, .string ⟨#[]⟩] hz ?_) | fail)
          rw [← HGX.out]
          obtain ⟨w4, hw4⟩ : ∃ w4, w4 = w3.alloc (.cells #[.int .i64 m.kd, .int .i64 m.fr, .int .i64 m.to, .int .i64 m.tm, .int .i64 m.ix, .int .i64 m.lt, .int .i64 m.cm, .bool m.yes, .slice a n c, .int .i64 m.sn.ix, .int .i64 m.sn.tm, .slice a2 M c2, .string m.sn.d] 27) := ⟨_, rfl⟩
          rw [← hw4] at HBA HRA ⊢
          clear hw4
          have yv := Rw.cell HRA.out (j := 4) (v := .int .i64 m.ix) rfl
          have yf := Rw.free HRA.out 4
          go_upto_region 22 with fail
          obtain ⟨w5, hw5⟩ : ∃ w5, w5 = w4.setCell ⟨gX, 4, none⟩ (.int .i64 (bits .xor .i64 m.ix 1)) := ⟨_, rfl⟩
          have HR5 : Hid (Rw w5 0 gX 27 [.int .i64 m.kd, .int .i64 m.fr, .int .i64 m.to, .int .i64 m.tm, .int .i64 (xo m.ix), .int .i64 m.lt, .int .i64 m.cm, .bool m.yes, .slice a n c, .int .i64 m.sn.ix, .int .i64 m.sn.tm, .slice a2 M c2, .string m.sn.d]) := Lib.hid (by rw [hw5]; exact Rw.stored HRA.out 4 _)
          have HB5 : Hid (Below w3.heap.size w3 w5) := Lib.hid (by rw [hw5]; exact Below.setCell HBA.out (by rw [HGX.out]; exact Nat.le_refl _) _)
          rw [← hw5]
          clear hw5 yv yf
          have HRM5 := Lib.hid (Rw.below HW.out.2 HB5.out)
          have HAT5 := Lib.hid (msgAt_mod (msgAt_below HAT.out (below_then HW.out.1 HB5.out)) 0)
          obtain ⟨C, hC⟩ : ∃ C, C = codW (modM 0 m) := ⟨_, rfl⟩
          have HCC := Lib.hid hC
          clear hC
          have HEK : Hid (Calls Try.prog 10 #[.agg #[.int .i64 m.kd, .int .i64 m.fr, .int .i64 m.to, .int .i64 m.tm, .int .i64 (xo m.ix), .int .i64 m.lt, .int .i64 m.cm, .bool m.yes, .slice a n c, .int .i64 m.sn.ix, .int .i64 m.sn.tm, .slice a2 M c2, .string m.sn.d]] w5 fun e w' => CodeOf w5 w' e C) := Lib.hid (by rw [HCC.out]; exact enc_code HAT5.out (small_mod HSM.out 0))
          go_wp2_with (first | (refine wpList_load_mid rfl 27 _ rfl gX 0 rfl [.int .i64 m.kd, .int .i64 m.fr, .int .i64 m.to, .int .i64 m.tm, .int .i64 (xo m.ix), .int .i64 m.lt, .int .i64 m.cm, .bool m.yes, .slice a n c, .int .i64 m.sn.ix, .int .i64 m.sn.tm, .slice a2 M c2, .string m.sn.d] _ (Rw.whole HR5.out) Try.underlying27 rfl Try.sizeMsg ?_) | fail)
          refine (HEK.out).mono ?_
          rintro e w6 ⟨a6, n6, c6, rfl, hb6⟩
          have HR6 := Lib.hid (Rw.below HR5.out hb6)
          have HB6 := Lib.hid (HB5.out.trans (Below.mono hb6 HB5.out.size))
          have HRK : Hid (Calls Try.prog 11 #[.agg #[.int .i64 m.kd, .int .i64 m.fr, .int .i64 m.to, .int .i64 m.tm, .int .i64 (xo m.ix), .int .i64 m.lt, .int .i64 m.cm, .bool m.yes, .slice a n c, .int .i64 m.sn.ix, .int .i64 m.sn.tm, .slice a2 M c2, .string m.sn.d]] w6 fun e w' => CodeOf w6 w' e C) := Lib.hid (by rw [HCC.out]; exact renc_code (msgAt_below HAT5.out hb6) (small_mod HSM.out 0))
          clear hb6 HEK
          go_wp2_with (first | (refine wpList_load_mid rfl 27 _ rfl gX 0 rfl [.int .i64 m.kd, .int .i64 m.fr, .int .i64 m.to, .int .i64 m.tm, .int .i64 (xo m.ix), .int .i64 m.lt, .int .i64 m.cm, .bool m.yes, .slice a n c, .int .i64 m.sn.ix, .int .i64 m.sn.tm, .slice a2 M c2, .string m.sn.d] _ (Rw.whole HR6.out) Try.underlying27 rfl Try.sizeMsg ?_) | fail)
          refine (HRK.out).mono ?_
          rintro e w7 ⟨a7, n7, c7, rfl, hb7⟩
          have HB7 := Lib.hid (HB6.out.trans (Below.mono hb7 HB6.out.size))
          have HW7 := Lib.hid (And.intro (below_then HW.out.1 HB7.out) (Rw.below HW.out.2 HB7.out))
          clear hb7 HRK
          rcases cod_two (modM 0 m) with ⟨hc, hq⟩ | ⟨hc, hq⟩
          · obtain rfl : C = 0 := by rw [HCC.out]; exact hc
            have HOD := Lib.hid (oddN_yes hq)
            clear hc hq
            go_wp2_with fail
            go_roundw
            case rel => exact ⟨1, o, by omega, rfl, rfl, Lib.hid (by rw [HOD.out]; exact HO.out), HW7⟩
            case measure => simp [intOf]
          · obtain rfl : C = 1 := by rw [HCC.out]; exact hc
            have HOD := Lib.hid (oddN_no hq)
            clear hc hq
            go_wp2_with fail
            go_roundw
            case rel => exact ⟨1, o + 1, by omega, rfl, by go_num, Lib.hid (by rw [HOD.out, HO.out]), HW7⟩
            case measure => simp [intOf]
        · go_upto_region 11 with (first | (refine wpList_load_mid rfl 27 _ rfl gM 0 rfl [.int .i64 m.kd, .int .i64 m.fr, .int .i64 m.to, .int .i64 m.tm, .int .i64 m.ix, .int .i64 m.lt, .int .i64 m.cm, .bool m.yes, .slice a n c, .int .i64 m.sn.ix, .int .i64 m.sn.tm, .slice a2 M c2, .string m.sn.d] _ (Rw.whole HRX.out) Try.underlying27 rfl Try.sizeMsg ?_) | (refine wpList_alloc_z rfl 27 rfl #[.int .i64 0, .int .i64 0, .int .i64 0, .int .i64 0, .int .i64 0, .int .i64 0, .int .i64 0, .bool false, .slice none 0 0, .int .i64 0, .int .i64 0, .slice none 0 0, .string ⟨#[]⟩] hz ?_) | fail)
          rw [← HGX.out]
          obtain ⟨w4, hw4⟩ : ∃ w4, w4 = w3.alloc (.cells #[.int .i64 m.kd, .int .i64 m.fr, .int .i64 m.to, .int .i64 m.tm, .int .i64 m.ix, .int .i64 m.lt, .int .i64 m.cm, .bool m.yes, .slice a n c, .int .i64 m.sn.ix, .int .i64 m.sn.tm, .slice a2 M c2, .string m.sn.d] 27) := ⟨_, rfl⟩
          rw [← hw4] at HBA HRA ⊢
          clear hw4
          have yv := Rw.cell HRA.out (j := 5) (v := .int .i64 m.lt) rfl
          have yf := Rw.free HRA.out 5
          go_upto_region 22 with fail
          obtain ⟨w5, hw5⟩ : ∃ w5, w5 = w4.setCell ⟨gX, 5, none⟩ (.int .i64 (bits .xor .i64 m.lt 1)) := ⟨_, rfl⟩
          have HR5 : Hid (Rw w5 0 gX 27 [.int .i64 m.kd, .int .i64 m.fr, .int .i64 m.to, .int .i64 m.tm, .int .i64 m.ix, .int .i64 (xo m.lt), .int .i64 m.cm, .bool m.yes, .slice a n c, .int .i64 m.sn.ix, .int .i64 m.sn.tm, .slice a2 M c2, .string m.sn.d]) := Lib.hid (by rw [hw5]; exact Rw.stored HRA.out 5 _)
          have HB5 : Hid (Below w3.heap.size w3 w5) := Lib.hid (by rw [hw5]; exact Below.setCell HBA.out (by rw [HGX.out]; exact Nat.le_refl _) _)
          rw [← hw5]
          clear hw5 yv yf
          have HRM5 := Lib.hid (Rw.below HW.out.2 HB5.out)
          have HAT5 := Lib.hid (msgAt_mod (msgAt_below HAT.out (below_then HW.out.1 HB5.out)) 1)
          obtain ⟨C, hC⟩ : ∃ C, C = codW (modM 1 m) := ⟨_, rfl⟩
          have HCC := Lib.hid hC
          clear hC
          have HEK : Hid (Calls Try.prog 10 #[.agg #[.int .i64 m.kd, .int .i64 m.fr, .int .i64 m.to, .int .i64 m.tm, .int .i64 m.ix, .int .i64 (xo m.lt), .int .i64 m.cm, .bool m.yes, .slice a n c, .int .i64 m.sn.ix, .int .i64 m.sn.tm, .slice a2 M c2, .string m.sn.d]] w5 fun e w' => CodeOf w5 w' e C) := Lib.hid (by rw [HCC.out]; exact enc_code HAT5.out (small_mod HSM.out 1))
          go_wp2_with (first | (refine wpList_load_mid rfl 27 _ rfl gX 0 rfl [.int .i64 m.kd, .int .i64 m.fr, .int .i64 m.to, .int .i64 m.tm, .int .i64 m.ix, .int .i64 (xo m.lt), .int .i64 m.cm, .bool m.yes, .slice a n c, .int .i64 m.sn.ix, .int .i64 m.sn.tm, .slice a2 M c2, .string m.sn.d] _ (Rw.whole HR5.out) Try.underlying27 rfl Try.sizeMsg ?_) | fail)
          refine (HEK.out).mono ?_
          rintro e w6 ⟨a6, n6, c6, rfl, hb6⟩
          have HR6 := Lib.hid (Rw.below HR5.out hb6)
          have HB6 := Lib.hid (HB5.out.trans (Below.mono hb6 HB5.out.size))
          have HRK : Hid (Calls Try.prog 11 #[.agg #[.int .i64 m.kd, .int .i64 m.fr, .int .i64 m.to, .int .i64 m.tm, .int .i64 m.ix, .int .i64 (xo m.lt), .int .i64 m.cm, .bool m.yes, .slice a n c, .int .i64 m.sn.ix, .int .i64 m.sn.tm, .slice a2 M c2, .string m.sn.d]] w6 fun e w' => CodeOf w6 w' e C) := Lib.hid (by rw [HCC.out]; exact renc_code (msgAt_below HAT5.out hb6) (small_mod HSM.out 1))
          clear hb6 HEK
          go_wp2_with (first | (refine wpList_load_mid rfl 27 _ rfl gX 0 rfl [.int .i64 m.kd, .int .i64 m.fr, .int .i64 m.to, .int .i64 m.tm, .int .i64 m.ix, .int .i64 (xo m.lt), .int .i64 m.cm, .bool m.yes, .slice a n c, .int .i64 m.sn.ix, .int .i64 m.sn.tm, .slice a2 M c2, .string m.sn.d] _ (Rw.whole HR6.out) Try.underlying27 rfl Try.sizeMsg ?_) | fail)
          refine (HRK.out).mono ?_
          rintro e w7 ⟨a7, n7, c7, rfl, hb7⟩
          have HB7 := Lib.hid (HB6.out.trans (Below.mono hb7 HB6.out.size))
          have HW7 := Lib.hid (And.intro (below_then HW.out.1 HB7.out) (Rw.below HW.out.2 HB7.out))
          clear hb7 HRK
          rcases cod_two (modM 1 m) with ⟨hc, hq⟩ | ⟨hc, hq⟩
          · obtain rfl : C = 0 := by rw [HCC.out]; exact hc
            have HOD := Lib.hid (oddN_yes hq)
            clear hc hq
            go_wp2_with fail
            go_roundw
            case rel => exact ⟨2, o, by omega, rfl, rfl, Lib.hid (by rw [HOD.out]; exact HO.out), HW7⟩
            case measure => simp [intOf]
          · obtain rfl : C = 1 := by rw [HCC.out]; exact hc
            have HOD := Lib.hid (oddN_no hq)
            clear hc hq
            go_wp2_with fail
            go_roundw
            case rel => exact ⟨2, o + 1, by omega, rfl, by go_num, Lib.hid (by rw [HOD.out, HO.out]), HW7⟩
            case measure => simp [intOf]
        · go_upto_region 11 with (first | (refine wpList_load_mid rfl 27 _ rfl gM 0 rfl [.int .i64 m.kd, .int .i64 m.fr, .int .i64 m.to, .int .i64 m.tm, .int .i64 m.ix, .int .i64 m.lt, .int .i64 m.cm, .bool m.yes, .slice a n c, .int .i64 m.sn.ix, .int .i64 m.sn.tm, .slice a2 M c2, .string m.sn.d] _ (Rw.whole HRX.out) Try.underlying27 rfl Try.sizeMsg ?_) | (refine wpList_alloc_z rfl 27 rfl #[.int .i64 0, .int .i64 0, .int .i64 0, .int .i64 0, .int .i64 0, .int .i64 0, .int .i64 0, .bool false, .slice none 0 0, .int .i64 0, .int .i64 0, .slice none 0 0, .string ⟨#[]⟩] hz ?_) | fail)
          rw [← HGX.out]
          obtain ⟨w4, hw4⟩ : ∃ w4, w4 = w3.alloc (.cells #[.int .i64 m.kd, .int .i64 m.fr, .int .i64 m.to, .int .i64 m.tm, .int .i64 m.ix, .int .i64 m.lt, .int .i64 m.cm, .bool m.yes, .slice a n c, .int .i64 m.sn.ix, .int .i64 m.sn.tm, .slice a2 M c2, .string m.sn.d] 27) := ⟨_, rfl⟩
          rw [← hw4] at HBA HRA ⊢
          clear hw4
          have yv := Rw.cell HRA.out (j := 6) (v := .int .i64 m.cm) rfl
          have yf := Rw.free HRA.out 6
          go_upto_region 22 with fail
          obtain ⟨w5, hw5⟩ : ∃ w5, w5 = w4.setCell ⟨gX, 6, none⟩ (.int .i64 (bits .xor .i64 m.cm 1)) := ⟨_, rfl⟩
          have HR5 : Hid (Rw w5 0 gX 27 [.int .i64 m.kd, .int .i64 m.fr, .int .i64 m.to, .int .i64 m.tm, .int .i64 m.ix, .int .i64 m.lt, .int .i64 (xo m.cm), .bool m.yes, .slice a n c, .int .i64 m.sn.ix, .int .i64 m.sn.tm, .slice a2 M c2, .string m.sn.d]) := Lib.hid (by rw [hw5]; exact Rw.stored HRA.out 6 _)
          have HB5 : Hid (Below w3.heap.size w3 w5) := Lib.hid (by rw [hw5]; exact Below.setCell HBA.out (by rw [HGX.out]; exact Nat.le_refl _) _)
          rw [← hw5]
          clear hw5 yv yf
          have HRM5 := Lib.hid (Rw.below HW.out.2 HB5.out)
          have HAT5 := Lib.hid (msgAt_mod (msgAt_below HAT.out (below_then HW.out.1 HB5.out)) 2)
          obtain ⟨C, hC⟩ : ∃ C, C = codW (modM 2 m) := ⟨_, rfl⟩
          have HCC := Lib.hid hC
          clear hC
          have HEK : Hid (Calls Try.prog 10 #[.agg #[.int .i64 m.kd, .int .i64 m.fr, .int .i64 m.to, .int .i64 m.tm, .int .i64 m.ix, .int .i64 m.lt, .int .i64 (xo m.cm), .bool m.yes, .slice a n c, .int .i64 m.sn.ix, .int .i64 m.sn.tm, .slice a2 M c2, .string m.sn.d]] w5 fun e w' => CodeOf w5 w' e C) := Lib.hid (by rw [HCC.out]; exact enc_code HAT5.out (small_mod HSM.out 2))
          go_wp2_with (first | (refine wpList_load_mid rfl 27 _ rfl gX 0 rfl [.int .i64 m.kd, .int .i64 m.fr, .int .i64 m.to, .int .i64 m.tm, .int .i64 m.ix, .int .i64 m.lt, .int .i64 (xo m.cm), .bool m.yes, .slice a n c, .int .i64 m.sn.ix, .int .i64 m.sn.tm, .slice a2 M c2, .string m.sn.d] _ (Rw.whole HR5.out) Try.underlying27 rfl Try.sizeMsg ?_) | fail)
          refine (HEK.out).mono ?_
          rintro e w6 ⟨a6, n6, c6, rfl, hb6⟩
          have HR6 := Lib.hid (Rw.below HR5.out hb6)
          have HB6 := Lib.hid (HB5.out.trans (Below.mono hb6 HB5.out.size))
          have HRK : Hid (Calls Try.prog 11 #[.agg #[.int .i64 m.kd, .int .i64 m.fr, .int .i64 m.to, .int .i64 m.tm, .int .i64 m.ix, .int .i64 m.lt, .int .i64 (xo m.cm), .bool m.yes, .slice a n c, .int .i64 m.sn.ix, .int .i64 m.sn.tm, .slice a2 M c2, .string m.sn.d]] w6 fun e w' => CodeOf w6 w' e C) := Lib.hid (by rw [HCC.out]; exact renc_code (msgAt_below HAT5.out hb6) (small_mod HSM.out 2))
          clear hb6 HEK
          go_wp2_with (first | (refine wpList_load_mid rfl 27 _ rfl gX 0 rfl [.int .i64 m.kd, .int .i64 m.fr, .int .i64 m.to, .int .i64 m.tm, .int .i64 m.ix, .int .i64 m.lt, .int .i64 (xo m.cm), .bool m.yes, .slice a n c, .int .i64 m.sn.ix, .int .i64 m.sn.tm, .slice a2 M c2, .string m.sn.d] _ (Rw.whole HR6.out) Try.underlying27 rfl Try.sizeMsg ?_) | fail)
          refine (HRK.out).mono ?_
          rintro e w7 ⟨a7, n7, c7, rfl, hb7⟩
          have HB7 := Lib.hid (HB6.out.trans (Below.mono hb7 HB6.out.size))
          have HW7 := Lib.hid (And.intro (below_then HW.out.1 HB7.out) (Rw.below HW.out.2 HB7.out))
          clear hb7 HRK
          rcases cod_two (modM 2 m) with ⟨hc, hq⟩ | ⟨hc, hq⟩
          · obtain rfl : C = 0 := by rw [HCC.out]; exact hc
            have HOD := Lib.hid (oddN_yes hq)
            clear hc hq
            go_wp2_with fail
            go_roundw
            case rel => exact ⟨3, o, by omega, rfl, rfl, Lib.hid (by rw [HOD.out]; exact HO.out), HW7⟩
            case measure => simp [intOf]
          · obtain rfl : C = 1 := by rw [HCC.out]; exact hc
            have HOD := Lib.hid (oddN_no hq)
            clear hc hq
            go_wp2_with fail
            go_roundw
            case rel => exact ⟨3, o + 1, by omega, rfl, by go_num, Lib.hid (by rw [HOD.out, HO.out]), HW7⟩
            case measure => simp [intOf]
        · go_upto_region 11 with (first | (refine wpList_load_mid rfl 27 _ rfl gM 0 rfl [.int .i64 m.kd, .int .i64 m.fr, .int .i64 m.to, .int .i64 m.tm, .int .i64 m.ix, .int .i64 m.lt, .int .i64 m.cm, .bool m.yes, .slice a n c, .int .i64 m.sn.ix, .int .i64 m.sn.tm, .slice a2 M c2, .string m.sn.d] _ (Rw.whole HRX.out) Try.underlying27 rfl Try.sizeMsg ?_) | (refine wpList_alloc_z rfl 27 rfl #[.int .i64 0, .int .i64 0, .int .i64 0, .int .i64 0, .int .i64 0, .int .i64 0, .int .i64 0, .bool false, .slice none 0 0, .int .i64 0, .int .i64 0, .slice none 0 0, .string ⟨#[]⟩] hz ?_) | fail)
          rw [← HGX.out]
          obtain ⟨w4, hw4⟩ : ∃ w4, w4 = w3.alloc (.cells #[.int .i64 m.kd, .int .i64 m.fr, .int .i64 m.to, .int .i64 m.tm, .int .i64 m.ix, .int .i64 m.lt, .int .i64 m.cm, .bool m.yes, .slice a n c, .int .i64 m.sn.ix, .int .i64 m.sn.tm, .slice a2 M c2, .string m.sn.d] 27) := ⟨_, rfl⟩
          rw [← hw4] at HBA HRA ⊢
          clear hw4
          have yv := Rw.cell HRA.out (j := 7) (v := .bool m.yes) rfl
          have yf := Rw.free HRA.out 7
          go_upto_region 22 with fail
          obtain ⟨w5, hw5⟩ : ∃ w5, w5 = w4.setCell ⟨gX, 7, none⟩ (.bool (!m.yes)) := ⟨_, rfl⟩
          have HR5 : Hid (Rw w5 0 gX 27 [.int .i64 m.kd, .int .i64 m.fr, .int .i64 m.to, .int .i64 m.tm, .int .i64 m.ix, .int .i64 m.lt, .int .i64 m.cm, .bool (!m.yes), .slice a n c, .int .i64 m.sn.ix, .int .i64 m.sn.tm, .slice a2 M c2, .string m.sn.d]) := Lib.hid (by rw [hw5]; exact Rw.stored HRA.out 7 _)
          have HB5 : Hid (Below w3.heap.size w3 w5) := Lib.hid (by rw [hw5]; exact Below.setCell HBA.out (by rw [HGX.out]; exact Nat.le_refl _) _)
          rw [← hw5]
          clear hw5 yv yf
          have HRM5 := Lib.hid (Rw.below HW.out.2 HB5.out)
          have HAT5 := Lib.hid (msgAt_mod (msgAt_below HAT.out (below_then HW.out.1 HB5.out)) 3)
          obtain ⟨C, hC⟩ : ∃ C, C = codW (modM 3 m) := ⟨_, rfl⟩
          have HCC := Lib.hid hC
          clear hC
          have HEK : Hid (Calls Try.prog 10 #[.agg #[.int .i64 m.kd, .int .i64 m.fr, .int .i64 m.to, .int .i64 m.tm, .int .i64 m.ix, .int .i64 m.lt, .int .i64 m.cm, .bool (!m.yes), .slice a n c, .int .i64 m.sn.ix, .int .i64 m.sn.tm, .slice a2 M c2, .string m.sn.d]] w5 fun e w' => CodeOf w5 w' e C) := Lib.hid (by rw [HCC.out]; exact enc_code HAT5.out (small_mod HSM.out 3))
          go_wp2_with (first | (refine wpList_load_mid rfl 27 _ rfl gX 0 rfl [.int .i64 m.kd, .int .i64 m.fr, .int .i64 m.to, .int .i64 m.tm, .int .i64 m.ix, .int .i64 m.lt, .int .i64 m.cm, .bool (!m.yes), .slice a n c, .int .i64 m.sn.ix, .int .i64 m.sn.tm, .slice a2 M c2, .string m.sn.d] _ (Rw.whole HR5.out) Try.underlying27 rfl Try.sizeMsg ?_) | fail)
          refine (HEK.out).mono ?_
          rintro e w6 ⟨a6, n6, c6, rfl, hb6⟩
          have HR6 := Lib.hid (Rw.below HR5.out hb6)
          have HB6 := Lib.hid (HB5.out.trans (Below.mono hb6 HB5.out.size))
          have HRK : Hid (Calls Try.prog 11 #[.agg #[.int .i64 m.kd, .int .i64 m.fr, .int .i64 m.to, .int .i64 m.tm, .int .i64 m.ix, .int .i64 m.lt, .int .i64 m.cm, .bool (!m.yes), .slice a n c, .int .i64 m.sn.ix, .int .i64 m.sn.tm, .slice a2 M c2, .string m.sn.d]] w6 fun e w' => CodeOf w6 w' e C) := Lib.hid (by rw [HCC.out]; exact renc_code (msgAt_below HAT5.out hb6) (small_mod HSM.out 3))
          clear hb6 HEK
          go_wp2_with (first | (refine wpList_load_mid rfl 27 _ rfl gX 0 rfl [.int .i64 m.kd, .int .i64 m.fr, .int .i64 m.to, .int .i64 m.tm, .int .i64 m.ix, .int .i64 m.lt, .int .i64 m.cm, .bool (!m.yes), .slice a n c, .int .i64 m.sn.ix, .int .i64 m.sn.tm, .slice a2 M c2, .string m.sn.d] _ (Rw.whole HR6.out) Try.underlying27 rfl Try.sizeMsg ?_) | fail)
          refine (HRK.out).mono ?_
          rintro e w7 ⟨a7, n7, c7, rfl, hb7⟩
          have HB7 := Lib.hid (HB6.out.trans (Below.mono hb7 HB6.out.size))
          have HW7 := Lib.hid (And.intro (below_then HW.out.1 HB7.out) (Rw.below HW.out.2 HB7.out))
          clear hb7 HRK
          rcases cod_two (modM 3 m) with ⟨hc, hq⟩ | ⟨hc, hq⟩
          · obtain rfl : C = 0 := by rw [HCC.out]; exact hc
            have HOD := Lib.hid (oddN_yes hq)
            clear hc hq
            go_wp2_with fail
            go_roundw
            case rel => exact ⟨4, o, by omega, rfl, rfl, Lib.hid (by rw [HOD.out]; exact HO.out), HW7⟩
            case measure => simp [intOf]
          · obtain rfl : C = 1 := by rw [HCC.out]; exact hc
            have HOD := Lib.hid (oddN_no hq)
            clear hc hq
            go_wp2_with fail
            go_roundw
            case rel => exact ⟨4, o + 1, by omega, rfl, by go_num, Lib.hid (by rw [HOD.out, HO.out]), HW7⟩
            case measure => simp [intOf]
        · go_upto_region 11 with (first | (refine wpList_load_mid rfl 27 _ rfl gM 0 rfl [.int .i64 m.kd, .int .i64 m.fr, .int .i64 m.to, .int .i64 m.tm, .int .i64 m.ix, .int .i64 m.lt, .int .i64 m.cm, .bool m.yes, .slice a n c, .int .i64 m.sn.ix, .int .i64 m.sn.tm, .slice a2 M c2, .string m.sn.d] _ (Rw.whole HRX.out) Try.underlying27 rfl Try.sizeMsg ?_) | (refine wpList_alloc_z rfl 27 rfl #[.int .i64 0, .int .i64 0, .int .i64 0, .int .i64 0, .int .i64 0, .int .i64 0, .int .i64 0, .bool false, .slice none 0 0, .int .i64 0, .int .i64 0, .slice none 0 0, .string ⟨#[]⟩] hz ?_) | fail)
          rw [← HGX.out]
          obtain ⟨w4, hw4⟩ : ∃ w4, w4 = w3.alloc (.cells #[.int .i64 m.kd, .int .i64 m.fr, .int .i64 m.to, .int .i64 m.tm, .int .i64 m.ix, .int .i64 m.lt, .int .i64 m.cm, .bool m.yes, .slice a n c, .int .i64 m.sn.ix, .int .i64 m.sn.tm, .slice a2 M c2, .string m.sn.d] 27) := ⟨_, rfl⟩
          rw [← hw4] at HBA HRA ⊢
          clear hw4
          have yv := Rw.cell HRA.out (j := 9) (v := .int .i64 m.sn.ix) rfl
          have yf := Rw.free HRA.out 9
          go_upto_region 22 with fail
          obtain ⟨w5, hw5⟩ : ∃ w5, w5 = w4.setCell ⟨gX, 9, none⟩ (.int .i64 (bits .xor .i64 m.sn.ix 1)) := ⟨_, rfl⟩
          have HR5 : Hid (Rw w5 0 gX 27 [.int .i64 m.kd, .int .i64 m.fr, .int .i64 m.to, .int .i64 m.tm, .int .i64 m.ix, .int .i64 m.lt, .int .i64 m.cm, .bool m.yes, .slice a n c, .int .i64 (xo m.sn.ix), .int .i64 m.sn.tm, .slice a2 M c2, .string m.sn.d]) := Lib.hid (by rw [hw5]; exact Rw.stored HRA.out 9 _)
          have HB5 : Hid (Below w3.heap.size w3 w5) := Lib.hid (by rw [hw5]; exact Below.setCell HBA.out (by rw [HGX.out]; exact Nat.le_refl _) _)
          rw [← hw5]
          clear hw5 yv yf
          have HRM5 := Lib.hid (Rw.below HW.out.2 HB5.out)
          have HAT5 := Lib.hid (msgAt_mod (msgAt_below HAT.out (below_then HW.out.1 HB5.out)) 4)
          obtain ⟨C, hC⟩ : ∃ C, C = codW (modM 4 m) := ⟨_, rfl⟩
          have HCC := Lib.hid hC
          clear hC
          have HEK : Hid (Calls Try.prog 10 #[.agg #[.int .i64 m.kd, .int .i64 m.fr, .int .i64 m.to, .int .i64 m.tm, .int .i64 m.ix, .int .i64 m.lt, .int .i64 m.cm, .bool m.yes, .slice a n c, .int .i64 (xo m.sn.ix), .int .i64 m.sn.tm, .slice a2 M c2, .string m.sn.d]] w5 fun e w' => CodeOf w5 w' e C) := Lib.hid (by rw [HCC.out]; exact enc_code HAT5.out (small_mod HSM.out 4))
          go_wp2_with (first | (refine wpList_load_mid rfl 27 _ rfl gX 0 rfl [.int .i64 m.kd, .int .i64 m.fr, .int .i64 m.to, .int .i64 m.tm, .int .i64 m.ix, .int .i64 m.lt, .int .i64 m.cm, .bool m.yes, .slice a n c, .int .i64 (xo m.sn.ix), .int .i64 m.sn.tm, .slice a2 M c2, .string m.sn.d] _ (Rw.whole HR5.out) Try.underlying27 rfl Try.sizeMsg ?_) | fail)
          refine (HEK.out).mono ?_
          rintro e w6 ⟨a6, n6, c6, rfl, hb6⟩
          have HR6 := Lib.hid (Rw.below HR5.out hb6)
          have HB6 := Lib.hid (HB5.out.trans (Below.mono hb6 HB5.out.size))
          have HRK : Hid (Calls Try.prog 11 #[.agg #[.int .i64 m.kd, .int .i64 m.fr, .int .i64 m.to, .int .i64 m.tm, .int .i64 m.ix, .int .i64 m.lt, .int .i64 m.cm, .bool m.yes, .slice a n c, .int .i64 (xo m.sn.ix), .int .i64 m.sn.tm, .slice a2 M c2, .string m.sn.d]] w6 fun e w' => CodeOf w6 w' e C) := Lib.hid (by rw [HCC.out]; exact renc_code (msgAt_below HAT5.out hb6) (small_mod HSM.out 4))
          clear hb6 HEK
          go_wp2_with (first | (refine wpList_load_mid rfl 27 _ rfl gX 0 rfl [.int .i64 m.kd, .int .i64 m.fr, .int .i64 m.to, .int .i64 m.tm, .int .i64 m.ix, .int .i64 m.lt, .int .i64 m.cm, .bool m.yes, .slice a n c, .int .i64 (xo m.sn.ix), .int .i64 m.sn.tm, .slice a2 M c2, .string m.sn.d] _ (Rw.whole HR6.out) Try.underlying27 rfl Try.sizeMsg ?_) | fail)
          refine (HRK.out).mono ?_
          rintro e w7 ⟨a7, n7, c7, rfl, hb7⟩
          have HB7 := Lib.hid (HB6.out.trans (Below.mono hb7 HB6.out.size))
          have HW7 := Lib.hid (And.intro (below_then HW.out.1 HB7.out) (Rw.below HW.out.2 HB7.out))
          clear hb7 HRK
          rcases cod_two (modM 4 m) with ⟨hc, hq⟩ | ⟨hc, hq⟩
          · obtain rfl : C = 0 := by rw [HCC.out]; exact hc
            have HOD := Lib.hid (oddN_yes hq)
            clear hc hq
            go_wp2_with fail
            go_roundw
            case rel => exact ⟨5, o, by omega, rfl, rfl, Lib.hid (by rw [HOD.out]; exact HO.out), HW7⟩
            case measure => simp [intOf]
          · obtain rfl : C = 1 := by rw [HCC.out]; exact hc
            have HOD := Lib.hid (oddN_no hq)
            clear hc hq
            go_wp2_with fail
            go_roundw
            case rel => exact ⟨5, o + 1, by omega, rfl, by go_num, Lib.hid (by rw [HOD.out, HO.out]), HW7⟩
            case measure => simp [intOf]
        · have HO2 : Hid (2 ≤ (o : Int)) := Lib.hid (by have h1 := HTWO.out; have h2 := HO.out; omega)
          have ho2 := HO2.out
          have ho3 : decide (2 ≤ (o : Int)) = true := decide_eq_true ho2
          have ho4 : ¬ ((o : Int) < 2) := by omega
          have HAW := Lib.hid (mawake_any w3)
          clear HBA HRA
          go_wp2_with fail
          refine (HAW.out).mono ?_
          rintro e w8 ⟨rfl, hb8⟩
          have HB8 := Lib.hid (below_then HW.out.1 hb8)
          clear hb8
          go_wp2_with fail
          go_ret
          exact ⟨rfl, HB8.out⟩

theorem msgFields_own : ownKnob Try.prog.godebug = none := by kernel_rfl

set_option maxRecDepth 100000 in
theorem msgFields_lifted (os : Os) (started : os.Started) (H : Type) (enc : TypeId × Value → H) :
    ReturnsInHanded {} Try.checked os 7 .any (Rows.msgFieldsSpec.pre6 enc Try.prog Try.f7 Rows.msgFieldsRow.domain false) (Rows.msgFieldsSpec.post enc Try.prog Try.f7 false true false false) := by
  refine law_lifted (C := Try.checked) msgFields_own started (by kernel_rfl) Try.func7
    (ChangeSpec.witness6 (enc := enc) (C := Try.checked) false ⟨#[], #[.agg #[.int .i64 0, .int .i64 0, .int .i64 0, .int .i64 0, .int .i64 0, .int .i64 0, .int .i64 0, .bool false, .slice none 0 0, .int .i64 0, .int .i64 0, .slice none 0 0, .string ByteArray.empty]], []⟩ 8 (by kernel_rfl) (by kernel_rfl) (by kernel_rfl) (by kernel_rfl))
    (by kernel_rfl) (of_decide_eq_true (by kernel_rfl)) (tb := 4) (by kernel_rfl) Try.underlying4 rfl (fun ds h => by match ds, h with | [d0], _ => exact ⟨rfl, rfl, rfl⟩) ?_
  intro W base args ds p hval0 hA0 hlt hsz0
  have hval : ∀ (j : Nat) t v, Try.f7.params[j]? = some t → args[j]? = some v → Value.okWide Try.prog W .any base t v := hval0
  have hA : DataW.TrodAll enc Try.prog W 0 (fun _ => true) true Try.f7.params.toList args.toList ds p := hA0
  have hsz : (DataW.weightsEach Try.prog Try.f7.params.toList ds).all (· ≤ reachBytes) = true := hsz0
  rw [Try.params7] at hA hval hsz
  obtain ⟨v0, vs0, d0, ds0, p0, q0, hargs, rfl, rfl, h0, r0⟩ := trodAll_cons hA
  obtain ⟨rfl, rfl, rfl⟩ := trodAll_nil r0
  obtain rfl : args = #[v0] := by cases args; simp_all
  have s0 := sized_at hsz (j := 0) (t := 27) (d := d0) rfl rfl
  obtain ⟨m0_0, m0_1, m0_2, m0_3, m0_4, m0_5, m0_6, m0_7, m0_8, m0_9, m0_10, m0_11, m0_12, m0_13, t0⟩ := Try.msTys
  obtain ⟨e0_0, e0_1, e0_2, e0_3, e0_4, u0⟩ := Try.enTys
  obtain ⟨a0, b0, c0, rfl, g0⟩ := open_msg t0 u0 (hval 0 27 v0 rfl rfl) h0 s0
  exact msgFields_any (w := W) a0 b0 c0 g0

theorem msgFields_over : Rows.msgFieldsRow.holds Try.pinned (OpenSpec.ofChange Rows.msgFieldsSpec) :=
  OpenClaim.holds_of_wide 7 Try.f7 rfl rfl rfl rfl rfl rfl rfl ⟨rfl, rfl, rfl, rfl, rfl⟩ rfl rfl rfl rfl rfl (by kernel_rfl) Try.func7 (by kernel_rfl)
    (of_decide_eq_true (by kernel_rfl)) (by unfold Func.isWrapper; first | (rw [if_pos (by decide +kernel)]; kernel_rfl) | (rw [if_neg (by decide +kernel)]; exact ⟨rfl, rfl⟩))
    (fun os started H enc _ => msgFields_lifted os started H enc)

theorem msgFields_proved : Rows.MsgFieldsSaid := msgFields_over
#print axioms msgFields_proved

end Go.Proofs.Ythpljpbiamjmaaa
