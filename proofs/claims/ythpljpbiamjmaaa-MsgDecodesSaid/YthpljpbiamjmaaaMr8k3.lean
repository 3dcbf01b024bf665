/- Contracts: the reference: Encode: a message of Kind 3 that has no field too many. -/
import Derived.BigRegion
import Derived.Deep.RegionHeld3
import Derived.Deep.RegionLaw
import Derived.Deep.CutBlock
import Derived.Deep.RegionWith
import Derived.Deep.AppendLies
import Derived.Test.YthpljpbiamjmaaaProg
import Derived.Test.YthpljpbiamjmaaaKit
import Derived.Test.YthpljpbiamjmaaaInfo
import Derived.Test.YthpljpbiamjmaaaRow
import Derived.Test.YthpljpbiamjmaaaSha
import Derived.Test.YthpljpbiamjmaaaRow2
import Derived.Test.YthpljpbiamjmaaaCod7
import Derived.Test.YthpljpbiamjmaaaFrm0
import Derived.Test.YthpljpbiamjmaaaFrm4
import Derived.Test.YthpljpbiamjmaaaKp0
import Derived.Test.YthpljpbiamjmaaaKp2
import Derived.Test.YthpljpbiamjmaaaMg0
import Derived.Test.YthpljpbiamjmaaaMg2
import Derived.Test.YthpljpbiamjmaaaMg5
import Derived.Test.YthpljpbiamjmaaaMg8
import Derived.Test.YthpljpbiamjmaaaMr1
import Derived.Test.YthpljpbiamjmaaaMr2
import Derived.Test.YthpljpbiamjmaaaMr3
import Derived.Test.YthpljpbiamjmaaaMr4
import Derived.Test.YthpljpbiamjmaaaMr5
import Derived.Test.YthpljpbiamjmaaaMr6e
import Derived.Test.YthpljpbiamjmaaaMr8
import Derived.Test.YthpljpbiamjmaaaMr8c
namespace Go.Proofs.Ythpljpbiamjmaaa
open Go.RowKit Go.Proofs

set_option maxRecDepth 100000 in
set_option maxHeartbeats 16000000 in
theorem renc_k3 {w : World} {m : MsgM} {ev mv : Value} (h : MsgAt w ev mv m) (hs : smallM m) (hkd : m.kd = 3) (hq : badR m.kd m.fr m.to m.tm m.ix m.lt m.cm m.es.length m.sn.ms.length m.sn.d.size m.sn.ix m.sn.tm = false) (hrb : emptyB (unlM m) = true) :
    Calls Try.prog 11 #[msgV m ev mv] w fun e w' => EncV w w' e m := by
  obtain ⟨gM, hgM⟩ : ∃ gM, gM = w.heap.size := ⟨_, rfl⟩
  have hsp := okMB_split m.kd m.fr m.to m.tm m.ix m.lt m.cm m.yes m.es m.sn.ix m.sn.tm m.sn.ms m.sn.d
  have HKK : Hid (1 ≤ m.kd ∧ m.kd ≤ 5) := Lib.hid (by omega)
  obtain ⟨he, hel, hm⟩ := id h
  obtain ⟨a, c, rfl, _⟩ := id he
  obtain ⟨a2, c2, rfl⟩ := intsAt_len hm
  obtain ⟨mm, hmm⟩ : ∃ mm : MsgM, mm = m := ⟨_, rfl⟩
  have HSN : Hid (∀ r, SameR r (onlyM mm) mm → r = true) := Lib.hid (fun r hr => by rw [hmm] at hr; rw [onlyM_same HKK.out hr]; exact hrb)
  have HON := Lib.hid (fun W => only_any (w := W) mm (a := a) (c := c) (a2 := a2) (c2 := c2) (by rw [hmm]; exact HKK.out))
  have HMA : Hid (∀ W, Below w.heap.size w W → MsgAt W (.slice a mm.es.length c) (.slice a2 mm.sn.ms.length c2) mm) := Lib.hid (fun W hb => by rw [hmm]; exact msgAt_below h hb)
  have HSM : Hid (smallM mm) := Lib.hid (by rw [hmm]; exact hs)
  have HSP : Hid (okMB mm = (mm.es.all entB && natsB mm.sn.ms)) := Lib.hid (by rw [hmm, show okMB m = _ from hsp, hq, hrb]; rfl)
  have HZ2 : Hid (mm.sn.ms.length = 0) := Lib.hid (by rw [hmm]; exact unl_ms hrb (by omega))
  have HYE : Hid (mm.yes = false) := Lib.hid (by rw [hmm]; have h4 := (emptyB_parts hrb).2.2.2.1; unfold unlM at h4; simpa [hkd] using h4)
  obtain ⟨q0, q1, q2, q3, q4, q5, q6, q7, q8, q9, q10, q11, q12, q13, q14⟩ := badR_parts hq
  obtain ⟨kd, fr, tq, tm, ix, lt, cm, yes, es, ⟨si, st, ms, sd⟩⟩ := m
  have HV : Hid (∀ ev mv, msgV mm ev mv = .agg #[.int .i64 kd, .int .i64 fr, .int .i64 tq, .int .i64 tm, .int .i64 ix, .int .i64 lt, .int .i64 cm, .bool yes, ev, .int .i64 si, .int .i64 st, mv, .string sd]) := Lib.hid (fun _ _ => by rw [hmm]; rfl)
  have HMF : Hid (mm = ⟨kd, fr, tq, tm, ix, lt, cm, yes, es, ⟨si, st, ms, sd⟩⟩) := Lib.hid hmm
  rw [← hmm, HV.out]
  have hls : mm.es.length = es.length ∧ mm.sn.ms.length = ms.length := by rw [hmm]; exact ⟨rfl, rfl⟩
  dsimp only at he hel hm hkd q0 q1 q2 q3 q4 q5 q6 q7 q8 q9 q10 q11 q12 q13 q14 ⊢
  rw [hls.1, hls.2] at HMA HON ⊢
  obtain ⟨n, hn⟩ : ∃ n, n = es.length := ⟨_, rfl⟩
  rw [← hn] at HMA HON q10 ⊢
  obtain ⟨M, hM⟩ : ∃ M, M = ms.length := ⟨_, rfl⟩
  rw [← hM] at HMA HON q11 ⊢
  have HLS : Hid (mm.es.length = n ∧ mm.sn.ms.length = M) := Lib.hid ⟨by rw [hls.1]; exact hn.symm, by rw [hls.2]; exact hM.symm⟩
  have HHE := Lib.hid he
  have HHM := Lib.hid hm
  have HHS := Lib.hid hs
  rw [← hn] at HHE
  have HN := Lib.hid hn
  have HN8 : Hid (n ≤ 8) := Lib.hid (by have := of_decide_eq_false q10; omega)
  rw [← hM] at HHM
  have HM := Lib.hid hM
  have HM9 : Hid (M ≤ 9) := Lib.hid (by have := of_decide_eq_false q11; omega)
  have HD6 : Hid (sd.size ≤ 65536) := Lib.hid (by have := of_decide_eq_false q12; omega)
  have HPS : Hid ((1 ≤ fr ∧ fr ≤ 9) ∧ (1 ≤ tq ∧ tq ≤ 9) ∧ 0 ≤ tm ∧ 0 ≤ ix ∧ 0 ≤ lt ∧ 0 ≤ cm ∧ 0 ≤ si ∧ 0 ≤ st) := Lib.hid (by
    have z2 := of_decide_eq_false q2
    have z3 := of_decide_eq_false q3
    have z4 := of_decide_eq_false q4
    have z5 := of_decide_eq_false q5
    have z6 := of_decide_eq_false q6
    have z7 := of_decide_eq_false q7
    have z8 := of_decide_eq_false q8
    have z9 := of_decide_eq_false q9
    have z13 := of_decide_eq_false q13
    have z14 := of_decide_eq_false q14
    omega)
  have HBX := Lib.hid (below_more (Below.refl _ w) (.cells #[.int .i64 kd, .int .i64 fr, .int .i64 tq, .int .i64 tm, .int .i64 ix, .int .i64 lt, .int .i64 cm, .bool yes, .slice a n c, .int .i64 si, .int .i64 st, .slice a2 M c2, .string sd] 27))
  have HRX : Hid (Rw (w.alloc (.cells #[.int .i64 kd, .int .i64 fr, .int .i64 tq, .int .i64 tm, .int .i64 ix, .int .i64 lt, .int .i64 cm, .bool yes, .slice a n c, .int .i64 si, .int .i64 st, .slice a2 M c2, .string sd] 27)) 0 gM 27 [.int .i64 kd, .int .i64 fr, .int .i64 tq, .int .i64 tm, .int .i64 ix, .int .i64 lt, .int .i64 cm, .bool yes, .slice a n c, .int .i64 si, .int .i64 st, .slice a2 M c2, .string sd]) := Lib.hid (by rw [hgM]; exact Rw.alloc w _ _ (Nat.zero_le _))
  have HGM := Lib.hid hgM
  have HKD := Lib.hid hkd
  clear h he hel hm hs hkd hrb hmm hls hsp hq hgM HKK
  clear hn
  clear hM
  go_enter Try.func11, Try.ntmps11
  go_upto_region 2 with fail
  clear q0 q1 q2 q3 q4 q5 q6 q7 q8 q9 q10 q11 q12 q13 q14
  rw [← HGM.out]
  obtain ⟨w0, hw0⟩ : ∃ w0, w0 = w.alloc (.cells #[.int .i64 kd, .int .i64 fr, .int .i64 tq, .int .i64 tm, .int .i64 ix, .int .i64 lt, .int .i64 cm, .bool yes, .slice a n c, .int .i64 si, .int .i64 st, .slice a2 M c2, .string sd] 27) := ⟨_, rfl⟩
  rw [← hw0] at HBX HRX ⊢
  clear hw0
  go_cut [98] from 11 (fun c98 wx => c98 = .bool false ∧ Hid (Below w.heap.size w wx ∧ Rw wx 0 gM 27 [.int .i64 kd, .int .i64 fr, .int .i64 tq, .int .i64 tm, .int .i64 ix, .int .i64 lt, .int .i64 cm, .bool yes, .slice a n c, .int .i64 si, .int .i64 st, .slice a2 M c2, .string sd]))
  case first =>
    as_aux_lemma =>
      have x0 := Rw.cell HRX.out (j := 0) (v := (.int .i64 kd)) rfl
      have x1 := Rw.cell HRX.out (j := 1) (v := (.int .i64 fr)) rfl
      have x2 := Rw.cell HRX.out (j := 2) (v := (.int .i64 tq)) rfl
      have x3 := Rw.cell HRX.out (j := 3) (v := (.int .i64 tm)) rfl
      have x4 := Rw.cell HRX.out (j := 4) (v := (.int .i64 ix)) rfl
      have x5 := Rw.cell HRX.out (j := 5) (v := (.int .i64 lt)) rfl
      have x6 := Rw.cell HRX.out (j := 6) (v := (.int .i64 cm)) rfl
      have x7 := Rw.cell HRX.out (j := 7) (v := (.bool yes)) rfl
      have x8 := Rw.cell HRX.out (j := 8) (v := (.slice a n c)) rfl
      have x9 := Rw.cell HRX.out (j := 9) (v := (.int .i64 si)) rfl
      have x10 := Rw.cell HRX.out (j := 10) (v := (.int .i64 st)) rfl
      have x11 := Rw.cell HRX.out (j := 11) (v := (.slice a2 M c2)) rfl
      have x12 := Rw.cell HRX.out (j := 12) (v := (.string sd)) rfl
      have HRD := Lib.hid (rw_drew HRX.out)
      have HBD : Hid (Below w.heap.size w w0.drew) := Lib.hid (below_draws HBX.out ⟨1, rfl⟩)
      have HO := HON.out w0.drew
      rw [HV.out] at HO
      have HO2 := Lib.hid HO
      clear HO HON
      go_region_law
        (first
          | (go_simp; go_at_call 19; refine (HO2.out).mono ?_; rintro e w1 ⟨⟨ev', mv', rfl, hmv⟩, hb1⟩; have HMV := Lib.hid (hmv w1 (HMA.out w1 (below_then HBD.out hb1))); have HMW := Lib.hid (HMA.out w1 (below_then HBD.out hb1)); have HB1 := Lib.hid (below_then HBD.out hb1); have HR1 := Lib.hid (Rw.below HRD.out hb1); have y0 := Rw.cell HR1.out (j := 0) (v := (.int .i64 kd)) rfl; have y1 := Rw.cell HR1.out (j := 1) (v := (.int .i64 fr)) rfl; have y2 := Rw.cell HR1.out (j := 2) (v := (.int .i64 tq)) rfl; have y3 := Rw.cell HR1.out (j := 3) (v := (.int .i64 tm)) rfl; have y4 := Rw.cell HR1.out (j := 4) (v := (.int .i64 ix)) rfl; have y5 := Rw.cell HR1.out (j := 5) (v := (.int .i64 lt)) rfl; have y6 := Rw.cell HR1.out (j := 6) (v := (.int .i64 cm)) rfl; have y7 := Rw.cell HR1.out (j := 7) (v := (.bool yes)) rfl; have y8 := Rw.cell HR1.out (j := 8) (v := (.slice a n c)) rfl; have y9 := Rw.cell HR1.out (j := 9) (v := (.int .i64 si)) rfl; have y10 := Rw.cell HR1.out (j := 10) (v := (.int .i64 st)) rfl; have y11 := Rw.cell HR1.out (j := 11) (v := (.slice a2 M c2)) rfl; have y12 := Rw.cell HR1.out (j := 12) (v := (.string sd)) rfl; clear hmv hb1)
          | (go_simp; go_at_call 15; have HSS := sameMsg_any (onlyM mm) mm (onlyM_four mm) HMV.out HMW.out; rw [HV.out] at HSS; refine (HSS).mono ?_; rintro e w2 ⟨⟨r, rfl, hr⟩, hb2⟩; obtain rfl := HSN.out r hr; have HB2 := Lib.hid (below_then HB1.out hb2); have HR2 := Lib.hid (Rw.below HR1.out hb2); clear hr hb2 HSS))
      all_goals
        go_wp2_with fail
        go_meet
        exact ⟨rfl, Lib.hid ⟨HB2.out, HR2.out⟩⟩
  case rest =>
    obtain ⟨rfl, HZ⟩ := hcut
    generalize wc = w2 at *
    clear HBX HRX HSN HON
    obtain rfl : kd = 3 := HKD.out
    obtain rfl : M = 0 := by rw [← HLS.out.2]; exact HZ2.out
    obtain rfl : yes = false := by have h1 := HYE.out; rw [HMF.out] at h1; exact h1
    obtain ⟨F, rfl⟩ := Int.eq_ofNat_of_zero_le (show 0 ≤ fr by have := HPS.out; omega)
    obtain ⟨T, rfl⟩ := Int.eq_ofNat_of_zero_le (show 0 ≤ tq by have := HPS.out; omega)
    obtain ⟨Q, rfl⟩ := Int.eq_ofNat_of_zero_le (show 0 ≤ tm by have := HPS.out; omega)
    have HSI : Hid (smallM ⟨3, F, T, Q, ix, lt, cm, false, es, ⟨si, st, ms, sd⟩⟩) := Lib.hid (by rw [← HMF.out]; exact HSM.out)
    have huF := u64_nat F (by have := HPS.out; omega)
    have huT := u64_nat T (by have := HPS.out; omega)
    have huQ := u64_nat Q (by have := HSI.out.1 (Q : Int) (by simp); omega)
    have HQS : Hid (F < 9223372036854775808 ∧ T < 9223372036854775808 ∧ Q < 9223372036854775808) := Lib.hid ⟨by have := HPS.out; omega, by have := HPS.out; omega, by have := HSI.out.1 (Q : Int) (by simp); omega⟩
    have HNM : Hid (ms = []) := Lib.hid (List.eq_nil_of_length_eq_zero HM.out.symm)
    have hz := zero_cells Try.infoEntz
    obtain ⟨IX, rfl⟩ := Int.eq_ofNat_of_zero_le (show 0 ≤ ix by have := HPS.out; omega)
    have HSIX : Hid (IX < 9223372036854775808) := Lib.hid (by have h1 := HMF.out; have h2 := HSM.out; rw [h1] at h2; have := h2.1 _ (show (IX : Int) ∈ _ by simp); omega)
    have huIX := u64_nat IX HSIX.out
    obtain ⟨LT, rfl⟩ := Int.eq_ofNat_of_zero_le (show 0 ≤ lt by have := HPS.out; omega)
    have HSLT : Hid (LT < 9223372036854775808) := Lib.hid (by have h1 := HMF.out; have h2 := HSM.out; rw [h1] at h2; have := h2.1 _ (show (LT : Int) ∈ _ by simp); omega)
    have huLT := u64_nat LT HSLT.out
    obtain ⟨CM, rfl⟩ := Int.eq_ofNat_of_zero_le (show 0 ≤ cm by have := HPS.out; omega)
    have HSCM : Hid (CM < 9223372036854775808) := Lib.hid (by have h1 := HMF.out; have h2 := HSM.out; rw [h1] at h2; have := h2.1 _ (show (CM : Int) ∈ _ by simp); omega)
    have huCM := u64_nat CM HSCM.out
    have x0 := Rw.cell HZ.out.2 (j := 0) (v := (.int .i64 3)) rfl
    have x8 := Rw.cell HZ.out.2 (j := 8) (v := (.slice a n c)) rfl
    go_wp2_with fail
    clear x0 x8
    go_loopw [5] (fun iv wr => ∃ i : Nat, i ≤ n ∧ iv = .int .i64 i ∧ Hid ((es.take i).all entB = true) ∧ Hid (Below w.heap.size w wr ∧ Rw wr 0 gM 27 [.int .i64 3, .int .i64 F, .int .i64 T, .int .i64 Q, .int .i64 IX, .int .i64 LT, .int .i64 CM, .bool false, .slice a n c, .int .i64 si, .int .i64 st, .slice a2 0 c2, .string sd])) (fun iv _ => n - (intOf iv).toNat)
    case atStart => exact ⟨0, Nat.zero_le _, rfl, Lib.hid rfl, HZ⟩
    case round =>
      obtain ⟨i, hi', rfl, HT, HW⟩ := hrel
      obtain ⟨w1, hw1⟩ : ∃ w1 : World, w1 = wr := ⟨_, rfl⟩
      subst hw1
      have x8 := Rw.cell HW.out.2 (j := 8) (v := (.slice a n c)) rfl
      by_cases hlt : i < n
      · as_aux_lemma =>
          obtain ⟨x, hx⟩ : ∃ x, es[i]? = some x := ⟨_, List.getElem?_eq_getElem (by rw [← HN.out]; exact hlt)⟩
          obtain ⟨b, o, u, rfl, hr, hu⟩ := ents_cell (entsAt_below HHE.out HW.out.1) hx
          obtain ⟨ua, uc, rfl⟩ := intsAt_len hu
          have HOE := Lib.hid (odd_any x hu)
          have HX := Lib.hid hx
          obtain ⟨eb, heb⟩ : ∃ eb, eb = entB x := ⟨_, rfl⟩
          rw [← heb] at HOE
          have HEB := Lib.hid heb
          obtain ⟨xi, xt, xk, xd, xm⟩ := x
          dsimp only at hr hu HOE
          obtain ⟨MM, hM⟩ : ∃ MM, MM = xm.length := ⟨_, rfl⟩
          have d0 : w1.cell? ⟨b, o + i * 5, none⟩ = some (.int .i64 xi) := hr 0 _ rfl
          have d1 : w1.cell? ⟨b, o + i * 5 + 1, none⟩ = some (.int .i64 xt) := hr 1 _ rfl
          have d2 : w1.cell? ⟨b, o + i * 5 + 2, none⟩ = some (.int .i64 xk) := hr 2 _ rfl
          have d3 : w1.cell? ⟨b, o + i * 5 + 3, none⟩ = some (.string xd) := hr 3 _ rfl
          have d4 : w1.cell? ⟨b, o + i * 5 + 4, none⟩ = some (.slice ua MM uc) := by rw [hM]; exact hr 4 _ rfl
          rw [← hM] at HOE
          have hy : (i : Int) < (n : Int) := by omega
          have hi1 : (i : Int) < 9 := by have := HN8.out; omega
          have HI := Lib.hid hlt
          clear hr hu hx hlt hi' hM heb
          go_wp2_with fail
          refine (HOE.out).mono ?_
          rintro e w3 ⟨rfl, hb3⟩
          have HW3 := Lib.hid (And.intro (below_then HW.out.1 hb3) (Rw.below HW.out.2 hb3))
          clear hb3 d0 d1 d2 d3 d4 x8
          cases eb with
          | false =>
            have HNO := Lib.hid (encV_no (m := mm) (by rw [HSP.out, HMF.out]; dsimp only; rw [all_ent_not HX.out HEB.out.symm]; rfl) HW3.out.1)
            go_wp2_with fail
            go_ret2
            exact HNO.out
          | true =>
            have HG := Lib.hid (entB_take HX.out HT.out HEB.out.symm)
            go_wp2_with fail
            go_roundw
            case rel => exact ⟨i + 1, HI.out, by go_num, HG, HW3⟩
            case measure => have := HI.out; simp [intOf]; omega
      · have hyk : ¬ (i : Int) < (n : Int) := by omega
        have HALL : Hid (es.all entB = true) := Lib.hid (by
          have h1 := HT.out
          rw [List.take_of_length_le (by rw [← HN.out]; omega)] at h1
          exact h1)
        clear hlt hi' HT HZ
        have x0 := Rw.cell HW.out.2 (j := 0) (v := (.int .i64 3)) rfl
        have x11 := Rw.cell HW.out.2 (j := 11) (v := (.slice a2 0 c2)) rfl
        go_wp2_with fail
        refine wp_loop_once ?_
        go_upto_region 15 with fail
        clear hyk

        obtain ⟨w3, hw3⟩ : ∃ w3, w3 = w1.alloc (.cells #[.int .u8 3] 5) := ⟨_, rfl⟩
        have ST3 : Hid (EnSt w w3 gM [.int .i64 3, .int .i64 F, .int .i64 T, .int .i64 Q, .int .i64 IX, .int .i64 LT, .int .i64 CM, .bool false, .slice a n c, .int .i64 si, .int .i64 st, .slice a2 0 c2, .string sd] (.slice (some ⟨w1.heap.size, 0, none⟩) 1 1) [3]) := Lib.hid (by rw [hw3]; exact enSt_new HW.out.1 HW.out.2 (3 : UInt8))
        rw [← hw3]
        clear hw3 x0 x8 x11
        have y := Rw.cell ST3.out.2.1 (j := 1) (v := (.int .i64 F)) rfl
        have HC := Lib.hid (rlay_at ST3.out F HQS.out.1 (by simp))
        go_wp2_with fail
        refine (HC.out).mono ?_
        rintro e w4 ⟨a4, n4, c4, rfl, hn4, h4⟩
        have ST4 := Lib.hid h4
        have HN4 := Lib.hid hn4
        clear y HC h4 hn4
        have y := Rw.cell ST4.out.2.1 (j := 2) (v := (.int .i64 T)) rfl
        have HC := Lib.hid (rlay_at ST4.out T HQS.out.2.1 (by simp [layS_len]))
        go_wp2_with fail
        refine (HC.out).mono ?_
        rintro e w5 ⟨a5, n5, c5, rfl, hn5, h5⟩
        have ST5 := Lib.hid h5
        have HN5 := Lib.hid hn5
        clear y HC h5 hn5
        have y := Rw.cell ST5.out.2.1 (j := 3) (v := (.int .i64 Q)) rfl
        have HC := Lib.hid (rlay_at ST5.out Q HQS.out.2.2 (by simp [layS_len]))
        go_wp2_with fail
        refine (HC.out).mono ?_
        rintro e w6 ⟨a6, n6, c6, rfl, hn6, h6⟩
        have ST6 := Lib.hid h6
        have HN6 := Lib.hid hn6
        clear y HC h6 hn6
        have y0 := Rw.cell ST6.out.2.1 (j := 0) (v := (.int .i64 3)) rfl
        have y7 := Rw.cell ST6.out.2.1 (j := 7) (v := (.bool false)) rfl
        go_upto_region 27 with fail
        go_cut [7] from 9 (fun c7 wx => ∃ a8 n8 c8, c7 = .slice a8 n8 c8 ∧ Hid (n8 = (([3] ++ layS 8 F ++ layS 8 T ++ layS 8 Q) ++ layS 8 IX ++ layS 8 LT).length ∧ EnSt w wx gM [.int .i64 3, .int .i64 F, .int .i64 T, .int .i64 Q, .int .i64 IX, .int .i64 LT, .int .i64 CM, .bool false, .slice a n c, .int .i64 si, .int .i64 st, .slice a2 0 c2, .string sd] (.slice a8 n8 c8) (([3] ++ layS 8 F ++ layS 8 T ++ layS 8 Q) ++ layS 8 IX ++ layS 8 LT)))
        case first =>
          as_aux_lemma =>
            have y := Rw.cell ST6.out.2.1 (j := 4) (v := (.int .i64 IX)) rfl
            have y' := Rw.cell ST6.out.2.1 (j := 5) (v := (.int .i64 LT)) rfl
            have HC := Lib.hid (rlay_at (enSt_drew ST6.out) IX HSIX.out (by simp [layS_len]))
            go_region_law
              (first
                | (go_simp; go_at_call 21; ((with_reducible refine (HC.out).mono ?_); rintro e w7 ⟨a7, n7, c7, rfl, hn7, h7⟩); have ST7 := Lib.hid h7; have HN7 := Lib.hid hn7; have y2 := Rw.cell ST7.out.2.1 (j := 5) (v := (.int .i64 LT)) rfl; have HD := Lib.hid (rlay_at ST7.out LT HSLT.out (by simp [layS_len])); clear h7 hn7)
                | (go_simp; go_at_call 21; ((with_reducible refine (HD.out).mono ?_); rintro e w8 ⟨a8, n8, c8, rfl, hn8, h8⟩); have ST8 := Lib.hid h8; have HN8q := Lib.hid hn8; clear h8 hn8))

            all_goals
              go_wp2_with fail
              go_meet
              exact ⟨_, _, _, rfl, Lib.hid ⟨HN8q.out, ST8.out⟩⟩
        case rest =>
          obtain ⟨a8, n8, c8, rfl, H8⟩ := hcut
          generalize wc = w8 at *
          clear HW y0 y7
          have z6 := Rw.cell H8.out.2.2.1 (j := 6) (v := (.int .i64 CM)) rfl
          have z8 := Rw.cell H8.out.2.2.1 (j := 8) (v := (.slice a n c)) rfl
          have hn8 : (n : Int) < 256 := by have := HN8.out; omega
          have hn80 : 0 ≤ (n : Int) := by omega
          have HC := Lib.hid (rlay_at (enSt_drew H8.out.2) CM HSCM.out (by simp [layS_len]))
          have HCB := Lib.hid (rlay_atC (enSt_drew (enSt_more H8.out.2 (.cells #[.int .u8 (IntKind.u8.wrap (n : Int))] 5))) (cell_new w8 (.int .u8 (IntKind.u8.wrap (n : Int))) 5) (own_ne_new H8.out.2) (by simp) CM HSCM.out (by simp [layS_len]))
          have z6B := Rw.cell (enSt_more H8.out.2 (.cells #[.int .u8 (IntKind.u8.wrap (n : Int))] 5)).2.1 (j := 6) (v := (.int .i64 CM)) rfl
          have HL9 : Hid ((([3] ++ layS 8 F ++ layS 8 T ++ layS 8 Q) ++ layS 8 IX ++ layS 8 LT ++ layS 8 CM).length ≤ 500000000) := Lib.hid (by simp [layS_len])
          have HU8 : Hid (Value.int .u8 (IntKind.u8.wrap (n : Int)) = byteV (UInt8.ofNat n)) := Lib.hid (lay1_byte n)
          obtain ⟨i0, hi0, hz0, hz1, hz2⟩ := info_parts Try.infoByte
          go_upto_region 28 with fail
          go_cut [7] from 9 (fun c7 wx => ∃ a9 n9 c9, c7 = .slice a9 n9 c9 ∧ Hid (n9 = ((([3] ++ layS 8 F ++ layS 8 T ++ layS 8 Q) ++ layS 8 IX ++ layS 8 LT ++ layS 8 CM ++ [UInt8.ofNat n])).length ∧ EnSt w wx gM [.int .i64 3, .int .i64 F, .int .i64 T, .int .i64 Q, .int .i64 IX, .int .i64 LT, .int .i64 CM, .bool false, .slice a n c, .int .i64 si, .int .i64 st, .slice a2 0 c2, .string sd] (.slice a9 n9 c9) ((([3] ++ layS 8 F ++ layS 8 T ++ layS 8 Q) ++ layS 8 IX ++ layS 8 LT ++ layS 8 CM ++ [UInt8.ofNat n]))))
          case first =>
            as_aux_lemma =>
              go_region_law
                (first
                  | (go_simp; go_at_call 21; ((with_reducible refine (HC.out).mono ?_); rintro e w9 ⟨a9, n9, c9, rfl, hn9, h9⟩); have ST9 := Lib.hid h9; have HN9 := Lib.hid hn9; have y8 := Rw.cell ST9.out.2.1 (j := 8) (v := (.slice a n c)) rfl; have HO9 := Lib.hid (own_of_st h9 hn9); have HM1 := Lib.hid (mx_one hn9 HL9.out); have HB1 := Lib.hid (bt_one hn9 HL9.out); clear h9 hn9)
                  | (go_simp; go_at_call 21; ((with_reducible refine (HCB.out).mono ?_); rintro e w9 ⟨a9, n9, c9, rfl, hn9, h9, hq9⟩); have ST9 := Lib.hid h9; have HN9 := Lib.hid hn9; have HO9 := Lib.hid (own_of_st h9 hn9); have HM1 := Lib.hid (mx_one hn9 HL9.out); have HB1 := Lib.hid (bt_one hn9 HL9.out); have HQ9 := Lib.hid (news_one hq9); clear h9 hn9 hq9)
                  | (refine step_append_lies _ rfl _ _ 30 rfl 0 5 i0 (.int .u8 0) 1 1 Try.underlying30 hi0 hz0 hz1 hz2 rfl (by decide) (.slice a9 n9 c9) n9 _ rfl (HO9.out.alloc _) ⟨w9.heap.size, 0, none⟩ 1 1 [_] rfl rfl (World.news_of_block (heap_alloc_new w9 _)) (num_one _ _) (by decide) HM1.out HB1.out (Nat.zero_le _) (w9.heap.size + 1) (by simp) ?_; intro gg cap w10 hown hgrow hat hlt; have HFA := Lib.hid (hfa_of (len_snoc HN9.out (UInt8.ofNat n)) (enSt_addX ST9.out (below_more (Below.refl _ _) _) hgrow hown HU8.out HN9.out (en_hat hat (Nat.le_succ _)))); clear hown hgrow hat hlt)
                  | (refine step_append_lies _ rfl _ _ 30 rfl 0 5 i0 (.int .u8 0) 1 1 Try.underlying30 hi0 hz0 hz1 hz2 rfl (by decide) (.slice a9 n9 c9) n9 _ rfl HO9.out ⟨w8.heap.size, 0, none⟩ 1 1 [_] rfl rfl HQ9.out (num_one _ _) (by decide) HM1.out HB1.out (Nat.zero_le _) w9.heap.size rfl ?_; intro gg cap w10 hown hgrow hat hlt; have HFA := Lib.hid (hfa_of (len_snoc HN9.out (UInt8.ofNat n)) (enSt_addX ST9.out (Below.refl _ _) hgrow hown HU8.out HN9.out (en_hat hat (Nat.le_refl _)))); clear hown hgrow hat hlt))
              all_goals
                clear z6 z8 hn8 hn80 z6B
                go_wp2_with fail
                go_meet
                exact HFA.out
          case rest =>
            obtain ⟨a9, n9, c9, rfl, H9⟩ := hcut
            generalize wc = w9 at *
            clear z6 z8 hn8 hn80 z6B HC HCB i0 hi0 hz0 hz1 hz2
            go_wp2_with fail
            go_loopw [7, 9] (fun bv iv wr => ∃ (i X : Nat) (va : Option Addr) (vc : Nat), i ≤ n ∧ iv = .int .i64 i ∧ bv = .slice va X vc ∧ Hid (EnSt w wr gM [.int .i64 3, .int .i64 F, .int .i64 T, .int .i64 Q, .int .i64 IX, .int .i64 LT, .int .i64 CM, .bool false, .slice a n c, .int .i64 si, .int .i64 st, .slice a2 0 c2, .string sd] (.slice va X vc) ((([3] ++ layS 8 F ++ layS 8 T ++ layS 8 Q) ++ layS 8 IX ++ layS 8 LT ++ layS 8 CM ++ [UInt8.ofNat n]) ++ entsW (es.take i)))) (fun _ iv _ => n - (intOf iv).toNat)
            case atStart => exact ⟨0, _, _, _, Nat.zero_le _, rfl, rfl, Lib.hid (by have h1 := H9.out.2; simpa [entsW] using h1)⟩
            case round =>
              clear H9
              obtain ⟨i, X, va, vc, hi', rfl, rfl, HS⟩ := hrel
              obtain ⟨wL, hwL⟩ : ∃ wL : World, wL = wr := ⟨_, rfl⟩
              subst hwL
              have x8 := Rw.cell HS.out.2.1 (j := 8) (v := (.slice a n c)) rfl
              by_cases hlt : i < n
              · as_aux_lemma =>
                  obtain ⟨x, hx⟩ : ∃ x, es[i]? = some x := ⟨_, List.getElem?_eq_getElem (by rw [← HN.out]; exact hlt)⟩
                  obtain ⟨b, o, u, rfl, hr0, hu⟩ := ents_cell HHE.out hx
                  have hr := rangeAt_below hr0 HS.out.1
                  obtain ⟨ua, uc, rfl⟩ := intsAt_len hu
                  have hxb : entB x = true := List.all_eq_true.1 HALL.out x (List.mem_of_getElem? hx)
                  have hxs : smallE x := by have h2 := HSM.out; rw [HMF.out] at h2; exact h2.2.1 x (List.mem_of_getElem? hx)
                  obtain ⟨⟨p1, p2, p3⟩, p4, p5, p6⟩ := entB_parts hxb
                  have HTK := Lib.hid (show entsW (es.take (i + 1)) = entsW (es.take i) ++ entW x by rw [take_succ_of hx, entsW_snoc])
                  have HLE : Hid ((entsW (es.take i)).length ≤ 200000) := Lib.hid (by
                    have h1 := entsW_len (es.take i) (fun e he => List.all_eq_true.1 HALL.out e (List.mem_of_mem_take he))
                    rw [List.length_take] at h1
                    have := HN8.out
                    omega)
                  obtain ⟨xi, xt, xk, xd, xm⟩ := x
                  dsimp only at hr hu hxs p1 p2 p3 p4 p5 p6
                  obtain ⟨XI, rfl⟩ := Int.eq_ofNat_of_zero_le p1
                  obtain ⟨XT, rfl⟩ := Int.eq_ofNat_of_zero_le p2
                  obtain ⟨XK, rfl⟩ := Int.eq_ofNat_of_zero_le p3
                  have k1 : XI < 9223372036854775808 := by have := hxs.1 (XI : Int) (by simp); omega
                  have k2 : XT < 9223372036854775808 := by have := hxs.1 (XT : Int) (by simp); omega
                  have k3 : XK < 9223372036854775808 := by have := hxs.1 (XK : Int) (by simp); omega
                  have HKS := Lib.hid (And.intro k1 (And.intro k2 k3))
                  have huI := u64_nat XI k1
                  have huX := u64_nat XT k2
                  have huK := u64_nat XK k3
                  obtain ⟨MM, hM⟩ : ∃ MM, MM = xm.length := ⟨_, rfl⟩
                  have d0 : wL.cell? ⟨b, o + i * 5, none⟩ = some (.int .i64 XI) := hr 0 _ rfl
                  have d1 : wL.cell? ⟨b, o + i * 5 + 1, none⟩ = some (.int .i64 XT) := hr 1 _ rfl
                  have d2 : wL.cell? ⟨b, o + i * 5 + 2, none⟩ = some (.int .i64 XK) := hr 2 _ rfl
                  have d3 : wL.cell? ⟨b, o + i * 5 + 3, none⟩ = some (.string xd) := hr 3 _ rfl
                  have d4 : wL.cell? ⟨b, o + i * 5 + 4, none⟩ = some (.slice ua MM uc) := by rw [hM]; exact hr 4 _ rfl
                  have hy : (i : Int) < (n : Int) := by omega
                  have hi1 : (i : Int) < 9 := by have := HN8.out; omega
                  have HI := Lib.hid hlt
                  have HP := Lib.hid (And.intro p4 (And.intro p5 (And.intro p6 hxs.2)))
                  have HUE : Hid (IntsAt w (.slice ua MM uc) xm) := Lib.hid (by rw [hM]; exact hu)
                  have HMM := Lib.hid hM
                  obtain ⟨gE, hgE⟩ : ∃ gE, gE = wL.heap.size := ⟨_, rfl⟩
                  obtain ⟨wE, hwE⟩ : ∃ wE, wE = wL.alloc (.cells #[.int .i64 XI, .int .i64 XT, .int .i64 XK, .string xd, .slice ua MM uc] 46) := ⟨_, rfl⟩
                  have hS2 := enS2_new HS.out [.int .i64 XI, .int .i64 XT, .int .i64 XK, .string xd, .slice ua MM uc]
                  rw [← hwE, ← hgE] at hS2
                  have HS2 := Lib.hid hS2
                  have HWE := Lib.hid hwE
                  have HGE := Lib.hid hgE
                  clear hr hr0 hu hx hlt hi' hM hxb hxs p1 p2 p3 p4 p5 p6 k1 k2 k3 hS2 hwE hgE
                  go_wp2_with (first | (refine wpList_alloc_z rfl 46 rfl #[.int .i64 0, .int .i64 0, .int .i64 0, .string ⟨#[]⟩, .slice none 0 0] hz ?_) | fail)
                  rw [← HWE.out, ← HGE.out]
                  clear d0 d1 d2 d3 d4 x8
                  have e0 := Rw.cell HS2.out.2 (j := 0) (v := (.int .i64 XI)) rfl
                  have e1 := Rw.cell HS2.out.2 (j := 1) (v := (.int .i64 XT)) rfl
                  have HC := Lib.hid (rlay_at2 (enS2_drew HS2.out) XI HKS.out.1 (by have h1 := HLE.out; simp only [List.length_append, layS_len, List.length_cons, List.length_nil]; omega))
                  go_region_held3 (fun W => W.cell? ⟨gE, 0, none⟩ = some (.int .i64 XI) ∧ W.cell? ⟨gE, 1, none⟩ = some (.int .i64 XT))
                    (first | exact ⟨e0, e1⟩ | exact ⟨f0, f1⟩ | exact ⟨j0, j1⟩)
                    (first
                      | (go_at_call 21; ((with_reducible refine (HC.out).mono ?_); rintro e wA ⟨aA, nA, cA, rfl, hnA, hA⟩); have STA := Lib.hid hA; have HNA := Lib.hid hnA; have f0 := Rw.cell STA.out.2 (j := 0) (v := (.int .i64 XI)) rfl; have f1 := Rw.cell STA.out.2 (j := 1) (v := (.int .i64 XT)) rfl; have HD := Lib.hid (rlay_at2 STA.out XT HKS.out.2.1 (by have h1 := HLE.out; simp only [List.length_append, layS_len, List.length_cons, List.length_nil]; omega)); clear hA hnA)
                      | (go_at_call 21; ((with_reducible refine (HD.out).mono ?_); rintro e wB ⟨aB, nB, cB, rfl, hnB, hB⟩); have STB := Lib.hid hB; have HNB := Lib.hid hnB; have j0 := Rw.cell STB.out.2 (j := 0) (v := (.int .i64 XI)) rfl; have j1 := Rw.cell STB.out.2 (j := 1) (v := (.int .i64 XT)) rfl; clear hB hnB))
                  have g2 := Rw.cell STB.out.2 (j := 2) (v := (.int .i64 XK)) rfl
                  have g3 := Rw.cell STB.out.2 (j := 3) (v := (.string xd)) rfl
                  have g4 := Rw.cell STB.out.2 (j := 4) (v := (.slice ua MM uc)) rfl
                  have HE := Lib.hid (rlay_at2 (enS2_drew STB.out) XK HKS.out.2.2 (by have h1 := HLE.out; simp only [List.length_append, layS_len, List.length_cons, List.length_nil]; omega))
                  clear HC HD e0 e1 f0 f1 j0 j1
                  go_wp2_with fail
                  go_region_held3 (fun W => W.cell? ⟨gE, 2, none⟩ = some (.int .i64 XK) ∧ W.cell? ⟨gE, 3, none⟩ = some (.string xd) ∧ W.cell? ⟨gE, 4, none⟩ = some (.slice ua MM uc))
                    (first | exact ⟨g2, g3, g4⟩ | exact ⟨h2, h3, h4⟩ | exact ⟨i2, i3, i4⟩ | exact ⟨k2, k3, k4⟩)
                    (first
                      | (go_at_call 21; ((with_reducible refine (HE.out).mono ?_); rintro e wC ⟨aC, nC, cC, rfl, hnC, hC⟩); have STC := Lib.hid hC; have HNC := Lib.hid hnC; have h2 := Rw.cell STC.out.2 (j := 2) (v := (.int .i64 XK)) rfl; have h3 := Rw.cell STC.out.2 (j := 3) (v := (.string xd)) rfl; have h4 := Rw.cell STC.out.2 (j := 4) (v := (.slice ua MM uc)) rfl; have HF := Lib.hid (rtext_at2 STC.out xd (by have := HP.out.1; omega) (by have h1 := HLE.out; simp only [List.length_append, layS_len, List.length_cons, List.length_nil]; omega)); clear hC hnC)
                      | (go_at_call 23; ((with_reducible refine (HF.out).mono ?_); rintro e wD ⟨aD, nD, cD, rfl, hnD, hD⟩); have STD := Lib.hid hD; have HND := Lib.hid hnD; have i2 := Rw.cell STD.out.2 (j := 2) (v := (.int .i64 XK)) rfl; have i3 := Rw.cell STD.out.2 (j := 3) (v := (.string xd)) rfl; have i4 := Rw.cell STD.out.2 (j := 4) (v := (.slice ua MM uc)) rfl; have HG := Lib.hid (rints_at2 STD.out HUE.out HP.out.2.2.1 HP.out.2.2.2 (by have := HP.out.2.1; omega) (by have h1 := HLE.out; have h2 := HP.out.1; simp only [List.length_append, layS_len, List.length_cons, List.length_nil, txtW, size_data]; omega)); clear hD hnD)
                      | (go_at_call 22; ((with_reducible refine (HG.out).mono ?_); rintro e wF ⟨aF, nF, cF, rfl, hnF, hF⟩); have STF := Lib.hid hF; have HNF := Lib.hid hnF; have k2 := Rw.cell STF.out.2 (j := 2) (v := (.int .i64 XK)) rfl; have k3 := Rw.cell STF.out.2 (j := 3) (v := (.string xd)) rfl; have k4 := Rw.cell STF.out.2 (j := 4) (v := (.slice ua MM uc)) rfl; clear hF hnF))
                  clear g2 g3 g4 h2 h3 h4 i2 i3 i4 k2 k3 k4 HE HF HG
                  go_wp2_with fail
                  go_roundw
                  case rel =>
                    refine ⟨i + 1, nF, aF, cF, HI.out, by go_num, rfl, Lib.hid ?_⟩
                    have h9 := STF.out.1
                    rw [HTK.out]
                    unfold entW
                    simp only [intsW_cons, intsW_nil, intW, Int.toNat_natCast, List.append_assoc, List.append_nil] at h9 ⊢
                    exact h9
                  case measure => have := HI.out; simp [intOf]; omega
              · have hyk : ¬ (i : Int) < (n : Int) := by omega
                have HEND : Hid (EnSt w wL gM [.int .i64 3, .int .i64 F, .int .i64 T, .int .i64 Q, .int .i64 IX, .int .i64 LT, .int .i64 CM, .bool false, .slice a n c, .int .i64 si, .int .i64 st, .slice a2 0 c2, .string sd] (.slice va X vc) ((([3] ++ layS 8 F ++ layS 8 T ++ layS 8 Q) ++ layS 8 IX ++ layS 8 LT ++ layS 8 CM ++ [UInt8.ofNat n]) ++ entsW es)) := Lib.hid (by
                  have h1 := HS.out
                  rw [List.take_of_length_le (by rw [← HN.out]; omega)] at h1
                  exact h1)
                clear hlt hi'
                go_wp2_with fail
                go_ret2
                refine encV_yes (by rw [HSP.out, HMF.out]; dsimp only; rw [HNM.out, HALL.out]; rfl) (by rw [HMF.out]; simp [msgW, bodyW, intsW, intW, ← HN.out, layS_one]) HEND.out

end Go.Proofs.Ythpljpbiamjmaaa
