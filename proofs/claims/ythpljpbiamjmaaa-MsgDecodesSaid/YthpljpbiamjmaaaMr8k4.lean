/- Contracts: the reference: Encode: a message of Kind 4 that has no field too many. -/
import Derived.BigRegion
import Derived.Deep.RegionHeld3
import Derived.Deep.RegionLaw
import Derived.Deep.CutBlock
import Derived.Deep.RegionWith
import Derived.Deep.AppendLies
import Derived.Test.YthpljpbiamjmaaaProg
import Derived.Test.YthpljpbiamjmaaaKit
import Derived.Test.YthpljpbiamjmaaaInfo
import Derived.Test.YthpljpbiamjmaaaRow
import Derived.Test.YthpljpbiamjmaaaRow2
import Derived.Test.YthpljpbiamjmaaaCod7
import Derived.Test.YthpljpbiamjmaaaFrm0
import Derived.Test.YthpljpbiamjmaaaFrm4
import Derived.Test.YthpljpbiamjmaaaKp0
import Derived.Test.YthpljpbiamjmaaaKp2
import Derived.Test.YthpljpbiamjmaaaMg0
import Derived.Test.YthpljpbiamjmaaaMg5
import Derived.Test.YthpljpbiamjmaaaMg8
import Derived.Test.YthpljpbiamjmaaaMr1
import Derived.Test.YthpljpbiamjmaaaMr2
import Derived.Test.YthpljpbiamjmaaaMr3
import Derived.Test.YthpljpbiamjmaaaMr4
import Derived.Test.YthpljpbiamjmaaaMr5
import Derived.Test.YthpljpbiamjmaaaMr6e
import Derived.Test.YthpljpbiamjmaaaMr8
namespace Go.Proofs.Ythpljpbiamjmaaa
open Go.RowKit Go.Proofs

set_option maxRecDepth 100000 in
set_option maxHeartbeats 16000000 in
theorem renc_k4 {w : World} {m : MsgM} {ev mv : Value} (h : MsgAt w ev mv m) (hs : smallM m) (hkd : m.kd = 4) (hq : badR m.kd m.fr m.to m.tm m.ix m.lt m.cm m.es.length m.sn.ms.length m.sn.d.size m.sn.ix m.sn.tm = false) (hrb : emptyB (unlM m) = true) :
    Calls Try.prog 11 #[msgV m ev mv] w fun e w' => EncV w w' e m := by
  obtain ⟨gM, hgM⟩ : ∃ gM, gM = w.heap.size := ⟨_, rfl⟩
  have hsp := okMB_split m.kd m.fr m.to m.tm m.ix m.lt m.cm m.yes m.es m.sn.ix m.sn.tm m.sn.ms m.sn.d
  have HKK : Hid (1 ≤ m.kd ∧ m.kd ≤ 5) := Lib.hid (by omega)
  obtain ⟨he, hel, hm⟩ := id h
  obtain ⟨a, c, rfl, _⟩ := id he
  obtain ⟨a2, c2, rfl⟩ := intsAt_len hm
  obtain ⟨mm, hmm⟩ : ∃ mm : MsgM, mm = m := ⟨_, rfl⟩
  have HSN : Hid (∀ r, SameR r (onlyM mm) mm → r = true) := Lib.hid (fun r hr => by rw [hmm] at hr; rw [onlyM_same HKK.out hr]; exact hrb)
  have HON := Lib.hid (fun W => only_any (w := W) mm (a := a) (c := c) (a2 := a2) (c2 := c2) (by rw [hmm]; exact HKK.out))
  have HMA : Hid (∀ W, Below w.heap.size w W → MsgAt W (.slice a mm.es.length c) (.slice a2 mm.sn.ms.length c2) mm) := Lib.hid (fun W hb => by rw [hmm]; exact msgAt_below h hb)
  have HSM : Hid (smallM mm) := Lib.hid (by rw [hmm]; exact hs)
  have HSP : Hid (okMB mm = (mm.es.all entB && natsB mm.sn.ms)) := Lib.hid (by rw [hmm, show okMB m = _ from hsp, hq, hrb]; rfl)
  have HZ1 : Hid (mm.es.length = 0) := Lib.hid (by rw [hmm]; exact unl_es hrb (by omega))
  have HZ2 : Hid (mm.sn.ms.length = 0) := Lib.hid (by rw [hmm]; exact unl_ms hrb (by omega))
  obtain ⟨q0, q1, q2, q3, q4, q5, q6, q7, q8, q9, q10, q11, q12, q13, q14⟩ := badR_parts hq
  obtain ⟨kd, fr, tq, tm, ix, lt, cm, yes, es, ⟨si, st, ms, sd⟩⟩ := m
  have HV : Hid (∀ ev mv, msgV mm ev mv = .agg #[.int .i64 kd, .int .i64 fr, .int .i64 tq, .int .i64 tm, .int .i64 ix, .int .i64 lt, .int .i64 cm, .bool yes, ev, .int .i64 si, .int .i64 st, mv, .string sd]) := Lib.hid (fun _ _ => by rw [hmm]; rfl)
  have HMF : Hid (mm = ⟨kd, fr, tq, tm, ix, lt, cm, yes, es, ⟨si, st, ms, sd⟩⟩) := Lib.hid hmm
  rw [← hmm, HV.out]
  have hls : mm.es.length = es.length ∧ mm.sn.ms.length = ms.length := by rw [hmm]; exact ⟨rfl, rfl⟩
  dsimp only at he hel hm hkd q0 q1 q2 q3 q4 q5 q6 q7 q8 q9 q10 q11 q12 q13 q14 ⊢
  rw [hls.1, hls.2] at HMA HON ⊢
  obtain ⟨n, hn⟩ : ∃ n, n = es.length := ⟨_, rfl⟩
  rw [← hn] at HMA HON q10 ⊢
  obtain ⟨M, hM⟩ : ∃ M, M = ms.length := ⟨_, rfl⟩
  rw [← hM] at HMA HON q11 ⊢
  have HLS : Hid (mm.es.length = n ∧ mm.sn.ms.length = M) := Lib.hid ⟨by rw [hls.1]; exact hn.symm, by rw [hls.2]; exact hM.symm⟩
  have HHE := Lib.hid he
  have HHM := Lib.hid hm
  have HHS := Lib.hid hs
  rw [← hn] at HHE
  have HN := Lib.hid hn
  have HN8 : Hid (n ≤ 8) := Lib.hid (by have := of_decide_eq_false q10; omega)
  rw [← hM] at HHM
  have HM := Lib.hid hM
  have HM9 : Hid (M ≤ 9) := Lib.hid (by have := of_decide_eq_false q11; omega)
  have HD6 : Hid (sd.size ≤ 65536) := Lib.hid (by have := of_decide_eq_false q12; omega)
  have HPS : Hid ((1 ≤ fr ∧ fr ≤ 9) ∧ (1 ≤ tq ∧ tq ≤ 9) ∧ 0 ≤ tm ∧ 0 ≤ ix ∧ 0 ≤ lt ∧ 0 ≤ cm ∧ 0 ≤ si ∧ 0 ≤ st) := Lib.hid (by
    have z2 := of_decide_eq_false q2
    have z3 := of_decide_eq_false q3
    have z4 := of_decide_eq_false q4
    have z5 := of_decide_eq_false q5
    have z6 := of_decide_eq_false q6
    have z7 := of_decide_eq_false q7
    have z8 := of_decide_eq_false q8
    have z9 := of_decide_eq_false q9
    have z13 := of_decide_eq_false q13
    have z14 := of_decide_eq_false q14
    omega)
  have HBX := Lib.hid (below_more (Below.refl _ w) (.cells #[.int .i64 kd, .int .i64 fr, .int .i64 tq, .int .i64 tm, .int .i64 ix, .int .i64 lt, .int .i64 cm, .bool yes, .slice a n c, .int .i64 si, .int .i64 st, .slice a2 M c2, .string sd] 27))
  have HRX : Hid (Rw (w.alloc (.cells #[.int .i64 kd, .int .i64 fr, .int .i64 tq, .int .i64 tm, .int .i64 ix, .int .i64 lt, .int .i64 cm, .bool yes, .slice a n c, .int .i64 si, .int .i64 st, .slice a2 M c2, .string sd] 27)) 0 gM 27 [.int .i64 kd, .int .i64 fr, .int .i64 tq, .int .i64 tm, .int .i64 ix, .int .i64 lt, .int .i64 cm, .bool yes, .slice a n c, .int .i64 si, .int .i64 st, .slice a2 M c2, .string sd]) := Lib.hid (by rw [hgM]; exact Rw.alloc w _ _ (Nat.zero_le _))
  have HGM := Lib.hid hgM
  have HKD := Lib.hid hkd
  clear h he hel hm hs hkd hrb hmm hls hsp hq hgM HKK
  clear hn
  clear hM
  go_enter Try.func11, Try.ntmps11
  go_upto_region 2 with fail
  clear q0 q1 q2 q3 q4 q5 q6 q7 q8 q9 q10 q11 q12 q13 q14
  rw [← HGM.out]
  obtain ⟨w0, hw0⟩ : ∃ w0, w0 = w.alloc (.cells #[.int .i64 kd, .int .i64 fr, .int .i64 tq, .int .i64 tm, .int .i64 ix, .int .i64 lt, .int .i64 cm, .bool yes, .slice a n c, .int .i64 si, .int .i64 st, .slice a2 M c2, .string sd] 27) := ⟨_, rfl⟩
  rw [← hw0] at HBX HRX ⊢
  clear hw0
  go_cut [98] from 11 (fun c98 wx => c98 = .bool false ∧ Hid (Below w.heap.size w wx ∧ Rw wx 0 gM 27 [.int .i64 kd, .int .i64 fr, .int .i64 tq, .int .i64 tm, .int .i64 ix, .int .i64 lt, .int .i64 cm, .bool yes, .slice a n c, .int .i64 si, .int .i64 st, .slice a2 M c2, .string sd]))
  case first =>
    have x0 := Rw.cell HRX.out (j := 0) (v := (.int .i64 kd)) rfl
    have x1 := Rw.cell HRX.out (j := 1) (v := (.int .i64 fr)) rfl
    have x2 := Rw.cell HRX.out (j := 2) (v := (.int .i64 tq)) rfl
    have x3 := Rw.cell HRX.out (j := 3) (v := (.int .i64 tm)) rfl
    have x4 := Rw.cell HRX.out (j := 4) (v := (.int .i64 ix)) rfl
    have x5 := Rw.cell HRX.out (j := 5) (v := (.int .i64 lt)) rfl
    have x6 := Rw.cell HRX.out (j := 6) (v := (.int .i64 cm)) rfl
    have x7 := Rw.cell HRX.out (j := 7) (v := (.bool yes)) rfl
    have x8 := Rw.cell HRX.out (j := 8) (v := (.slice a n c)) rfl
    have x9 := Rw.cell HRX.out (j := 9) (v := (.int .i64 si)) rfl
    have x10 := Rw.cell HRX.out (j := 10) (v := (.int .i64 st)) rfl
    have x11 := Rw.cell HRX.out (j := 11) (v := (.slice a2 M c2)) rfl
    have x12 := Rw.cell HRX.out (j := 12) (v := (.string sd)) rfl
    have HRD := Lib.hid (rw_drew HRX.out)
    have HBD : Hid (Below w.heap.size w w0.drew) := Lib.hid (below_draws HBX.out ⟨1, rfl⟩)
    have HO := HON.out w0.drew
    rw [HV.out] at HO
    have HO2 := Lib.hid HO
    clear HO HON
    go_region_law
      (first
        | (go_simp; go_at_call 19; refine (HO2.out).mono ?_; rintro e w1 ⟨⟨ev', mv', rfl, hmv⟩, hb1⟩; have HMV := Lib.hid (hmv w1 (HMA.out w1 (below_then HBD.out hb1))); have HMW := Lib.hid (HMA.out w1 (below_then HBD.out hb1)); have HB1 := Lib.hid (below_then HBD.out hb1); have HR1 := Lib.hid (Rw.below HRD.out hb1); have y0 := Rw.cell HR1.out (j := 0) (v := (.int .i64 kd)) rfl; have y1 := Rw.cell HR1.out (j := 1) (v := (.int .i64 fr)) rfl; have y2 := Rw.cell HR1.out (j := 2) (v := (.int .i64 tq)) rfl; have y3 := Rw.cell HR1.out (j := 3) (v := (.int .i64 tm)) rfl; have y4 := Rw.cell HR1.out (j := 4) (v := (.int .i64 ix)) rfl; have y5 := Rw.cell HR1.out (j := 5) (v := (.int .i64 lt)) rfl; have y6 := Rw.cell HR1.out (j := 6) (v := (.int .i64 cm)) rfl; have y7 := Rw.cell HR1.out (j := 7) (v := (.bool yes)) rfl; have y8 := Rw.cell HR1.out (j := 8) (v := (.slice a n c)) rfl; have y9 := Rw.cell HR1.out (j := 9) (v := (.int .i64 si)) rfl; have y10 := Rw.cell HR1.out (j := 10) (v := (.int .i64 st)) rfl; have y11 := Rw.cell HR1.out (j := 11) (v := (.slice a2 M c2)) rfl; have y12 := Rw.cell HR1.out (j := 12) (v := (.string sd)) rfl; clear hmv hb1)
        | (go_simp; go_at_call 15; have HSS := sameMsg_any (onlyM mm) mm (onlyM_four mm) HMV.out HMW.out; rw [HV.out] at HSS; refine (HSS).mono ?_; rintro e w2 ⟨⟨r, rfl, hr⟩, hb2⟩; obtain rfl := HSN.out r hr; have HB2 := Lib.hid (below_then HB1.out hb2); have HR2 := Lib.hid (Rw.below HR1.out hb2); clear hr hb2 HSS))
    all_goals
      go_wp2_with fail
      go_meet
      exact ⟨rfl, Lib.hid ⟨HB2.out, HR2.out⟩⟩
  case rest =>
    obtain ⟨rfl, HZ⟩ := hcut
    generalize wc = w2 at *
    clear HBX HRX HSN HON
    obtain rfl : kd = 4 := HKD.out
    obtain rfl : n = 0 := by rw [← HLS.out.1]; exact HZ1.out
    obtain rfl : M = 0 := by rw [← HLS.out.2]; exact HZ2.out
    obtain ⟨F, rfl⟩ := Int.eq_ofNat_of_zero_le (show 0 ≤ fr by have := HPS.out; omega)
    obtain ⟨T, rfl⟩ := Int.eq_ofNat_of_zero_le (show 0 ≤ tq by have := HPS.out; omega)
    obtain ⟨Q, rfl⟩ := Int.eq_ofNat_of_zero_le (show 0 ≤ tm by have := HPS.out; omega)
    have HSI : Hid (smallM ⟨4, F, T, Q, ix, lt, cm, yes, es, ⟨si, st, ms, sd⟩⟩) := Lib.hid (by rw [← HMF.out]; exact HSM.out)
    have huF := u64_nat F (by have := HPS.out; omega)
    have huT := u64_nat T (by have := HPS.out; omega)
    have huQ := u64_nat Q (by have := HSI.out.1 (Q : Int) (by simp); omega)
    have HQS : Hid (F < 9223372036854775808 ∧ T < 9223372036854775808 ∧ Q < 9223372036854775808) := Lib.hid ⟨by have := HPS.out; omega, by have := HPS.out; omega, by have := HSI.out.1 (Q : Int) (by simp); omega⟩
    have HNE : Hid (es = []) := Lib.hid (List.eq_nil_of_length_eq_zero HN.out.symm)
    have HNM : Hid (ms = []) := Lib.hid (List.eq_nil_of_length_eq_zero HM.out.symm)
    obtain ⟨IX, rfl⟩ := Int.eq_ofNat_of_zero_le (show 0 ≤ ix by have := HPS.out; omega)
    have HSIX : Hid (IX < 9223372036854775808) := Lib.hid (by have h1 := HMF.out; have h2 := HSM.out; rw [h1] at h2; have := h2.1 _ (show (IX : Int) ∈ _ by simp); omega)
    have huIX := u64_nat IX HSIX.out
    have x0 := Rw.cell HZ.out.2 (j := 0) (v := (.int .i64 4)) rfl
    have x8 := Rw.cell HZ.out.2 (j := 8) (v := (.slice a 0 c)) rfl
    have x11 := Rw.cell HZ.out.2 (j := 11) (v := (.slice a2 0 c2)) rfl
    go_wp2_with fail
    refine wp_loop_once ?_
    go_wp2_with fail
    refine wp_loop_once ?_
    go_upto_region 15 with fail
    obtain ⟨w3, hw3⟩ : ∃ w3, w3 = w2.alloc (.cells #[.int .u8 4] 5) := ⟨_, rfl⟩
    have ST3 : Hid (EnSt w w3 gM [.int .i64 4, .int .i64 F, .int .i64 T, .int .i64 Q, .int .i64 IX, .int .i64 lt, .int .i64 cm, .bool yes, .slice a 0 c, .int .i64 si, .int .i64 st, .slice a2 0 c2, .string sd] (.slice (some ⟨w2.heap.size, 0, none⟩) 1 1) [4]) := Lib.hid (by rw [hw3]; exact enSt_new HZ.out.1 HZ.out.2 (4 : UInt8))
    rw [← hw3]
    clear hw3 x0 x8 x11
    have y := Rw.cell ST3.out.2.1 (j := 1) (v := (.int .i64 F)) rfl
    have HC := Lib.hid (rlay_at ST3.out F HQS.out.1 (by simp))
    go_wp2_with fail
    refine (HC.out).mono ?_
    rintro e w4 ⟨a4, n4, c4, rfl, hn4, h4⟩
    have ST4 := Lib.hid h4
    have HN4 := Lib.hid hn4
    clear y HC h4 hn4
    have y := Rw.cell ST4.out.2.1 (j := 2) (v := (.int .i64 T)) rfl
    have HC := Lib.hid (rlay_at ST4.out T HQS.out.2.1 (by simp [layS_len]))
    go_wp2_with fail
    refine (HC.out).mono ?_
    rintro e w5 ⟨a5, n5, c5, rfl, hn5, h5⟩
    have ST5 := Lib.hid h5
    have HN5 := Lib.hid hn5
    clear y HC h5 hn5
    have y := Rw.cell ST5.out.2.1 (j := 3) (v := (.int .i64 Q)) rfl
    have HC := Lib.hid (rlay_at ST5.out Q HQS.out.2.2 (by simp [layS_len]))
    go_wp2_with fail
    refine (HC.out).mono ?_
    rintro e w6 ⟨a6, n6, c6, rfl, hn6, h6⟩
    have ST6 := Lib.hid h6
    have HN6 := Lib.hid hn6
    clear y HC h6 hn6
    have HO6 : Hid (w6.ownsRow 0 5 1 (.slice a6 n6 c6) n6 (([4] ++ layS 8 F ++ layS 8 T ++ layS 8 Q).map byteV)) := Lib.hid (by have h1 := own_zero ST6.out.2.2; rw [← HN6.out] at h1; exact h1)
    have HMX : Hid (n6 + 1 ≤ maxLen) := Lib.hid (by rw [HN6.out]; simp [layS_len, maxLen])
    have HBT : Hid ((n6 + 1) * 1 ≤ 140737488355328) := Lib.hid (by rw [HN6.out]; simp [layS_len])
    obtain ⟨i0, hi0, hz0, hz1, hz2⟩ := info_parts Try.infoByte
    have HOD : Hid (w6.drew.ownsRow 0 5 1 (.slice a6 n6 c6) n6 (([4] ++ layS 8 F ++ layS 8 T ++ layS 8 Q).map byteV)) := Lib.hid HO6.out
    have HSZ : Hid (w6.drew.heap.size ≤ w6.heap.size + 1) := Lib.hid (by show w6.heap.size ≤ _; omega)
    have y0 := Rw.cell ST6.out.2.1 (j := 0) (v := .int .i64 4) rfl
    have y := Rw.cell ST6.out.2.1 (j := 7) (v := .bool yes) rfl
    have y4 := Rw.cell ST6.out.2.1 (j := 4) (v := .int .i64 IX) rfl
    rcases yes with _ | _
    · have y4A := Rw.cell (Rw.more ST6.out.2.1 (.cells #[.int .u8 0] 5)) (j := 4) (v := (.int .i64 IX)) rfl
      have HLN : Hid ((([4] ++ layS 8 F ++ layS 8 T ++ layS 8 Q) ++ [0]).length ≤ 500000000) := Lib.hid (by simp [layS_len])
      go_wp2_with fail
      go_region_law
        (first
          | (refine step_append_lies _ rfl _ _ 30 rfl 0 5 i0 (.int .u8 0) 1 1 Try.underlying30 hi0 hz0 hz1 hz2 rfl (by decide) (.slice a6 n6 c6) n6 _ rfl (HOD.out.alloc _) ⟨w6.heap.size, 0, none⟩ 1 1 [_] rfl rfl (World.news_of_block (heap_alloc_new w6.drew _)) (num_one _ _) (by decide) HMX.out HBT.out (Nat.zero_le _) (w6.heap.size + 1) (by simp) ?_; intro gg cap w7 hown7 hgrow hat hlt7; have ST7 : Hid (EnSt w w7 gM [.int .i64 4, .int .i64 F, .int .i64 T, .int .i64 Q, .int .i64 IX, .int .i64 lt, .int .i64 cm, .bool false, .slice a 0 c, .int .i64 si, .int .i64 st, .slice a2 0 c2, .string sd] (.slice (some ⟨gg, 0, none⟩) (n6 + 1) cap) (([4] ++ layS 8 F ++ layS 8 T ++ layS 8 Q) ++ [0])) := Lib.hid (enSt_add (enSt_drew ST6.out) (below_more (Below.refl _ _) _) hgrow hown7 HN6.out (en_hat hat HSZ.out)); have HC := Lib.hid (rlay_at ST7.out IX HSIX.out HLN.out); have y2 := Rw.cell ST7.out.2.1 (j := 4) (v := (.int .i64 IX)) rfl; clear hown7 hgrow hat hlt7)
          | (go_simp; go_at_call 21; ((with_reducible refine (HC.out).mono ?_); rintro e w8 ⟨a8, n8, c8, rfl, hn8, h8⟩); have ST8 := Lib.hid h8; have HN8' := Lib.hid hn8; clear h8 hn8))
      all_goals
        go_wp2_with fail
        go_ret2
        refine encV_yes (by rw [HSP.out, HMF.out]; dsimp only; rw [HNE.out, HNM.out]; rfl) (by rw [HMF.out]; simp [msgW, bodyW, intsW, intW, yesW]; rfl) ST8.out

    · have y4A := Rw.cell (Rw.more ST6.out.2.1 (.cells #[.int .u8 1] 5)) (j := 4) (v := (.int .i64 IX)) rfl
      have HLN : Hid ((([4] ++ layS 8 F ++ layS 8 T ++ layS 8 Q) ++ [1]).length ≤ 500000000) := Lib.hid (by simp [layS_len])
      go_wp2_with fail
      go_region_law
        (first
          | (refine step_append_lies _ rfl _ _ 30 rfl 0 5 i0 (.int .u8 0) 1 1 Try.underlying30 hi0 hz0 hz1 hz2 rfl (by decide) (.slice a6 n6 c6) n6 _ rfl (HOD.out.alloc _) ⟨w6.heap.size, 0, none⟩ 1 1 [_] rfl rfl (World.news_of_block (heap_alloc_new w6.drew _)) (num_one _ _) (by decide) HMX.out HBT.out (Nat.zero_le _) (w6.heap.size + 1) (by simp) ?_; intro gg cap w7 hown7 hgrow hat hlt7; have ST7 : Hid (EnSt w w7 gM [.int .i64 4, .int .i64 F, .int .i64 T, .int .i64 Q, .int .i64 IX, .int .i64 lt, .int .i64 cm, .bool true, .slice a 0 c, .int .i64 si, .int .i64 st, .slice a2 0 c2, .string sd] (.slice (some ⟨gg, 0, none⟩) (n6 + 1) cap) (([4] ++ layS 8 F ++ layS 8 T ++ layS 8 Q) ++ [1])) := Lib.hid (enSt_add (enSt_drew ST6.out) (below_more (Below.refl _ _) _) hgrow hown7 HN6.out (en_hat hat HSZ.out)); have HC := Lib.hid (rlay_at ST7.out IX HSIX.out HLN.out); have y2 := Rw.cell ST7.out.2.1 (j := 4) (v := (.int .i64 IX)) rfl; clear hown7 hgrow hat hlt7)
          | (go_simp; go_at_call 21; ((with_reducible refine (HC.out).mono ?_); rintro e w8 ⟨a8, n8, c8, rfl, hn8, h8⟩); have ST8 := Lib.hid h8; have HN8' := Lib.hid hn8; clear h8 hn8))
      all_goals
        go_wp2_with fail
        go_ret2
        refine encV_yes (by rw [HSP.out, HMF.out]; dsimp only; rw [HNE.out, HNM.out]; rfl) (by rw [HMF.out]; simp [msgW, bodyW, intsW, intW, yesW]; rfl) ST8.out

end Go.Proofs.Ythpljpbiamjmaaa
