/- Contracts: the reference: Encode: a field that its Kind does not name. -/
import Derived.BigRegion
import Derived.Deep.RegionHeld3
import Derived.Deep.RegionLaw
import Derived.Deep.CutBlock
import Derived.Deep.RegionWith
import Derived.Test.YthpljpbiamjmaaaProg
import Derived.Test.YthpljpbiamjmaaaKit
import Derived.Test.YthpljpbiamjmaaaRow
import Derived.Test.YthpljpbiamjmaaaRow2
import Derived.Test.YthpljpbiamjmaaaCod7
import Derived.Test.YthpljpbiamjmaaaKp0
import Derived.Test.YthpljpbiamjmaaaMg0
import Derived.Test.YthpljpbiamjmaaaMg5
import Derived.Test.YthpljpbiamjmaaaMg8
import Derived.Test.YthpljpbiamjmaaaMr1
import Derived.Test.YthpljpbiamjmaaaMr2
import Derived.Test.YthpljpbiamjmaaaMr3
import Derived.Test.YthpljpbiamjmaaaMr5
import Derived.Test.YthpljpbiamjmaaaMr6e
namespace Go.Proofs.Ythpljpbiamjmaaa
open Go.RowKit Go.Proofs

set_option maxRecDepth 100000 in
set_option maxHeartbeats 16000000 in
theorem renc_odd {w : World} {m : MsgM} {ev mv : Value} (h : MsgAt w ev mv m) (hs : smallM m) (hk : 1 ≤ m.kd ∧ m.kd ≤ 5) (hq : badR m.kd m.fr m.to m.tm m.ix m.lt m.cm m.es.length m.sn.ms.length m.sn.d.size m.sn.ix m.sn.tm = false) (hrb : emptyB (unlM m) = false) :
    Calls Try.prog 11 #[msgV m ev mv] w fun e w' => EncV w w' e m := by
  obtain ⟨gM, hgM⟩ : ∃ gM, gM = w.heap.size := ⟨_, rfl⟩
  have hsp := okMB_split m.kd m.fr m.to m.tm m.ix m.lt m.cm m.yes m.es m.sn.ix m.sn.tm m.sn.ms m.sn.d
  have HKK : Hid (1 ≤ m.kd ∧ m.kd ≤ 5) := Lib.hid (by exact hk)
  obtain ⟨he, hel, hm⟩ := id h
  obtain ⟨a, c, rfl, _⟩ := id he
  obtain ⟨a2, c2, rfl⟩ := intsAt_len hm
  obtain ⟨mm, hmm⟩ : ∃ mm : MsgM, mm = m := ⟨_, rfl⟩
  have HSN : Hid (∀ r, SameR r (onlyM mm) mm → r = false) := Lib.hid (fun r hr => by rw [hmm] at hr; rw [onlyM_same HKK.out hr]; exact hrb)
  have HON := Lib.hid (fun W => only_any (w := W) mm (a := a) (c := c) (a2 := a2) (c2 := c2) (by rw [hmm]; exact HKK.out))
  have HMA : Hid (∀ W, Below w.heap.size w W → MsgAt W (.slice a mm.es.length c) (.slice a2 mm.sn.ms.length c2) mm) := Lib.hid (fun W hb => by rw [hmm]; exact msgAt_below h hb)
  have HSM : Hid (smallM mm) := Lib.hid (by rw [hmm]; exact hs)
  have HRBB : Hid (emptyB (unlM mm) = false) := Lib.hid (by rw [hmm]; exact hrb)
  have HSP : Hid (okMB mm = (emptyB (unlM mm) && mm.es.all entB && natsB mm.sn.ms)) := Lib.hid (by rw [hmm, show okMB m = _ from hsp, hq]; rfl)
  obtain ⟨q0, q1, q2, q3, q4, q5, q6, q7, q8, q9, q10, q11, q12, q13, q14⟩ := badR_parts hq
  obtain ⟨kd, fr, tq, tm, ix, lt, cm, yes, es, ⟨si, st, ms, sd⟩⟩ := m
  have HV : Hid (∀ ev mv, msgV mm ev mv = .agg #[.int .i64 kd, .int .i64 fr, .int .i64 tq, .int .i64 tm, .int .i64 ix, .int .i64 lt, .int .i64 cm, .bool yes, ev, .int .i64 si, .int .i64 st, mv, .string sd]) := Lib.hid (fun _ _ => by rw [hmm]; rfl)
  have HMF : Hid (mm = ⟨kd, fr, tq, tm, ix, lt, cm, yes, es, ⟨si, st, ms, sd⟩⟩) := Lib.hid hmm
  rw [← hmm, HV.out]
  have hls : mm.es.length = es.length ∧ mm.sn.ms.length = ms.length := by rw [hmm]; exact ⟨rfl, rfl⟩
  dsimp only at he hel hm hk q0 q1 q2 q3 q4 q5 q6 q7 q8 q9 q10 q11 q12 q13 q14 ⊢
  rw [hls.1, hls.2] at HMA HON ⊢
  obtain ⟨n, hn⟩ : ∃ n, n = es.length := ⟨_, rfl⟩
  rw [← hn] at HMA HON q10 ⊢
  obtain ⟨M, hM⟩ : ∃ M, M = ms.length := ⟨_, rfl⟩
  rw [← hM] at HMA HON q11 ⊢
  have HHE := Lib.hid he
  have HHM := Lib.hid hm
  have HHS := Lib.hid hs
  rw [← hn] at HHE
  have HN := Lib.hid hn
  have HN8 : Hid (n ≤ 8) := Lib.hid (by have := of_decide_eq_false q10; omega)
  rw [← hM] at HHM
  have HM := Lib.hid hM
  have HM9 : Hid (M ≤ 9) := Lib.hid (by have := of_decide_eq_false q11; omega)
  have HD6 : Hid (sd.size ≤ 65536) := Lib.hid (by have := of_decide_eq_false q12; omega)
  have HBX := Lib.hid (below_more (Below.refl _ w) (.cells #[.int .i64 kd, .int .i64 fr, .int .i64 tq, .int .i64 tm, .int .i64 ix, .int .i64 lt, .int .i64 cm, .bool yes, .slice a n c, .int .i64 si, .int .i64 st, .slice a2 M c2, .string sd] 27))
  have HRX : Hid (Rw (w.alloc (.cells #[.int .i64 kd, .int .i64 fr, .int .i64 tq, .int .i64 tm, .int .i64 ix, .int .i64 lt, .int .i64 cm, .bool yes, .slice a n c, .int .i64 si, .int .i64 st, .slice a2 M c2, .string sd] 27)) 0 gM 27 [.int .i64 kd, .int .i64 fr, .int .i64 tq, .int .i64 tm, .int .i64 ix, .int .i64 lt, .int .i64 cm, .bool yes, .slice a n c, .int .i64 si, .int .i64 st, .slice a2 M c2, .string sd]) := Lib.hid (by rw [hgM]; exact Rw.alloc w _ _ (Nat.zero_le _))
  have HGM := Lib.hid hgM
  clear h he hel hm hs hk hrb hmm hls hsp hq hgM HKK
  clear hn
  clear hM
  go_enter Try.func11, Try.ntmps11
  go_upto_region 2 with fail
  clear q0 q1 q2 q3 q4 q5 q6 q7 q8 q9 q10 q11 q12 q13 q14
  rw [← HGM.out]
  obtain ⟨w0, hw0⟩ : ∃ w0, w0 = w.alloc (.cells #[.int .i64 kd, .int .i64 fr, .int .i64 tq, .int .i64 tm, .int .i64 ix, .int .i64 lt, .int .i64 cm, .bool yes, .slice a n c, .int .i64 si, .int .i64 st, .slice a2 M c2, .string sd] 27) := ⟨_, rfl⟩
  rw [← hw0] at HBX HRX ⊢
  clear hw0
  go_cut [98] from 11 (fun c98 wx => c98 = .bool true ∧ Hid (Below w.heap.size w wx ∧ Rw wx 0 gM 27 [.int .i64 kd, .int .i64 fr, .int .i64 tq, .int .i64 tm, .int .i64 ix, .int .i64 lt, .int .i64 cm, .bool yes, .slice a n c, .int .i64 si, .int .i64 st, .slice a2 M c2, .string sd]))
  case first =>
    have x0 := Rw.cell HRX.out (j := 0) (v := (.int .i64 kd)) rfl
    have x1 := Rw.cell HRX.out (j := 1) (v := (.int .i64 fr)) rfl
    have x2 := Rw.cell HRX.out (j := 2) (v := (.int .i64 tq)) rfl
    have x3 := Rw.cell HRX.out (j := 3) (v := (.int .i64 tm)) rfl
    have x4 := Rw.cell HRX.out (j := 4) (v := (.int .i64 ix)) rfl
    have x5 := Rw.cell HRX.out (j := 5) (v := (.int .i64 lt)) rfl
    have x6 := Rw.cell HRX.out (j := 6) (v := (.int .i64 cm)) rfl
    have x7 := Rw.cell HRX.out (j := 7) (v := (.bool yes)) rfl
    have x8 := Rw.cell HRX.out (j := 8) (v := (.slice a n c)) rfl
    have x9 := Rw.cell HRX.out (j := 9) (v := (.int .i64 si)) rfl
    have x10 := Rw.cell HRX.out (j := 10) (v := (.int .i64 st)) rfl
    have x11 := Rw.cell HRX.out (j := 11) (v := (.slice a2 M c2)) rfl
    have x12 := Rw.cell HRX.out (j := 12) (v := (.string sd)) rfl
    have HRD := Lib.hid (rw_drew HRX.out)
    have HBD : Hid (Below w.heap.size w w0.drew) := Lib.hid (below_draws HBX.out ⟨1, rfl⟩)
    have HO := HON.out w0.drew
    rw [HV.out] at HO
    have HO2 := Lib.hid HO
    clear HO HON
    go_region_law
      (first
        | (go_simp; go_at_call 19; refine (HO2.out).mono ?_; rintro e w1 ⟨⟨ev', mv', rfl, hmv⟩, hb1⟩; have HMV := Lib.hid (hmv w1 (HMA.out w1 (below_then HBD.out hb1))); have HMW := Lib.hid (HMA.out w1 (below_then HBD.out hb1)); have HB1 := Lib.hid (below_then HBD.out hb1); have HR1 := Lib.hid (Rw.below HRD.out hb1); have y0 := Rw.cell HR1.out (j := 0) (v := (.int .i64 kd)) rfl; have y1 := Rw.cell HR1.out (j := 1) (v := (.int .i64 fr)) rfl; have y2 := Rw.cell HR1.out (j := 2) (v := (.int .i64 tq)) rfl; have y3 := Rw.cell HR1.out (j := 3) (v := (.int .i64 tm)) rfl; have y4 := Rw.cell HR1.out (j := 4) (v := (.int .i64 ix)) rfl; have y5 := Rw.cell HR1.out (j := 5) (v := (.int .i64 lt)) rfl; have y6 := Rw.cell HR1.out (j := 6) (v := (.int .i64 cm)) rfl; have y7 := Rw.cell HR1.out (j := 7) (v := (.bool yes)) rfl; have y8 := Rw.cell HR1.out (j := 8) (v := (.slice a n c)) rfl; have y9 := Rw.cell HR1.out (j := 9) (v := (.int .i64 si)) rfl; have y10 := Rw.cell HR1.out (j := 10) (v := (.int .i64 st)) rfl; have y11 := Rw.cell HR1.out (j := 11) (v := (.slice a2 M c2)) rfl; have y12 := Rw.cell HR1.out (j := 12) (v := (.string sd)) rfl; clear hmv hb1)
        | (go_simp; go_at_call 15; have HSS := sameMsg_any (onlyM mm) mm (onlyM_four mm) HMV.out HMW.out; rw [HV.out] at HSS; refine (HSS).mono ?_; rintro e w2 ⟨⟨r, rfl, hr⟩, hb2⟩; obtain rfl := HSN.out r hr; have HB2 := Lib.hid (below_then HB1.out hb2); have HR2 := Lib.hid (Rw.below HR1.out hb2); clear hr hb2 HSS))
    all_goals
      go_wp2_with fail
      go_meet
      exact ⟨rfl, Lib.hid ⟨HB2.out, HR2.out⟩⟩
  case rest =>
    obtain ⟨rfl, HZ⟩ := hcut
    generalize wc = w2 at *
    clear HBX HRX HSN HON
    have HNO := Lib.hid (encV_no (m := mm) (by rw [HSP.out, HRBB.out]; rfl) HZ.out.1)
    go_wp2_with fail
    go_ret2
    exact HNO.out

end Go.Proofs.Ythpljpbiamjmaaa
