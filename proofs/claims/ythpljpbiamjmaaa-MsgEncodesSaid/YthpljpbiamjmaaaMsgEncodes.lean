/-
  MsgEncodes: for every message, the code's Encode and the reference's write the same bytes and tell the same code; the law returns true, and what was there has not turned. No condition.
-/
import Derived.BigRegion
import Derived.Deep.RegionHeld3
import Derived.Test.YthpljpbiamjmaaaProg
import Derived.Test.YthpljpbiamjmaaaKit
import Derived.Test.YthpljpbiamjmaaaLaw
import Derived.Test.YthpljpbiamjmaaaRow
import Derived.Test.YthpljpbiamjmaaaCod7
import Derived.Test.YthpljpbiamjmaaaFrm4
import Derived.Test.YthpljpbiamjmaaaFrm11
import Derived.Test.YthpljpbiamjmaaaMg0
import Derived.Test.YthpljpbiamjmaaaMg5
import Derived.Test.YthpljpbiamjmaaaMg10
import Derived.Test.YthpljpbiamjmaaaMl1
import Derived.Test.YthpljpbiamjmaaaMr9
namespace Go.Proofs.Ythpljpbiamjmaaa
open Go.ChangeShapes Go.WideShapes Go.ChangeAt Go.RowKit Go.Proofs
open Go.ChangeMaps (open_string shut_string)

theorem encW_small (m : MsgM) : (encW m).length ≤ 200000 := by
  unfold encW
  split
  · rename_i h; exact (msgLen_small h).2
  · simp

set_option maxRecDepth 100000 in
set_option maxHeartbeats 8000000 in
theorem msgEncodes_any (m : MsgM) (ev mv : Value) {w : World} (hm : MsgW w ev mv m) :
    Calls Try.prog 3 #[msgV m ev mv] w fun e w' => e = .returned (.bool true) ∧ Below w.heap.size w w' := by
  obtain ⟨⟨a, c, rfl⟩, ⟨a2, c2, rfl⟩⟩ := msgWd_len hm
  obtain ⟨gM, hgM⟩ : ∃ gM, gM = w.heap.size := ⟨_, rfl⟩
  have hb0 := below_more (Below.refl _ w) (.cells #[.int .i64 m.kd, .int .i64 m.fr, .int .i64 m.to, .int .i64 m.tm, .int .i64 m.ix, .int .i64 m.lt, .int .i64 m.cm, .bool m.yes, .slice a m.es.length c, .int .i64 m.sn.ix, .int .i64 m.sn.tm, .slice a2 m.sn.ms.length c2, .string m.sn.d] 27)
  have hr0 : Rw (w.alloc (.cells #[.int .i64 m.kd, .int .i64 m.fr, .int .i64 m.to, .int .i64 m.tm, .int .i64 m.ix, .int .i64 m.lt, .int .i64 m.cm, .bool m.yes, .slice a m.es.length c, .int .i64 m.sn.ix, .int .i64 m.sn.tm, .slice a2 m.sn.ms.length c2, .string m.sn.d] 27)) 0 gM 27 [.int .i64 m.kd, .int .i64 m.fr, .int .i64 m.to, .int .i64 m.tm, .int .i64 m.ix, .int .i64 m.lt, .int .i64 m.cm, .bool m.yes, .slice a m.es.length c, .int .i64 m.sn.ix, .int .i64 m.sn.tm, .slice a2 m.sn.ms.length c2, .string m.sn.d] := by rw [hgM]; exact Rw.alloc w _ _ (Nat.zero_le _)
  have HIN := Lib.hid (in_any (msgWd_below hm hb0))
  have HMW := Lib.hid hm
  have HB0 := Lib.hid hb0
  have HR0 := Lib.hid hr0
  obtain ⟨n, hn⟩ : ∃ n, n = m.es.length := ⟨_, rfl⟩
  obtain ⟨M, hM⟩ : ∃ M, M = m.sn.ms.length := ⟨_, rfl⟩
  have HN := Lib.hid hn
  have HM := Lib.hid hM
  unfold msgV at HIN ⊢
  rw [← hn, ← hM] at HIN HB0 HR0 HMW ⊢
  clear hm hn hM hb0 hr0
  go_enter Try.func3, Try.ntmps3
  go_upto_region 1 with fail
  rw [← hgM]
  clear hgM
  obtain ⟨w0, hw0⟩ : ∃ w0, w0 = w.alloc (.cells #[.int .i64 m.kd, .int .i64 m.fr, .int .i64 m.to, .int .i64 m.tm, .int .i64 m.ix, .int .i64 m.lt, .int .i64 m.cm, .bool m.yes, .slice a n c, .int .i64 m.sn.ix, .int .i64 m.sn.tm, .slice a2 M c2, .string m.sn.d] 27) := ⟨_, rfl⟩
  rw [← hw0] at HIN HB0 HR0 ⊢
  clear hw0
  go_wp2_with (first | (refine wpList_load_mid rfl 27 _ rfl gM 0 rfl [.int .i64 m.kd, .int .i64 m.fr, .int .i64 m.to, .int .i64 m.tm, .int .i64 m.ix, .int .i64 m.lt, .int .i64 m.cm, .bool m.yes, .slice a n c, .int .i64 m.sn.ix, .int .i64 m.sn.tm, .slice a2 M c2, .string m.sn.d] _ (Rw.whole HR0.out) Try.underlying27 rfl Try.sizeMsg ?_) | fail)
  refine (HIN.out).mono ?_
  rintro e w1 ⟨⟨b, rfl, hb⟩, hb1⟩
  have HB1 := Lib.hid (below_then HB0.out hb1)
  have HR1 := Lib.hid (Rw.below HR0.out hb1)
  have HQ := Lib.hid hb
  clear hb hb1 HIN
  cases b with
  | false =>
    have HAW := Lib.hid (mawake_any w1)
    go_wp2_with fail
    refine (HAW.out).mono ?_
    rintro e w2 ⟨rfl, hb2⟩
    have HB2 := Lib.hid (below_then HB1.out hb2)
    clear hb2
    go_wp2_with fail
    go_ret
    exact ⟨rfl, HB2.out⟩
  | true =>
    have hms := msgW_at (ev := .slice a n c) (mv := .slice a2 M c2) HMW.out (HQ.out rfl).1 (HQ.out rfl).2.1 (HQ.out rfl).2.2
    have HAT := Lib.hid hms.1
    have HSM := Lib.hid hms.2
    have HEN := Lib.hid (encode_any (msgAt_below HAT.out HB1.out) HSM.out)
    have HLS := Lib.hid (encW_small m)
    obtain ⟨L, hL⟩ : ∃ L, L = encW m := ⟨_, rfl⟩
    obtain ⟨C, hC⟩ : ∃ C, C = codW m := ⟨_, rfl⟩
    unfold msgV at HEN
    rw [← hL, ← hC] at HEN
    rw [← hL] at HLS
    obtain ⟨N, hN⟩ : ∃ N, N = L.length := ⟨_, rfl⟩
    rw [← hN] at HEN HLS
    have HL := Lib.hid hL
    have HC := Lib.hid hC
    have HNN := Lib.hid hN
    clear hms HQ hL hC hN
    go_wp2_with (first | (refine wpList_load_mid rfl 27 _ rfl gM 0 rfl [.int .i64 m.kd, .int .i64 m.fr, .int .i64 m.to, .int .i64 m.tm, .int .i64 m.ix, .int .i64 m.lt, .int .i64 m.cm, .bool m.yes, .slice a n c, .int .i64 m.sn.ix, .int .i64 m.sn.tm, .slice a2 M c2, .string m.sn.d] _ (Rw.whole HR1.out) Try.underlying27 rfl Try.sizeMsg ?_) | fail)
    refine (HEN.out).mono ?_
    rintro e w2 ⟨v2, rfl, ho2, hb2⟩
    have HB2 := Lib.hid (below_then HB1.out hb2)
    have HR2 := Lib.hid (Rw.below HR1.out hb2)
    obtain ⟨a3, c3, rfl⟩ := own_len ho2
    have HO2 := Lib.hid ho2
    have HRE : Hid (Calls Try.prog 11 #[.agg #[.int .i64 m.kd, .int .i64 m.fr, .int .i64 m.to, .int .i64 m.tm, .int .i64 m.ix, .int .i64 m.lt, .int .i64 m.cm, .bool m.yes, .slice a n c, .int .i64 m.sn.ix, .int .i64 m.sn.tm, .slice a2 M c2, .string m.sn.d]] w2 fun e w' => ∃ v', e = .returned (.tuple #[v', .int .i64 C]) ∧ w'.ownsRow w2.heap.size 5 1 v' N (L.map byteV) ∧ Below w2.heap.size w2 w') := Lib.hid (by
      have h1 := rencode_any (msgAt_below HAT.out HB2.out) HSM.out
      rw [HNN.out, HL.out, HC.out]
      exact h1)
    clear ho2 hb2 HEN
    go_wp2_with (first | (refine wpList_load_mid rfl 27 _ rfl gM 0 rfl [.int .i64 m.kd, .int .i64 m.fr, .int .i64 m.to, .int .i64 m.tm, .int .i64 m.ix, .int .i64 m.lt, .int .i64 m.cm, .bool m.yes, .slice a n c, .int .i64 m.sn.ix, .int .i64 m.sn.tm, .slice a2 M c2, .string m.sn.d] _ (Rw.whole HR2.out) Try.underlying27 rfl Try.sizeMsg ?_) | fail)
    refine (HRE.out).mono ?_
    rintro e w3 ⟨v3, rfl, ho3, hb3⟩
    obtain ⟨a4, c4, rfl⟩ := own_len ho3
    have HB3 := Lib.hid (below_then HB2.out hb3)
    have HBY := Lib.hid (bytes_any L L (.slice a3 N c3) (.slice a4 N c4) w3 (by have := HLS.out; have := HNN.out; omega) (by have := HLS.out; have := HNN.out; omega) (SliceAt.own (own_below HO2.out hb3)) (SliceAt.own ho3))
    clear ho3 hb3 HRE
    go_wp2_with fail
    refine (HBY.out).mono ?_
    rintro e w4 ⟨rfl, hd4⟩
    have e5 : (L == L) = true := by simp
    rw [e5]
    have HB4 := Lib.hid (below_draws HB3.out hd4)
    have HAW := Lib.hid (mawake_any w4)
    clear hd4 e5 HBY
    go_wp2_with fail
    refine (HAW.out).mono ?_
    rintro e w5 ⟨rfl, hb5⟩
    have HB5 := Lib.hid (below_then HB4.out hb5)
    clear hb5
    go_wp2_with fail
    go_ret
    exact ⟨rfl, HB5.out⟩

theorem msgEncodes_own : ownKnob Try.prog.godebug = none := by kernel_rfl

set_option maxRecDepth 100000 in
theorem msgEncodes_lifted (os : Os) (started : os.Started) (H : Type) (enc : TypeId × Value → H) :
    ReturnsInHanded {} Try.checked os 3 .any (Rows.msgEncodesSpec.pre6 enc Try.prog Try.f3 Rows.msgEncodesRow.domain false) (Rows.msgEncodesSpec.post enc Try.prog Try.f3 false true false false) := by
  refine law_lifted (C := Try.checked) msgEncodes_own started (by kernel_rfl) Try.func3
    (ChangeSpec.witness6 (enc := enc) (C := Try.checked) false ⟨#[], #[.agg #[.int .i64 0, .int .i64 0, .int .i64 0, .int .i64 0, .int .i64 0, .int .i64 0, .int .i64 0, .bool false, .slice none 0 0, .int .i64 0, .int .i64 0, .slice none 0 0, .string ByteArray.empty]], []⟩ 8 (by kernel_rfl) (by kernel_rfl) (by kernel_rfl) (by kernel_rfl))
    (by kernel_rfl) (of_decide_eq_true (by kernel_rfl)) (tb := 4) (by kernel_rfl) Try.underlying4 rfl (fun ds h => by match ds, h with | [d0], _ => exact ⟨rfl, rfl, rfl⟩) ?_
  intro W base args ds p hval0 hA0 hlt hsz0
  have hval : ∀ (j : Nat) t v, Try.f3.params[j]? = some t → args[j]? = some v → Value.okWide Try.prog W .any base t v := hval0
  have hA : DataW.TrodAll enc Try.prog W 0 (fun _ => true) true Try.f3.params.toList args.toList ds p := hA0
  have hsz : (DataW.weightsEach Try.prog Try.f3.params.toList ds).all (· ≤ reachBytes) = true := hsz0
  rw [Try.params3] at hA hval hsz
  obtain ⟨v0, vs0, d0, ds0, p0, q0, hargs, rfl, rfl, h0, r0⟩ := trodAll_cons hA
  obtain ⟨rfl, rfl, rfl⟩ := trodAll_nil r0
  obtain rfl : args = #[v0] := by cases args; simp_all
  have s0 := sized_at hsz (j := 0) (t := 27) (d := d0) rfl rfl
  obtain ⟨m0_0, m0_1, m0_2, m0_3, m0_4, m0_5, m0_6, m0_7, m0_8, m0_9, m0_10, m0_11, m0_12, m0_13, t0⟩ := Try.msTys
  obtain ⟨e0_0, e0_1, e0_2, e0_3, e0_4, u0⟩ := Try.enTys
  obtain ⟨a0, b0, c0, rfl, g0⟩ := open_msg t0 u0 (hval 0 27 v0 rfl rfl) h0 s0
  exact msgEncodes_any (w := W) a0 b0 c0 g0

theorem msgEncodes_over : Rows.msgEncodesRow.holds Try.pinned (OpenSpec.ofChange Rows.msgEncodesSpec) :=
  OpenClaim.holds_of_wide 3 Try.f3 rfl rfl rfl rfl rfl rfl rfl ⟨rfl, rfl, rfl, rfl, rfl⟩ rfl rfl rfl rfl rfl (by kernel_rfl) Try.func3 (by kernel_rfl)
    (of_decide_eq_true (by kernel_rfl)) (by unfold Func.isWrapper; first | (rw [if_pos (by decide +kernel)]; kernel_rfl) | (rw [if_neg (by decide +kernel)]; exact ⟨rfl, rfl⟩))
    (fun os started H enc _ => msgEncodes_lifted os started H enc)

theorem msgEncodes_proved : Rows.MsgEncodesSaid := msgEncodes_over
#print axioms msgEncodes_proved

end Go.Proofs.Ythpljpbiamjmaaa
