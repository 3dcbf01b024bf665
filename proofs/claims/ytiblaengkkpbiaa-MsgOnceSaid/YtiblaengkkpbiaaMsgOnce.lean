/-
  MsgOnce: for every slice of bytes, what Decode reads as a message is what Encode writes as these bytes again, and what is refused is the zero message; the law returns true, and what was there has not turned. No condition.
-/
import Derived.BigRegion
import Derived.Deep.RegionHeld3
import Derived.Test.YtiblaengkkpbiaaProg
import Derived.Test.YtiblaengkkpbiaaKit
import Derived.Test.YtiblaengkkpbiaaLaw
import Derived.Test.YtiblaengkkpbiaaRow
import Derived.Test.YtiblaengkkpbiaaCod7
import Derived.Test.YtiblaengkkpbiaaCod9
import Derived.Test.YtiblaengkkpbiaaLaw2
import Derived.Test.YtiblaengkkpbiaaFrm4
import Derived.Test.YtiblaengkkpbiaaFrm6
import Derived.Test.YtiblaengkkpbiaaFrm11
import Derived.Test.YtiblaengkkpbiaaKp0
import Derived.Test.YtiblaengkkpbiaaMg0
import Derived.Test.YtiblaengkkpbiaaMg1
import Derived.Test.YtiblaengkkpbiaaMg5
import Derived.Test.YtiblaengkkpbiaaMg10
import Derived.Test.YtiblaengkkpbiaaMr2
import Derived.Test.YtiblaengkkpbiaaMd6
import Derived.Test.YtiblaengkkpbiaaMd7
import Derived.Test.YtiblaengkkpbiaaMd8
import Derived.Test.YtiblaengkkpbiaaMl1
namespace Go.Proofs.Ytiblaengkkpbiaa
open Go.ChangeShapes Go.WideShapes Go.ChangeAt Go.RowKit Go.Proofs
open Go.ChangeMaps (open_string shut_string)

theorem msl_at {w : World} {B : Nat} {v : Value} {l : List UInt8} (h : ByteSl w B v l) : SliceAt w v (l.map byteV) := by
  obtain ⟨a, c, rfl, _, hl⟩ := ByteSl.part h
  exact Lies.sliceAt hl c

theorem decR_no {l : List UInt8} (h : goodR l = false) : decR l = zeroMs ∧ decC l = 7 := by
  unfold decR decC
  rw [if_neg (by rw [h]; decide), if_neg (by rw [h]; decide)]
  exact ⟨rfl, rfl⟩

theorem decR_yes {l : List UInt8} (h : goodR l = true) : decC l = 0 ∧ encW (decR l) = l ∧ codW (decR l) = 0 := by
  have h2 := (goodR_parts h).2
  refine ⟨by unfold decC; rw [if_pos h], ?_, by unfold codW; rw [if_pos h2]⟩
  unfold encW
  rw [if_pos h2]
  exact dec_once h

set_option maxRecDepth 100000 in
set_option maxHeartbeats 8000000 in
theorem msgOnce_any (v : Value) (l : List UInt8) (w : World) (hs : ByteSl w w.heap.size v l) (hl : l.length ≤ 140737488351232) :
    Calls Try.prog 6 #[v] w fun e w' => e = .returned (.bool true) ∧ Below w.heap.size w w' := by
  have HD := Lib.hid (decode_any hs)
  have HSL := Lib.hid hs
  obtain ⟨a, c, rfl, _⟩ := byteSl_len hs
  obtain ⟨L, hL⟩ : ∃ L, L = l.length := ⟨_, rfl⟩
  rw [← hL] at hl HD HSL ⊢
  have HL := Lib.hid hL
  have HLB := Lib.hid hl
  have hz := zero_cells Try.infoMsg
  clear hs hL hl
  by_cases hbig : (20000 : Int) < (L : Int)
  · have q0 : 20000 < L := by omega
    have HAW := Lib.hid (mawake_any w)
    go_enter Try.func6, Try.ntmps6
    go_wp2_with fail
    refine (HAW.out).mono ?_
    rintro e w1 ⟨rfl, hb⟩
    have HB := Lib.hid hb
    clear hb
    go_wp2_with fail
    go_ret
    exact ⟨rfl, HB.out⟩
  have q0 : ¬ 20000 < L := by omega
  go_enter Try.func6, Try.ntmps6
  go_wp2_with fail
  refine (HD.out).mono ?_
  rintro e w1 ⟨ev, mv, rfl, hown, hb1⟩
  cases hg : goodR l with
  | false =>
    obtain ⟨e1, e2⟩ := decR_no hg
    rw [e1] at hown
    rw [e1, e2]
    obtain ⟨ea, ec, rfl, _⟩ := id (msgOwn_at hown).1
    obtain ⟨ma, mc, rfl⟩ := intsAt_len (msgOwn_at hown).2.2
    have hbA := below_more (Below.refl _ w1) (.cells #[.int .i64 0, .int .i64 0, .int .i64 0, .int .i64 0, .int .i64 0, .int .i64 0, .int .i64 0, .bool false, .slice ea 0 ec, .int .i64 0, .int .i64 0, .slice ma 0 mc, .string ⟨#[]⟩] 27)
    have HSM := Lib.hid (sameMsg_any zeroMs zeroMs ⟨rfl, rfl, rfl, rfl⟩ (msgAt_below (msgOwn_at hown) hbA) (msgAt_nil (w1.alloc (.cells #[.int .i64 0, .int .i64 0, .int .i64 0, .int .i64 0, .int .i64 0, .int .i64 0, .int .i64 0, .bool false, .slice ea 0 ec, .int .i64 0, .int .i64 0, .slice ma 0 mc, .string ⟨#[]⟩] 27)) (m := zeroMs) rfl rfl))
    have e3 : msgV zeroMs (.slice none 0 0) (.slice none 0 0) = .agg #[.int .i64 0, .int .i64 0, .int .i64 0, .int .i64 0, .int .i64 0, .int .i64 0, .int .i64 0, .bool false, .slice none 0 0, .int .i64 0, .int .i64 0, .slice none 0 0, .string ⟨#[]⟩] := rfl
    have e4 : msgV zeroMs (.slice ea zeroMs.es.length ec) (.slice ma zeroMs.sn.ms.length mc) = .agg #[.int .i64 0, .int .i64 0, .int .i64 0, .int .i64 0, .int .i64 0, .int .i64 0, .int .i64 0, .bool false, .slice ea 0 ec, .int .i64 0, .int .i64 0, .slice ma 0 mc, .string ⟨#[]⟩] := rfl
    rw [e3, e4] at HSM
    rw [e4]
    have HB1 := Lib.hid (hb1.trans (Below.mono hbA hb1.size))
    clear hown hb1 hg e1 e2 e3 e4 hbA HD
    go_wp2_with (first | (refine wpList_alloc_z rfl 27 rfl #[.int .i64 0, .int .i64 0, .int .i64 0, .int .i64 0, .int .i64 0, .int .i64 0, .int .i64 0, .bool false, .slice none 0 0, .int .i64 0, .int .i64 0, .slice none 0 0, .string ⟨#[]⟩] hz ?_) | fail)
    refine (HSM.out).mono ?_
    rintro e w2 ⟨⟨r, rfl, hr⟩, hb2⟩
    obtain rfl : r = true := hr.2 rfl
    have HB2 := Lib.hid (HB1.out.trans (Below.mono hb2 HB1.out.size))
    have HAW := Lib.hid (mawake_any w2)
    clear hr hb2 HSM
    go_wp2_with fail
    refine (HAW.out).mono ?_
    rintro e w3 ⟨rfl, hb3⟩
    have HB3 := Lib.hid (HB2.out.trans (Below.mono hb3 HB2.out.size))
    clear hb3
    go_wp2_with fail
    go_ret
    exact ⟨rfl, HB3.out⟩
  | true =>
    obtain ⟨e1, e2, e3⟩ := decR_yes hg
    have hsm := decR_small hg
    obtain ⟨m, hm⟩ : ∃ m, m = decR l := ⟨_, rfl⟩
    rw [← hm] at hown hsm e2 e3 ⊢
    rw [e1]
    obtain ⟨ea, ec, rfl, _⟩ := id (msgOwn_at hown).1
    obtain ⟨ma, mc, rfl⟩ := intsAt_len (msgOwn_at hown).2.2
    obtain ⟨n, hn⟩ : ∃ n, n = m.es.length := ⟨_, rfl⟩
    obtain ⟨M, hM⟩ : ∃ M, M = m.sn.ms.length := ⟨_, rfl⟩
    rw [← hn, ← hM] at hown ⊢
    have hbA := below_more (Below.refl _ w1) (.cells #[.int .i64 m.kd, .int .i64 m.fr, .int .i64 m.to, .int .i64 m.tm, .int .i64 m.ix, .int .i64 m.lt, .int .i64 m.cm, .bool m.yes, .slice ea n ec, .int .i64 m.sn.ix, .int .i64 m.sn.tm, .slice ma M mc, .string m.sn.d] 27)
    have HEN := Lib.hid (encode_any (msgOwn_at (msgOwn_below hown hbA)) hsm)
    rw [e2, e3] at HEN
    unfold msgV at HEN ⊢
    have HB1 := Lib.hid (hb1.trans (Below.mono hbA hb1.size))
    clear hown hb1 hg e1 e2 e3 hbA HD hsm hm hn hM
    go_wp2_with (first | (refine wpList_alloc_z rfl 27 rfl #[.int .i64 0, .int .i64 0, .int .i64 0, .int .i64 0, .int .i64 0, .int .i64 0, .int .i64 0, .bool false, .slice none 0 0, .int .i64 0, .int .i64 0, .slice none 0 0, .string ⟨#[]⟩] hz ?_) | fail)
    refine (HEN.out).mono ?_
    rintro e w2 ⟨v2, rfl, ho2, hb2⟩
    have HB2 := Lib.hid (HB1.out.trans (Below.mono hb2 HB1.out.size))
    obtain ⟨a2, c2, rfl⟩ := own_len ho2
    have HBY := Lib.hid (bytes_any l l _ _ w2 (by have := HL.out; omega) (by have := HL.out; omega) (msl_at (ByteSl.keep HSL.out HB2.out (Nat.le_refl _))) (SliceAt.own ho2))
    rw [← HL.out] at HBY ⊢
    clear ho2 hb2 HEN
    go_wp2_with fail
    refine (HBY.out).mono ?_
    rintro e w3 ⟨rfl, hd3⟩
    have e5 : (l == l) = true := by simp
    rw [e5]
    have HB3 := Lib.hid (below_draws HB2.out hd3)
    have HAW := Lib.hid (mawake_any w3)
    clear hd3 e5 HBY
    go_wp2_with fail
    refine (HAW.out).mono ?_
    rintro e w4 ⟨rfl, hb4⟩
    have HB4 := Lib.hid (HB3.out.trans (Below.mono hb4 HB3.out.size))
    clear hb4
    go_wp2_with fail
    go_ret
    exact ⟨rfl, HB4.out⟩

theorem msgOnce_own : ownKnob Try.prog.godebug = none := by kernel_rfl

theorem msgOnce_bytesByte : Try.prog.bytesOf 5 = 1 := by kernel_rfl

set_option maxRecDepth 100000 in
theorem msgOnce_lifted (os : Os) (started : os.Started) (H : Type) (enc : TypeId × Value → H) :
    ReturnsInHanded {} Try.checked os 6 .any (Rows.msgOnceSpec.pre6 enc Try.prog Try.f6 Rows.msgOnceRow.domain false) (Rows.msgOnceSpec.post enc Try.prog Try.f6 false true false false) := by
  refine law_lifted (C := Try.checked) msgOnce_own started (by kernel_rfl) Try.func6
    (ChangeSpec.witness6 (enc := enc) (C := Try.checked) false ⟨#[], #[.slice none 0 0], []⟩ 8 (by kernel_rfl) (by kernel_rfl) (by kernel_rfl) (by kernel_rfl))
    (by kernel_rfl) (of_decide_eq_true (by kernel_rfl)) (tb := 4) (by kernel_rfl) Try.underlying4 rfl (fun ds h => by match ds, h with | [d0], _ => exact ⟨rfl, rfl, rfl⟩) ?_
  intro W base args ds p hval0 hA0 hlt hsz0
  have hval : ∀ (j : Nat) t v, Try.f6.params[j]? = some t → args[j]? = some v → Value.okWide Try.prog W .any base t v := hval0
  have hA : DataW.TrodAll enc Try.prog W 0 (fun _ => true) true Try.f6.params.toList args.toList ds p := hA0
  have hsz : (DataW.weightsEach Try.prog Try.f6.params.toList ds).all (· ≤ reachBytes) = true := hsz0
  rw [Try.params6] at hA hval hsz
  obtain ⟨v0, vs0, d0, ds0, p0, q0, hargs, rfl, rfl, h0, r0⟩ := trodAll_cons hA
  obtain ⟨rfl, rfl, rfl⟩ := trodAll_nil r0
  obtain rfl : args = #[v0] := by cases args; simp_all
  have s0 := sized_at hsz (j := 0) (t := 30) (d := d0) rfl rfl
  obtain ⟨a0, g0, z0⟩ := open_bytes Try.underlying30 Try.underlying5 (by kernel_rfl) msgOnce_bytesByte (hval 0 30 v0 rfl rfl) h0 s0
  exact msgOnce_any (w := W) v0 a0 g0 z0

theorem msgOnce_over : Rows.msgOnceRow.holds Try.pinned (OpenSpec.ofChange Rows.msgOnceSpec) :=
  OpenClaim.holds_of_wide 6 Try.f6 rfl rfl rfl rfl rfl rfl rfl ⟨rfl, rfl, rfl, rfl, rfl⟩ rfl rfl rfl rfl rfl (by kernel_rfl) Try.func6 (by kernel_rfl)
    (of_decide_eq_true (by kernel_rfl)) (by unfold Func.isWrapper; first | (rw [if_pos (by decide +kernel)]; kernel_rfl) | (rw [if_neg (by decide +kernel)]; exact ⟨rfl, rfl⟩))
    (fun os started H enc _ => msgOnce_lifted os started H enc)

theorem msgOnce_proved : Rows.MsgOnceSaid := msgOnce_over
#print axioms msgOnce_proved

end Go.Proofs.Ytiblaengkkpbiaa
