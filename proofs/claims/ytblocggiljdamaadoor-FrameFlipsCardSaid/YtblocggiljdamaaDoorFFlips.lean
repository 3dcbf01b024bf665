/-
  FrameFlips: for every slice of bytes, of its frame any byte changed to any other is no whole frame of that payload; the law returns true, and what was there has not turned; the card's statement, its listed table tied to the program's text. No condition.
-/
import Derived.Lib.LaidTab
import Derived.Stop.LaidErr
import Derived.Deep.DeepHandedRow
import Derived.Test.YtblocggiljdamaaDoorCards
import Derived.Test.YtblocggiljdamaaDoorTie
import Derived.Test.YtblocggiljdamaaDoorProg
import Derived.Test.YtblocggiljdamaaDoorKit
import Derived.Test.YtblocggiljdamaaDoorLaw
import Derived.Test.YtblocggiljdamaaDoorRow
import Derived.Test.YtblocggiljdamaaDoorRow2
import Derived.Test.YtblocggiljdamaaDoorCod7
import Derived.Test.YtblocggiljdamaaDoorCod9
import Derived.Test.YtblocggiljdamaaDoorLaw2
import Derived.Test.YtblocggiljdamaaDoorFrm0
import Derived.Test.YtblocggiljdamaaDoorFrm3
import Derived.Test.YtblocggiljdamaaDoorFrm4
import Derived.Test.YtblocggiljdamaaDoorFrm5
import Derived.Test.YtblocggiljdamaaDoorFrm6
import Derived.Test.YtblocggiljdamaaDoorFrm8
import Derived.Test.YtblocggiljdamaaDoorFrm11
import Derived.Test.YtblocggiljdamaaDoorFrm12
import Derived.Test.YtblocggiljdamaaDoorNibs
import Derived.Test.YtblocggiljdamaaDoorFNexts
namespace Go.Proofs.YtblocggiljdamaaDoor
open Go.ChangeShapes Go.WideShapes Go.ChangeAt Go.RowKit Go.Proofs
open Go.ChangeMaps (open_string shut_string)

theorem xor8 (a b : UInt8) : bits .xor .u8 (a.toNat : Int) (b.toNat : Int) = ((a ^^^ b).toNat : Int) := by
  have ha : (BitVec.ofInt 8 (a.toNat : Int)) = a.toBitVec := by
    apply BitVec.eq_of_toNat_eq
    rw [BitVec.ofInt_natCast, BitVec.toNat_ofNat, Nat.mod_eq_of_lt a.toNat_lt]
    rfl
  have hb : (BitVec.ofInt 8 (b.toNat : Int)) = b.toBitVec := by
    apply BitVec.eq_of_toNat_eq
    rw [BitVec.ofInt_natCast, BitVec.toNat_ofNat, Nat.mod_eq_of_lt b.toNat_lt]
    rfl
  have key : IntKind.u8.wrap ((((a ^^^ b).toBitVec.toNat : Nat)) : Int) = ((a ^^^ b).toNat : Int) := by
    rw [IntKind.wrap_u8]
    have := (a ^^^ b).toNat_lt
    show (((a ^^^ b).toNat : Nat) : Int) % _ = _
    omega
  show IntKind.u8.wrap _ = _
  simp only [IntKind.bits]
  rw [ha, hb]
  exact key

theorem xor_other {z y : UInt8} (h : y ≠ 0) : z ^^^ y ≠ z := by
  intro e
  apply h
  have h2 : z ^^^ (z ^^^ y) = z ^^^ z := by rw [e]
  rw [← UInt8.xor_assoc, UInt8.xor_self, UInt8.zero_xor] at h2
  exact h2

theorem byte_small (r : Nat) (h : r < 255) : ((UInt8.ofNat (r + 1)).toNat : Int) = (r : Int) + 1 ∧ UInt8.ofNat (r + 1) ≠ 0 := by
  have h1 : (UInt8.ofNat (r + 1)).toNat = r + 1 := by rw [UInt8.toNat_ofNat', Nat.mod_eq_of_lt (by omega)]
  refine ⟨by omega, fun e => ?_⟩
  rw [e] at h1
  have : (0 : UInt8).toNat = 0 := rfl
  omega

theorem set_other {l : List UInt8} {k : Nat} {z y : UInt8} (hz : l[k]? = some z) (hy : y ≠ z) : l.set k y ≠ l := by
  intro e
  have hk := (List.getElem?_eq_some_iff.1 hz).1
  have h := congrArg (·[k]?) e
  simp only [List.getElem?_set_self hk, hz] at h
  exact hy (Option.some.inj h)

theorem byteSl_at {w : World} {B : Nat} {v : Value} {l : List UInt8} (h : ByteSl w B v l) : SliceAt w v (l.map byteV) := by
  obtain ⟨a, c, rfl, _, hl⟩ := ByteSl.part h
  exact Lies.sliceAt hl c

set_option maxHeartbeats 2000000 in
theorem frameFlips_any (v : Value) (p : List UInt8) (w : World) (hv : ByteSl w w.heap.size v p) (hl : p.length ≤ 140737488351232) (at' : Int) (ha : -9223372036854775808 ≤ at' ∧ at' ≤ 9223372036854775807) (x : Int) (hx : -9223372036854775808 ≤ x ∧ x ≤ 9223372036854775807) (ht : NibAt w) :
    Calls Tryd.prog 7 #[v, .int .i64 at', .int .i64 x] w fun e w' => e = .returned (.bool true) ∧ Below w.heap.size w w' := by
  have HV := Lib.hid hv
  obtain ⟨a, c, rfl, _⟩ := byteSl_len hv
  obtain ⟨N, hN⟩ : ∃ N, N = p.length := ⟨_, rfl⟩
  rw [← hN] at HV hl ⊢
  have HN := Lib.hid hN
  have HT := Lib.hid ht
  have HA := Lib.hid ha
  have HX := Lib.hid hx
  have hlb : (N : Int) ≤ 140737488351232 := by omega
  clear hv hN ht ha hx hl
  go_enter Tryd.func7, Tryd.ntmps7
  by_cases h4 : (4000 : Int) < (N : Int)
  · go_wp2_with fail
    refine (awake3_any _ HT.out).mono ?_
    rintro e w' ⟨rfl, hb1⟩
    have HB := Lib.hid hb1
    clear hb1
    go_wp2
    go_ret
    exact ⟨rfl, HB.out⟩
  have HSM : Hid (N ≤ 4000) := Lib.hid (by omega)
  have hp := partsB_one w (.slice a N c) 23 (0, 0) p w.heap.size HV.out rfl
  have hb1 : Below w.heap.size w (w.alloc (.cells #[.slice a N c] 23)) := below_more (Below.refl _ _) _
  have HPUT := Lib.hid (put_any [p] _ _ hp (nib_stay HT.out hb1) (by rw [flat_one, ← HN.out]; omega) (by simp))
  have HB1 := Lib.hid hb1
  clear hp hb1
  go_wp2_with fail
  refine (HPUT.out).mono ?_
  rintro e w2 ⟨hpv, hb2⟩
  unfold putV at hpv
  rw [flat_one, ← HN.out] at hpv
  rcases hpv with ⟨_, g, C, rfl, hown⟩ | ⟨h, _⟩
  case inr => have := HSM.out; omega
  have HO2 := Lib.hid (own_mono hown HB1.out.size)
  have HB2 := Lib.hid (below_then HB1.out hb2)
  clear hown hb2 HPUT HB1
  have hlen : ((N : Int) + 8 != (N : Int) + 8) = false := by simp
  have HRD := Lib.hid (round_any at' (N + 8) w2 HA.out (by have := HSM.out; omega))
  go_wp2_with fail
  refine (HRD.out).mono ?_
  rintro e w3 ⟨⟨k, hk, rfl⟩, rfl⟩
  have hfl : (frameS p).length = N + 8 := by rw [frameS_len, ← HN.out]
  obtain ⟨z, hz⟩ : ∃ z, (frameS p)[k]? = some z := ⟨_, List.getElem?_eq_getElem (by rw [hfl]; exact hk)⟩
  have hcell : w2.cell? ⟨g, k, none⟩ = some (.int .u8 (z.toNat : Int)) := (HO2.out.cellAt k (by omega)).trans (by rw [List.getElem?_map, hz]; rfl)
  have hfree : w2.frozen? ⟨g, k, none⟩ = false := HO2.out.frozenAt k
  have hcell1 : w2.drew.cell? ⟨g, k, none⟩ = some (.int .u8 (z.toNat : Int)) := hcell
  have hfree1 : w2.drew.frozen? ⟨g, k, none⟩ = false := hfree
  have hkN : (k : Int) < (N : Int) + 8 := by omega
  have hkN2 : (k : Int) < ((N + 8 : Nat) : Int) := by omega
  have HKN := Lib.hid hk
  have HZ := Lib.hid hz
  have HFL := Lib.hid hfl
  clear hz hfl hk HRD
  go_wp2_with fail
  go_region_with (go_at_call 21; refine (round_any x 255 _ HX.out (by decide)).mono ?_; rintro e w' ⟨⟨r, hr, rfl⟩, rfl⟩; have hr2 : (r : Int) < 255 := by omega)
  all_goals
    obtain ⟨y, hy⟩ : ∃ y : UInt8, y = UInt8.ofNat (r + 1) := ⟨_, rfl⟩
    have hbs := byte_small r hr
    rw [← hy] at hbs
    have hval : bits .xor .u8 (z.toNat : Int) (IntKind.u8.wrap (IntKind.i64.wrap ((r : Int) + 1))) = ((z ^^^ y).toNat : Int) := by
      rw [show IntKind.i64.wrap ((r : Int) + 1) = (r : Int) + 1 by rw [IntKind.wrap_i64]; omega, show IntKind.u8.wrap ((r : Int) + 1) = (y.toNat : Int) by rw [IntKind.wrap_u8, hbs.1]; omega]
      exact xor8 z y
    simp only [hval]
    have hne : (frameS p).set k (z ^^^ y) ≠ frameS p := set_other HZ.out (xor_other hbs.2)
    obtain ⟨f, hf⟩ : ∃ f, f = (frameS p).set k (z ^^^ y) := ⟨_, rfl⟩
    have hfl : f.length = N + 8 := by rw [hf, List.length_set, HFL.out]
    have hown3 : (w2.setCell ⟨g, k, none⟩ (.int .u8 ((z ^^^ y).toNat : Int))).drew.ownsRow w.heap.size 5 1 (.slice (some ⟨g, 0, none⟩) (N + 8) C) (N + 8) (f.map byteV) := by
      have h := (HO2.out.stored k (byteV (z ^^^ y))).1
      rw [← List.map_set, ← hf] at h
      exact h
    have hb3 : Below w.heap.size w (w2.setCell ⟨g, k, none⟩ (.int .u8 ((z ^^^ y).toNat : Int))).drew := below_draws (HB2.out.setCell (own_cap HO2.out).1 _) ⟨1, rfl⟩
    generalize (w2.setCell ⟨g, k, none⟩ (.int .u8 ((z ^^^ y).toNat : Int))).drew = w3 at hown3 hb3 ⊢
    have hflip := next_flip (p := p) (b := f) (by rw [hfl, HN.out]) (by rw [hf]; exact hne)
    rw [← HN.out] at hflip
    have HNX := Lib.hid (next_any f _ w3 (own_sl hown3) (nib_stay HT.out hb3) (by rw [hfl]; have := HSM.out; omega))
    have hqs := next_small f
    obtain ⟨⟨q, m, K⟩, hq⟩ : ∃ s, s = nextS f := ⟨_, rfl⟩
    rw [← hq] at hflip hqs
    have HQ := Lib.hid hq
    have HB3 := Lib.hid hb3
    have HFP := Lib.hid hflip
    have HQS : Hid (q.length < 9223372036854775807) := Lib.hid (by have := HSM.out; rw [hfl] at hqs; simp only at hqs; omega)
    clear hy hbs hval hne hf hfl hown3 hb3 hflip hqs hq hr hr2 hcell hfree hcell1 hfree1 hkN hkN2
    go_wp2_with fail
    refine (HNX.out).mono ?_
    rintro e w4 ⟨⟨v4, rfl, hown4⟩, hb4⟩
    rw [← HQ.out] at hown4 ⊢
    obtain ⟨a4, c4, rfl⟩ := own_len hown4
    have HO4 := Lib.hid hown4
    have HB4 := Lib.hid (below_then HB3.out hb4)
    clear hown4 hb4 HNX
    by_cases hK : K = 1
    case neg =>
      have hK1 : ((K : Int) != 1) = true := by rw [bne_iff_ne]; omega
      clear hK
      go_wp2_with fail
      refine (awake3_any _ (nib_stay HT.out HB4.out)).mono ?_
      rintro e w5 ⟨rfl, hb5⟩
      have HB5 := Lib.hid (below_then HB4.out hb5)
      clear hb5
      go_wp2
      go_ret
      exact ⟨rfl, HB5.out⟩
    subst hK
    by_cases hm : m = N + 8
    case neg =>
      have hm1 : ((m : Int) != (N : Int) + 8) = true := by rw [bne_iff_ne]; omega
      clear hm
      go_wp2_with fail
      refine (awake3_any _ (nib_stay HT.out HB4.out)).mono ?_
      rintro e w5 ⟨rfl, hb5⟩
      have HB5 := Lib.hid (below_then HB4.out hb5)
      clear hb5
      go_wp2
      go_ret
      exact ⟨rfl, HB5.out⟩
    have hm1 : ((m : Int) != (N : Int) + 8) = false := by rw [hm]; simp
    have hqp : (q == p) = false := by
      rw [beq_eq_false_iff_ne]
      rintro rfl
      exact HFP.out (by rw [hm])
    have HBY := Lib.hid (bytes_any q p _ (.slice a N c) w4 HQS.out (by rw [← HN.out]; omega) (own_sliceAt HO4.out) (byteSl_at (HV.out.keep HB4.out (Nat.le_refl _))))
    rw [hqp] at HBY
    clear hm hqp
    go_wp2_with fail
    refine (HBY.out).mono ?_
    rintro e w5 ⟨rfl, hd5⟩
    have HB5 := Lib.hid (below_draws HB4.out hd5)
    clear hd5 HBY
    go_wp2_with fail
    refine (awake3_any _ (nib_stay HT.out HB5.out)).mono ?_
    rintro e w6 ⟨rfl, hb6⟩
    have HB6 := Lib.hid (below_then HB5.out hb6)
    clear hb6
    go_wp2
    go_ret
    exact ⟨rfl, HB6.out⟩

theorem frameFlips_own : ownKnob Tryd.prog.godebug = none := by kernel_rfl

theorem frameFlips_bytesByte : Tryd.prog.bytesOf 5 = 1 := by kernel_rfl

theorem frameFlips_contract (H : Type) (enc : TypeId × Value → H) (W : World) (base : Nat) (args : Array Value) (ds gs : List (DataW H)) (before : List MemPlace)
    (hval0 : ∀ (j : Nat) t v, Tryd.f7.params[j]? = some t → args[j]? = some v → Value.okWide Tryd.prog W .any base t v)
    (hW : DataW.Whole enc Tryd.prog Tryd.f7.params.toList Rows.frameFlipsSpec.vars false W args.toList ds gs before) {vt : List TypeId}
    (hsz0 : (DataW.weightsEach Tryd.prog (Tryd.f7.params.toList ++ vt) (ds ++ gs)).all (· ≤ reachBytes) = true) (hL : laidMetH Tryd.prog Rows.frameFlipsRow.laid W) :
    Calls Tryd.prog 7 args W fun e W' => ∃ v, e = .returned v ∧ Rows.frameFlipsSpec.post enc Tryd.prog Tryd.f7 false true false false W args v W' := by
  refine law_contract (by kernel_rfl) (of_decide_eq_true (by kernel_rfl)) (tb := 4) (by kernel_rfl) Tryd.underlying4 rfl (fun ds h => by match ds, h with | [d0, d1, d2], _ => exact ⟨rfl, rfl, rfl⟩) hW hsz0 ?_
  intro p hA0 hlt hszz
  have hval := hval0
  have hA : DataW.TrodAll enc Tryd.prog W 0 (fun _ => true) true Tryd.f7.params.toList args.toList ds p := hA0
  have hsz : (DataW.weightsEach Tryd.prog Tryd.f7.params.toList ds).all (· ≤ reachBytes) = true := hszz
  clear hval0 hA0 hszz hsz0 hW
  rw [Tryd.params7] at hA hval hsz
  obtain ⟨v0, vs0, d0, ds0, p0, q0, hargs, rfl, rfl, h0, r0⟩ := trodAll_cons hA
  obtain ⟨v1, vs1, d1, ds1, p1, q1, rfl, rfl, rfl, h1, r1⟩ := trodAll_cons r0
  obtain ⟨v2, vs2, d2, ds2, p2, q2, rfl, rfl, rfl, h2, r2⟩ := trodAll_cons r1
  obtain ⟨rfl, rfl, rfl⟩ := trodAll_nil r2
  obtain rfl : args = #[v0, v1, v2] := by cases args; simp_all
  have s0 := sized_at hsz (j := 0) (t := 23) (d := d0) rfl rfl
  obtain ⟨a0, g0, z0⟩ := open_bytes Tryd.underlying23 Tryd.underlying5 (by kernel_rfl) frameFlips_bytesByte (hval 0 23 v0 rfl rfl) h0 s0
  obtain ⟨a1, rfl, rfl, rfl, w1⟩ := open_int Tryd.underlying3 (hval 1 3 v1 rfl rfl) h1
  obtain ⟨a2, rfl, rfl, rfl, w2⟩ := open_int Tryd.underlying3 (hval 2 3 v2 rfl rfl) h2
  exact frameFlips_any (w := W) v0 a0 g0 z0 a1 (bounds_i64 w1) a2 (bounds_i64 w2) (nib_of hL)

noncomputable def frameFlips_world (os : Os) : World := laidIn Tryd.prog Rows.frameFlipsRow.laid (World.holding Tryd.prog os ⟨#[], #[], []⟩)

theorem frameFlips_met (os : Os) : laidMet Tryd.prog Rows.frameFlipsRow.laid ((frameFlips_world os).forCall (fun _ _ => 0) ⟨#[], #[.slice none 0 0, .int .i64 0, .int .i64 0], []⟩).memory :=
  laidMet_of_run' 8 (by kernel_rfl) (by kernel_rfl)

theorem frameFlips_reads (os : Os) {H : Type} (enc : TypeId × Value → H) : ∃ places, DataW.whole enc Tryd.prog ((frameFlips_world os).forCall (fun _ _ => 0) ⟨#[], #[.slice none 0 0, .int .i64 0, .int .i64 0], []⟩).memory Tryd.f7.params.toList Rows.frameFlipsSpec.vars false (#[.slice none 0 0, .int .i64 0, .int .i64 0] : Array Value).toList 8 = some ([.nil, .lit (.int .i64 0), .lit (.int .i64 0)], [], places) :=
  ⟨[], by kernel_rfl⟩

set_option maxRecDepth 100000 in
theorem frameFlips_lifted (os : Os) (started : os.Started) (H : Type) (enc : TypeId × Value → H) (F : Stop.Interp) :
    ReturnsInHanded {} Tryd.checked os 7 .any ((OpenSpec.ofChange Rows.frameFlipsSpec).preRow enc Tryd.prog Tryd.f7 Rows.frameFlipsRow.domain false Rows.frameFlipsRow.laid) (((OpenSpec.ofChange Rows.frameFlipsSpec).at F).post enc Tryd.prog Tryd.f7 false true false false) := by
  obtain ⟨places, hx⟩ := frameFlips_reads os enc
  refine returnsInHanded_of_row (C := Tryd.checked) (s := OpenSpec.ofChange Rows.frameFlipsSpec) frameFlips_own started (by kernel_rfl) Tryd.func7
    (witness_row_at (enc := enc) (C := Tryd.checked) false (frameFlips_world os) #[.slice none 0 0, .int .i64 0, .int .i64 0] rfl (by kernel_rfl) (by kernel_rfl) (by kernel_rfl)
      (OpenSpec.preRow_of_cond 8 hx (by kernel_rfl) (fun k hk => by cases hk) (by kernel_rfl) (frameFlips_met os))) ?_
  intro W base args ds gs before hval hW _ _ hsz hL _ _
  exact frameFlips_contract H enc W base args ds gs before hval hW hsz hL

theorem frameFlips_said : Rows.FrameFlipsSaid :=
  OpenClaim.holds_of_cond 7 Tryd.f7 rfl rfl rfl rfl rfl rfl rfl ⟨rfl, rfl, rfl, rfl, rfl⟩ rfl rfl rfl rfl rfl (by kernel_rfl) Tryd.func7 (by kernel_rfl)
    (of_decide_eq_true (by kernel_rfl)) (by unfold Func.isWrapper; first | (rw [if_pos (by decide +kernel)]; kernel_rfl) | (rw [if_neg (by decide +kernel)]; exact ⟨rfl, rfl⟩))
    (fun os started H enc _ F => by rw [OpenClaim.pre_eq_preRow]; exact frameFlips_lifted os started H enc F)

theorem frameFlips_plain (f : FuncId) (fn : Func) (hf : Tryd.pinned.checked.prog.funcNamed Tryd.f7.name = some f) (hfn : Tryd.pinned.checked.prog.funcs[f]? = some fn) :
    false = Tryd.pinned.checked.prog.looks [] ∧ ∀ (j : Nat) t, fn.params[j]? = some t → Tryd.pinned.checked.prog.wantsStandIn t = false := by
  obtain rfl : f = 7 := Option.some.inj ((show Tryd.prog.funcNamed Tryd.f7.name = some 7 by kernel_rfl).symm.trans hf) |>.symm
  obtain rfl : fn = Tryd.f7 := (Option.some.inj (Tryd.func7.symm.trans hfn)).symm
  refine ⟨by kernel_rfl, fun j t ht => ?_⟩
  have hall : ∀ t ∈ Tryd.f7.params, Tryd.prog.wantsStandIn t = false := of_decide_eq_true (by kernel_rfl)
  exact hall t (Array.mem_of_getElem? ht)

theorem frameFlips_card : Rows.FrameFlipsCardSaid :=
  Claim7.holds_tied_plain_at .later [] _ _ _ _ frameFlips_said (fun _ h => by cases h) (by kernel_rfl) (fun _ h => by cases h) frameFlips_row_tie rfl ⟨rfl, rfl⟩ (by kernel_rfl) rfl frameFlips_plain (by kernel_rfl)
#print axioms frameFlips_card

end Go.Proofs.YtblocggiljdamaaDoor
