/-
  FrameLimit: for every number of bytes up to the limit a frame is made and read, and beyond it neither; the law returns true, and what was there has not turned; the card's statement, its listed table tied to the program's text. No condition.
-/
import Derived.Lib.LaidTab
import Derived.Stop.LaidErr
import Derived.Deep.DeepHandedRow
import Derived.Test.YtblocggiljdamaaDoorCards
import Derived.Test.YtblocggiljdamaaDoorTie
import Derived.Test.YtblocggiljdamaaDoorProg
import Derived.Test.YtblocggiljdamaaDoorKit
import Derived.Test.YtblocggiljdamaaDoorLaw
import Derived.Test.YtblocggiljdamaaDoorInfo
import Derived.Test.YtblocggiljdamaaDoorRow
import Derived.Test.YtblocggiljdamaaDoorCod7
import Derived.Test.YtblocggiljdamaaDoorCod9
import Derived.Test.YtblocggiljdamaaDoorFrm0
import Derived.Test.YtblocggiljdamaaDoorFrm3
import Derived.Test.YtblocggiljdamaaDoorFrm4
import Derived.Test.YtblocggiljdamaaDoorFrm5
import Derived.Test.YtblocggiljdamaaDoorFrm6
import Derived.Test.YtblocggiljdamaaDoorFrm12
import Derived.Test.YtblocggiljdamaaDoorNibs
namespace Go.Proofs.YtblocggiljdamaaDoor
open Go.ChangeShapes Go.WideShapes Go.ChangeAt Go.RowKit Go.Proofs
open Go.ChangeMaps (open_string shut_string)

theorem cells_be4 {k : Nat} (h : k ≤ 131082) : #[Value.int .u8 ((k : Int) / 16777216), .int .u8 ((k : Int) / 65536), .int .u8 ((k : Int) / 256 % 256), .int .u8 ((k : Int) % 256), .int .u8 0, .int .u8 0, .int .u8 0, .int .u8 0] = ((be4 k ++ [0, 0, 0, 0]).map byteV).toArray := by
  rw [be4_eq]
  have e : ∀ (m : Nat) (z : Int), z = ((m % 256 : Nat) : Int) → Value.int .u8 z = byteV (UInt8.ofNat m) := fun m z hz => by
    unfold byteV
    rw [UInt8.toNat_ofNat', hz]
  rw [e (k / 16777216) _ (by omega), e (k / 65536) _ (by omega), e (k / 256) _ (by omega), e k _ (by omega)]
  rfl

theorem next_over {k : Nat} (h1 : 131072 < k) (h2 : k ≤ 131082) : nextS (be4 k ++ [0, 0, 0, 0]) = ([], 0, 3) := by
  have ht : (be4 k ++ [0, 0, 0, 0]).take 4 = be4 k := by rw [List.take_append_of_le_length (by rw [be4_len]; omega), List.take_of_length_le (by rw [be4_len]; omega)]
  exact next2 (by rw [List.length_append, be4_len]; simp) (by rw [ht, num_be4 (by omega)]; exact h1)

set_option maxHeartbeats 1000000 in
theorem frameLimit_any (n : Int) (hn : -9223372036854775808 ≤ n ∧ n ≤ 9223372036854775807) (w : World) (ht : NibAt w) :
    Calls Tryd.prog 8 #[.int .i64 n] w fun e w' => e = .returned (.bool true) ∧ Below w.heap.size w w' := by
  have HT := Lib.hid ht
  clear ht
  go_enter Tryd.func8, Tryd.ntmps8
  by_cases h0 : n < 0
  · go_wp2_with fail
    refine (awake3_any _ HT.out).mono ?_
    rintro e w' ⟨rfl, hb1⟩
    have HB := Lib.hid hb1
    clear hb1
    go_wp2
    go_ret
    exact ⟨rfl, HB.out⟩
  by_cases h1 : 131082 < n
  · go_wp2_with fail
    refine (awake3_any _ HT.out).mono ?_
    rintro e w' ⟨rfl, hb1⟩
    have HB := Lib.hid hb1
    clear hb1
    go_wp2
    go_ret
    exact ⟨rfl, HB.out⟩
  obtain ⟨i0, hi, hz0, hz1, hz2⟩ := info_parts Tryd.infoByte
  obtain ⟨k, rfl⟩ : ∃ k : Nat, n = k := ⟨n.toNat, by omega⟩
  have HK : Hid (k ≤ 131082) := Lib.hid (by omega)
  have hkb : k < 1099511627776 := by omega
  clear hn
  go_wp2_with (refine wpList_make1 _ rfl _ _ 23 rfl 5 i0 (.int .u8 0) 1 Tryd.underlying23 hi hz0 hz1 hz2 rfl .i64 .i64 (k : Int) (k : Int) k rfl rfl rfl rfl hkb (by decide) ?_; intro w1 hown1 hb1)
  obtain ⟨z, hz⟩ : ∃ z : List UInt8, z = List.replicate k 0 := ⟨_, rfl⟩
  have hzv : List.replicate k (Value.int .u8 0) = z.map byteV := by rw [hz, List.map_replicate]; rfl
  have hzl : z.length = k := by rw [hz, List.length_replicate]
  rw [hzv] at hown1
  have HO1 := Lib.hid hown1
  have HB1 := Lib.hid hb1
  have HZL := Lib.hid hzl
  have hp := partsB_one w1 (.slice (some ⟨w.heap.size, 0, none⟩) k k) 23 (0, 0) z w1.heap.size (own_sl hown1) rfl
  have hb2 : Below w.heap.size w (w1.alloc (.cells #[.slice (some ⟨w.heap.size, 0, none⟩) k k] 23)) := below_more hb1 _
  have HPUT := Lib.hid (put_any [z] _ _ hp (nib_stay HT.out hb2) (by rw [flat_one, hzl]; omega) (by simp))
  have HB2 := Lib.hid hb2
  clear hz hzv hzl hown1 hb1 hp hb2 hkb
  refine (HPUT.out).mono ?_
  rintro e w2 ⟨hpv, hb2⟩
  have HB3 := Lib.hid (below_then HB2.out hb2)
  unfold putV at hpv
  rw [flat_one, HZL.out] at hpv
  clear HPUT hb2 HB2
  by_cases hbig : 131072 < k
  · have he : e = .returned (.tuple #[.slice none 0 0, .bool false]) := by
      rcases hpv with ⟨h, _⟩ | ⟨_, h⟩
      · omega
      · exact h
    subst he
    have hyb : (131072 : Int) < (k : Int) := by omega
    have HBIG := Lib.hid hbig
    clear hpv hbig
    go_wp2_with fail
    have hnx := next_any (be4 k ++ [0, 0, 0, 0]) _ _ (byteSl_lit w2 (be4 k ++ [0, 0, 0, 0]) _ 5 (0, 0) 8 w2.heap.size (cells_be4 HK.out) (by rw [List.length_append, be4_len]; rfl) rfl) (nib_stay HT.out (below_more HB3.out _)) (by rw [List.length_append, be4_len]; simp)
    refine hnx.mono ?_
    rintro e w3 ⟨⟨v3, rfl, _⟩, hb3⟩
    rw [next_over HBIG.out HK.out]
    have HB4 := Lib.hid (below_then (below_more HB3.out _) hb3)
    clear hb3 hnx
    go_wp2_with fail
    refine (awake3_any _ (nib_stay HT.out HB4.out)).mono ?_
    rintro e w4 ⟨rfl, hb4⟩
    have HB5 := Lib.hid (below_then HB4.out hb4)
    clear hb4
    go_wp2
    go_ret
    exact ⟨rfl, HB5.out⟩
  · rcases hpv with ⟨_, g, C, rfl, hown⟩ | ⟨h, _⟩
    case inr => exact absurd h hbig
    have hyb : ¬ (131072 : Int) < (k : Int) := by omega
    have HSM : Hid (k ≤ 131072) := Lib.hid (by omega)
    have hnx := next_any (frameS z) _ w2 (own_sl hown) (nib_stay HT.out HB3.out) (by rw [frameS_len, HZL.out]; omega)
    have hfr := next_frame (p := z) (by rw [HZL.out]; exact HSM.out) []
    rw [List.append_nil, HZL.out] at hfr
    have HNX := Lib.hid hnx
    have HFR := Lib.hid hfr
    clear hnx hfr hown hbig
    go_wp2_with fail
    refine (HNX.out).mono ?_
    rintro e w3 ⟨⟨v3, rfl, hown3⟩, hb3⟩
    rw [HFR.out] at hown3 ⊢
    obtain ⟨a3, c3, rfl⟩ := own_len hown3
    rw [HZL.out]
    have HB4 := Lib.hid (below_then HB3.out hb3)
    clear hown3 hb3
    go_wp2_with fail
    refine (awake3_any _ (nib_stay HT.out HB4.out)).mono ?_
    rintro e w4 ⟨rfl, hb4⟩
    have HB5 := Lib.hid (below_then HB4.out hb4)
    clear hb4
    go_wp2
    go_ret
    exact ⟨rfl, HB5.out⟩

theorem frameLimit_own : ownKnob Tryd.prog.godebug = none := by kernel_rfl

theorem frameLimit_contract (H : Type) (enc : TypeId × Value → H) (W : World) (base : Nat) (args : Array Value) (ds gs : List (DataW H)) (before : List MemPlace)
    (hval0 : ∀ (j : Nat) t v, Tryd.f8.params[j]? = some t → args[j]? = some v → Value.okWide Tryd.prog W .any base t v)
    (hW : DataW.Whole enc Tryd.prog Tryd.f8.params.toList Rows.frameLimitSpec.vars false W args.toList ds gs before) {vt : List TypeId}
    (hsz0 : (DataW.weightsEach Tryd.prog (Tryd.f8.params.toList ++ vt) (ds ++ gs)).all (· ≤ reachBytes) = true) (hL : laidMetH Tryd.prog Rows.frameLimitRow.laid W) :
    Calls Tryd.prog 8 args W fun e W' => ∃ v, e = .returned v ∧ Rows.frameLimitSpec.post enc Tryd.prog Tryd.f8 false true false false W args v W' := by
  refine law_contract (by kernel_rfl) (of_decide_eq_true (by kernel_rfl)) (tb := 4) (by kernel_rfl) Tryd.underlying4 rfl (fun ds h => by match ds, h with | [d0], _ => exact ⟨rfl, rfl, rfl⟩) hW hsz0 ?_
  intro p hA0 hlt hszz
  have hval := hval0
  have hA : DataW.TrodAll enc Tryd.prog W 0 (fun _ => true) true Tryd.f8.params.toList args.toList ds p := hA0
  have hsz : (DataW.weightsEach Tryd.prog Tryd.f8.params.toList ds).all (· ≤ reachBytes) = true := hszz
  clear hval0 hA0 hszz hsz0 hW
  rw [Tryd.params8] at hA hval hsz
  obtain ⟨v0, vs0, d0, ds0, p0, q0, hargs, rfl, rfl, h0, r0⟩ := trodAll_cons hA
  obtain ⟨rfl, rfl, rfl⟩ := trodAll_nil r0
  obtain rfl : args = #[v0] := by cases args; simp_all
  obtain ⟨a0, rfl, rfl, rfl, w0⟩ := open_int Tryd.underlying3 (hval 0 3 v0 rfl rfl) h0
  exact frameLimit_any (w := W) a0 (bounds_i64 w0) (nib_of hL)

noncomputable def frameLimit_world (os : Os) : World := laidIn Tryd.prog Rows.frameLimitRow.laid (World.holding Tryd.prog os ⟨#[], #[], []⟩)

theorem frameLimit_met (os : Os) : laidMet Tryd.prog Rows.frameLimitRow.laid ((frameLimit_world os).forCall (fun _ _ => 0) ⟨#[], #[.int .i64 0], []⟩).memory :=
  laidMet_of_run' 8 (by kernel_rfl) (by kernel_rfl)

theorem frameLimit_reads (os : Os) {H : Type} (enc : TypeId × Value → H) : ∃ places, DataW.whole enc Tryd.prog ((frameLimit_world os).forCall (fun _ _ => 0) ⟨#[], #[.int .i64 0], []⟩).memory Tryd.f8.params.toList Rows.frameLimitSpec.vars false (#[.int .i64 0] : Array Value).toList 8 = some ([.lit (.int .i64 0)], [], places) :=
  ⟨[], by kernel_rfl⟩

set_option maxRecDepth 100000 in
theorem frameLimit_lifted (os : Os) (started : os.Started) (H : Type) (enc : TypeId × Value → H) (F : Stop.Interp) :
    ReturnsInHanded {} Tryd.checked os 8 .any ((OpenSpec.ofChange Rows.frameLimitSpec).preRow enc Tryd.prog Tryd.f8 Rows.frameLimitRow.domain false Rows.frameLimitRow.laid) (((OpenSpec.ofChange Rows.frameLimitSpec).at F).post enc Tryd.prog Tryd.f8 false true false false) := by
  obtain ⟨places, hx⟩ := frameLimit_reads os enc
  refine returnsInHanded_of_row (C := Tryd.checked) (s := OpenSpec.ofChange Rows.frameLimitSpec) frameLimit_own started (by kernel_rfl) Tryd.func8
    (witness_row_at (enc := enc) (C := Tryd.checked) false (frameLimit_world os) #[.int .i64 0] rfl (by kernel_rfl) (by kernel_rfl) (by kernel_rfl)
      (OpenSpec.preRow_of_cond 8 hx (by kernel_rfl) (fun k hk => by cases hk) (by kernel_rfl) (frameLimit_met os))) ?_
  intro W base args ds gs before hval hW _ _ hsz hL _ _
  exact frameLimit_contract H enc W base args ds gs before hval hW hsz hL

theorem frameLimit_said : Rows.FrameLimitSaid :=
  OpenClaim.holds_of_cond 8 Tryd.f8 rfl rfl rfl rfl rfl rfl rfl ⟨rfl, rfl, rfl, rfl, rfl⟩ rfl rfl rfl rfl rfl (by kernel_rfl) Tryd.func8 (by kernel_rfl)
    (of_decide_eq_true (by kernel_rfl)) (by unfold Func.isWrapper; first | (rw [if_pos (by decide +kernel)]; kernel_rfl) | (rw [if_neg (by decide +kernel)]; exact ⟨rfl, rfl⟩))
    (fun os started H enc _ F => by rw [OpenClaim.pre_eq_preRow]; exact frameLimit_lifted os started H enc F)

theorem frameLimit_plain (f : FuncId) (fn : Func) (hf : Tryd.pinned.checked.prog.funcNamed Tryd.f8.name = some f) (hfn : Tryd.pinned.checked.prog.funcs[f]? = some fn) :
    false = Tryd.pinned.checked.prog.looks [] ∧ ∀ (j : Nat) t, fn.params[j]? = some t → Tryd.pinned.checked.prog.wantsStandIn t = false := by
  obtain rfl : f = 8 := Option.some.inj ((show Tryd.prog.funcNamed Tryd.f8.name = some 8 by kernel_rfl).symm.trans hf) |>.symm
  obtain rfl : fn = Tryd.f8 := (Option.some.inj (Tryd.func8.symm.trans hfn)).symm
  refine ⟨by kernel_rfl, fun j t ht => ?_⟩
  have hall : ∀ t ∈ Tryd.f8.params, Tryd.prog.wantsStandIn t = false := of_decide_eq_true (by kernel_rfl)
  exact hall t (Array.mem_of_getElem? ht)

theorem frameLimit_card : Rows.FrameLimitCardSaid :=
  Claim7.holds_tied_plain_at .later [] _ _ _ _ frameLimit_said (fun _ h => by cases h) (by kernel_rfl) (fun _ h => by cases h) frameLimit_row_tie rfl ⟨rfl, rfl⟩ (by kernel_rfl) rfl frameLimit_plain (by kernel_rfl)
#print axioms frameLimit_card

end Go.Proofs.YtblocggiljdamaaDoor
