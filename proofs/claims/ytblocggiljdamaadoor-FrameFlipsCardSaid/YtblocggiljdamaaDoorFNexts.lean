/-
  FrameNexts: for every slice of bytes what is read at its beginning is what the reference reads there; the law returns true, and what was there has not turned; the card's statement, its listed table tied to the program's text. No condition.
-/
import Derived.Lib.LaidTab
import Derived.Stop.LaidErr
import Derived.Deep.DeepHandedRow
import Derived.Test.YtblocggiljdamaaDoorCards
import Derived.Test.YtblocggiljdamaaDoorTie
import Derived.Test.YtblocggiljdamaaDoorProg
import Derived.Test.YtblocggiljdamaaDoorKit
import Derived.Test.YtblocggiljdamaaDoorLaw
import Derived.Test.YtblocggiljdamaaDoorRow
import Derived.Test.YtblocggiljdamaaDoorCod7
import Derived.Test.YtblocggiljdamaaDoorCod9
import Derived.Test.YtblocggiljdamaaDoorLaw2
import Derived.Test.YtblocggiljdamaaDoorFrm0
import Derived.Test.YtblocggiljdamaaDoorFrm3
import Derived.Test.YtblocggiljdamaaDoorFrm4
import Derived.Test.YtblocggiljdamaaDoorFrm6
import Derived.Test.YtblocggiljdamaaDoorFrm8
import Derived.Test.YtblocggiljdamaaDoorFrm9
import Derived.Test.YtblocggiljdamaaDoorFrm12
import Derived.Test.YtblocggiljdamaaDoorNibs
namespace Go.Proofs.YtblocggiljdamaaDoor
open Go.ChangeShapes Go.WideShapes Go.ChangeAt Go.RowKit Go.Proofs
open Go.ChangeMaps (open_string shut_string)

theorem next_small (l : List UInt8) : (nextS l).1.length ≤ l.length := by
  unfold nextS
  split
  · simp
  · split
    · simp
    · split
      · simp
      · split
        · simp
        · simp; omega

set_option maxHeartbeats 400000 in
theorem frameNexts_any (v : Value) (l : List UInt8) (w : World) (hv : ByteSl w w.heap.size v l) (hl : l.length ≤ 140737488351232) (ht : NibAt w) :
    Calls Tryd.prog 4 #[v] w fun e w' => e = .returned (.bool true) ∧ Below w.heap.size w w' := by
  have HNX := Lib.hid (next_any l v w hv ht (by omega))
  have HRX := Lib.hid (fun (W : World) (hb : Below w.heap.size w W) => refnext_any l v W ((hv.keep hb (Nat.le_refl _)).more3 hb.size) hl)
  obtain ⟨a, c, rfl, _⟩ := byteSl_len hv
  obtain ⟨N, hN⟩ : ∃ N, N = l.length := ⟨_, rfl⟩
  rw [← hN] at HNX HRX hl ⊢
  have HN := Lib.hid hN
  have HT := Lib.hid ht
  obtain ⟨⟨P1, M1, K1⟩, hq⟩ : ∃ q, q = nextS l := ⟨_, rfl⟩
  have hpl : P1.length < 9223372036854775807 := by have := next_small l; rw [← hq] at this; exact Nat.lt_of_le_of_lt this (by omega)
  have HPL := Lib.hid hpl
  have HQ := Lib.hid hq
  clear hq hpl
  clear hv hN ht
  go_enter Tryd.func4, Tryd.ntmps4
  by_cases h4 : (4000 : Int) < (N : Int)
  · go_wp2_with fail
    refine (awake3_any _ HT.out).mono ?_
    rintro e w' ⟨rfl, hb1⟩
    have HB := Lib.hid hb1
    clear hb1
    go_wp2
    go_ret
    exact ⟨rfl, HB.out⟩
  have HNB : Hid (N ≤ 4000) := Lib.hid (by omega)
  go_wp2_with fail
  refine (HNX.out).mono ?_
  rintro e w1 ⟨⟨v1, rfl, hown1⟩, hb1⟩
  rw [← HQ.out] at hown1 ⊢
  have HO1 := Lib.hid hown1
  have HB1 := Lib.hid hb1
  clear hown1 hb1 HNX
  go_wp2_with fail
  refine (HRX.out w1 HB1.out).mono ?_
  rintro e w2 ⟨⟨v2, rfl, hown2⟩, hb2⟩
  rw [← HQ.out] at hown2 ⊢
  have hown1' := own_below HO1.out hb2
  have HB2 := Lib.hid (below_then HB1.out hb2)
  have HBY := Lib.hid (bytes_same P1 v1 v2 w2 HPL.out (own_sliceAt hown1') (own_sliceAt hown2))
  obtain ⟨a1, c1, rfl⟩ := own_len hown1'
  obtain ⟨a2, c2, rfl⟩ := own_len hown2
  clear hown1' hown2 hb2 HO1 HB1 HRX
  go_wp2_with fail
  refine (HBY.out).mono ?_
  rintro e w3 ⟨rfl, hd3⟩
  have HB3 := Lib.hid (below_draws HB2.out hd3)
  clear hd3 HBY HB2
  go_wp2_with fail
  refine (awake3_any _ (nib_stay HT.out HB3.out)).mono ?_
  rintro e w4 ⟨rfl, hb4⟩
  have HB4 := Lib.hid (below_then HB3.out hb4)
  clear hb4
  go_wp2
  go_ret
  exact ⟨rfl, HB4.out⟩

theorem frameNexts_own : ownKnob Tryd.prog.godebug = none := by kernel_rfl

theorem frameNexts_bytesByte : Tryd.prog.bytesOf 5 = 1 := by kernel_rfl

theorem frameNexts_contract (H : Type) (enc : TypeId × Value → H) (W : World) (base : Nat) (args : Array Value) (ds gs : List (DataW H)) (before : List MemPlace)
    (hval0 : ∀ (j : Nat) t v, Tryd.f4.params[j]? = some t → args[j]? = some v → Value.okWide Tryd.prog W .any base t v)
    (hW : DataW.Whole enc Tryd.prog Tryd.f4.params.toList Rows.frameNextsSpec.vars false W args.toList ds gs before) {vt : List TypeId}
    (hsz0 : (DataW.weightsEach Tryd.prog (Tryd.f4.params.toList ++ vt) (ds ++ gs)).all (· ≤ reachBytes) = true) (hL : laidMetH Tryd.prog Rows.frameNextsRow.laid W) :
    Calls Tryd.prog 4 args W fun e W' => ∃ v, e = .returned v ∧ Rows.frameNextsSpec.post enc Tryd.prog Tryd.f4 false true false false W args v W' := by
  refine law_contract (by kernel_rfl) (of_decide_eq_true (by kernel_rfl)) (tb := 4) (by kernel_rfl) Tryd.underlying4 rfl (fun ds h => by match ds, h with | [d0], _ => exact ⟨rfl, rfl, rfl⟩) hW hsz0 ?_
  intro p hA0 hlt hszz
  have hval := hval0
  have hA : DataW.TrodAll enc Tryd.prog W 0 (fun _ => true) true Tryd.f4.params.toList args.toList ds p := hA0
  have hsz : (DataW.weightsEach Tryd.prog Tryd.f4.params.toList ds).all (· ≤ reachBytes) = true := hszz
  clear hval0 hA0 hszz hsz0 hW
  rw [Tryd.params4] at hA hval hsz
  obtain ⟨v0, vs0, d0, ds0, p0, q0, hargs, rfl, rfl, h0, r0⟩ := trodAll_cons hA
  obtain ⟨rfl, rfl, rfl⟩ := trodAll_nil r0
  obtain rfl : args = #[v0] := by cases args; simp_all
  have s0 := sized_at hsz (j := 0) (t := 23) (d := d0) rfl rfl
  obtain ⟨a0, g0, z0⟩ := open_bytes Tryd.underlying23 Tryd.underlying5 (by kernel_rfl) frameNexts_bytesByte (hval 0 23 v0 rfl rfl) h0 s0
  exact frameNexts_any (w := W) v0 a0 g0 z0 (nib_of hL)

noncomputable def frameNexts_world (os : Os) : World := laidIn Tryd.prog Rows.frameNextsRow.laid (World.holding Tryd.prog os ⟨#[], #[], []⟩)

theorem frameNexts_met (os : Os) : laidMet Tryd.prog Rows.frameNextsRow.laid ((frameNexts_world os).forCall (fun _ _ => 0) ⟨#[], #[.slice none 0 0], []⟩).memory :=
  laidMet_of_run' 8 (by kernel_rfl) (by kernel_rfl)

theorem frameNexts_reads (os : Os) {H : Type} (enc : TypeId × Value → H) : ∃ places, DataW.whole enc Tryd.prog ((frameNexts_world os).forCall (fun _ _ => 0) ⟨#[], #[.slice none 0 0], []⟩).memory Tryd.f4.params.toList Rows.frameNextsSpec.vars false (#[.slice none 0 0] : Array Value).toList 8 = some ([.nil], [], places) :=
  ⟨[], by kernel_rfl⟩

set_option maxRecDepth 100000 in
theorem frameNexts_lifted (os : Os) (started : os.Started) (H : Type) (enc : TypeId × Value → H) (F : Stop.Interp) :
    ReturnsInHanded {} Tryd.checked os 4 .any ((OpenSpec.ofChange Rows.frameNextsSpec).preRow enc Tryd.prog Tryd.f4 Rows.frameNextsRow.domain false Rows.frameNextsRow.laid) (((OpenSpec.ofChange Rows.frameNextsSpec).at F).post enc Tryd.prog Tryd.f4 false true false false) := by
  obtain ⟨places, hx⟩ := frameNexts_reads os enc
  refine returnsInHanded_of_row (C := Tryd.checked) (s := OpenSpec.ofChange Rows.frameNextsSpec) frameNexts_own started (by kernel_rfl) Tryd.func4
    (witness_row_at (enc := enc) (C := Tryd.checked) false (frameNexts_world os) #[.slice none 0 0] rfl (by kernel_rfl) (by kernel_rfl) (by kernel_rfl)
      (OpenSpec.preRow_of_cond 8 hx (by kernel_rfl) (fun k hk => by cases hk) (by kernel_rfl) (frameNexts_met os))) ?_
  intro W base args ds gs before hval hW _ _ hsz hL _ _
  exact frameNexts_contract H enc W base args ds gs before hval hW hsz hL

theorem frameNexts_said : Rows.FrameNextsSaid :=
  OpenClaim.holds_of_cond 4 Tryd.f4 rfl rfl rfl rfl rfl rfl rfl ⟨rfl, rfl, rfl, rfl, rfl⟩ rfl rfl rfl rfl rfl (by kernel_rfl) Tryd.func4 (by kernel_rfl)
    (of_decide_eq_true (by kernel_rfl)) (by unfold Func.isWrapper; first | (rw [if_pos (by decide +kernel)]; kernel_rfl) | (rw [if_neg (by decide +kernel)]; exact ⟨rfl, rfl⟩))
    (fun os started H enc _ F => by rw [OpenClaim.pre_eq_preRow]; exact frameNexts_lifted os started H enc F)

theorem frameNexts_plain (f : FuncId) (fn : Func) (hf : Tryd.pinned.checked.prog.funcNamed Tryd.f4.name = some f) (hfn : Tryd.pinned.checked.prog.funcs[f]? = some fn) :
    false = Tryd.pinned.checked.prog.looks [] ∧ ∀ (j : Nat) t, fn.params[j]? = some t → Tryd.pinned.checked.prog.wantsStandIn t = false := by
  obtain rfl : f = 4 := Option.some.inj ((show Tryd.prog.funcNamed Tryd.f4.name = some 4 by kernel_rfl).symm.trans hf) |>.symm
  obtain rfl : fn = Tryd.f4 := (Option.some.inj (Tryd.func4.symm.trans hfn)).symm
  refine ⟨by kernel_rfl, fun j t ht => ?_⟩
  have hall : ∀ t ∈ Tryd.f4.params, Tryd.prog.wantsStandIn t = false := of_decide_eq_true (by kernel_rfl)
  exact hall t (Array.mem_of_getElem? ht)

theorem frameNexts_card : Rows.FrameNextsCardSaid :=
  Claim7.holds_tied_plain_at .later [] _ _ _ _ frameNexts_said (fun _ h => by cases h) (by kernel_rfl) (fun _ h => by cases h) frameNexts_row_tie rfl ⟨rfl, rfl⟩ (by kernel_rfl) rfl frameNexts_plain (by kernel_rfl)
#print axioms frameNexts_card

end Go.Proofs.YtblocggiljdamaaDoor
