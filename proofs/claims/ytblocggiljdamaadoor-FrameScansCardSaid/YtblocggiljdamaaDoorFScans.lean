/-
  FrameScans: for every slice of bytes the frames that stand at its beginning are what the reference tells; the law returns true, and what was there has not turned; the card's statement, its listed table tied to the program's text. No condition.
-/
import Derived.Lib.LaidTab
import Derived.Stop.LaidErr
import Derived.Deep.DeepHandedRow
import Derived.Test.YtblocggiljdamaaDoorCards
import Derived.Test.YtblocggiljdamaaDoorTie
import Derived.Test.YtblocggiljdamaaDoorProg
import Derived.Test.YtblocggiljdamaaDoorKit
import Derived.Test.YtblocggiljdamaaDoorLaw
import Derived.Test.YtblocggiljdamaaDoorRow
import Derived.Test.YtblocggiljdamaaDoorCod7
import Derived.Test.YtblocggiljdamaaDoorCod9
import Derived.Test.YtblocggiljdamaaDoorLaw2
import Derived.Test.YtblocggiljdamaaDoorFrm0
import Derived.Test.YtblocggiljdamaaDoorFrm3
import Derived.Test.YtblocggiljdamaaDoorFrm4
import Derived.Test.YtblocggiljdamaaDoorFrm6
import Derived.Test.YtblocggiljdamaaDoorFrm10
import Derived.Test.YtblocggiljdamaaDoorFrm11
import Derived.Test.YtblocggiljdamaaDoorFrm12
import Derived.Test.YtblocggiljdamaaDoorNibs
namespace Go.Proofs.YtblocggiljdamaaDoor
open Go.ChangeShapes Go.WideShapes Go.ChangeAt Go.RowKit Go.Proofs
open Go.ChangeMaps (open_string shut_string)

theorem scan_small : ∀ (f : Nat) (b : List UInt8), (scanS f b).1.length ≤ b.length ∧ ∀ p ∈ (scanS f b).1, p.length ≤ b.length
  | 0, b => by simp [scanS]
  | f + 1, b => by
    rw [scanS_succ]
    by_cases hb : b = []
    · rw [if_pos hb]; simp
    rw [if_neg hb]
    by_cases hk : (nextS b).2.2 ≠ 1
    · rw [if_pos hk]; simp
    rw [if_neg hk]
    have hk' := Classical.not_not.1 hk
    have hw := next_whole (b := b) (p := (nextS b).1) (n := (nextS b).2.1) (by rw [← hk'])
    have ih := scan_small f (b.drop (nextS b).2.1)
    rw [List.length_drop] at ih
    refine ⟨?_, fun p hp => ?_⟩
    · show (_ :: _ : List (List UInt8)).length ≤ _
      rw [List.length_cons]
      omega
    · rcases List.mem_cons.1 hp with rfl | hp
      · omega
      · have := ih.2 p hp; omega

set_option maxHeartbeats 1000000 in
theorem frameScans_any (v : Value) (l : List UInt8) (w : World) (hv : ByteSl w w.heap.size v l) (hl : l.length ≤ 140737488351232) (ht : NibAt w) :
    Calls Tryd.prog 5 #[v] w fun e w' => e = .returned (.bool true) ∧ Below w.heap.size w w' := by
  have HV := Lib.hid hv
  have HSX := Lib.hid (fun (h : l.length ≤ 4000) => scan_any l v w hv ht (by omega))
  have HRX := Lib.hid (fun (h : l.length ≤ 4000) (W : World) (hb : Below w.heap.size w W) => refscan_any l v W ((HV.out.keep hb (Nat.le_refl _)).more3 hb.size) (by omega))
  have hsm := scan_small (l.length + 1) l
  obtain ⟨a, c, rfl, _⟩ := byteSl_len hv
  obtain ⟨N, hN⟩ : ∃ N, N = l.length := ⟨_, rfl⟩
  change (scanAll l).1.length ≤ _ ∧ ∀ p ∈ (scanAll l).1, _ at hsm
  rw [← hN] at HSX HRX hl hsm ⊢
  obtain ⟨⟨P1, M1, K1⟩, hq⟩ : ∃ q, q = scanAll l := ⟨_, rfl⟩
  rw [← hq] at hsm
  have HSM := Lib.hid hsm
  have HT := Lib.hid ht
  have HQ := Lib.hid hq
  have hl2 : (N : Int) ≤ 140737488351232 := by omega
  clear hv hN ht hq hsm hl HV
  go_enter Tryd.func5, Tryd.ntmps5
  by_cases h4 : (4000 : Int) < (N : Int)
  · go_wp2_with fail
    refine (awake3_any _ HT.out).mono ?_
    rintro e w' ⟨rfl, hb1⟩
    have HB := Lib.hid hb1
    clear hb1
    go_wp2
    go_ret
    exact ⟨rfl, HB.out⟩
  have HNB : Hid (N ≤ 4000) := Lib.hid (by omega)
  go_wp2_with fail
  refine (HSX.out HNB.out).mono ?_
  rintro e w1 ⟨⟨v1, rfl, hr1⟩, hb1⟩
  rw [← HQ.out] at hr1 ⊢
  have HR1 := Lib.hid hr1
  have HB1 := Lib.hid hb1
  clear hr1 hb1 HSX
  go_wp2_with fail
  refine (HRX.out HNB.out w1 HB1.out).mono ?_
  rintro e w2 ⟨⟨v2, rfl, hr2⟩, hb2⟩
  rw [← HQ.out] at hr2 ⊢
  have hr1' := rowsOf_keep HR1.out hb2
  have HB2 := Lib.hid (below_then HB1.out hb2)
  have HBY := Lib.hid (rows_same P1 v1 v2 w2 (by have := HSM.out.1; have := HNB.out; simp only at *; omega) (fun p hp => by have := HSM.out.2 p hp; have := HNB.out; omega) (rowsOf_at hr1') (rowsOf_at hr2))
  obtain ⟨a1, c1, rfl, _⟩ := rowsOf_at hr1'
  obtain ⟨a2, c2, rfl, _⟩ := rowsOf_at hr2
  clear hr1' hr2 hb2 HR1 HB1 HRX
  go_wp2_with fail
  refine (HBY.out).mono ?_
  rintro e w3 ⟨rfl, hd3⟩
  have HB3 := Lib.hid (below_draws HB2.out hd3)
  clear hd3 HBY HB2
  go_wp2_with fail
  refine (awake3_any _ (nib_stay HT.out HB3.out)).mono ?_
  rintro e w4 ⟨rfl, hb4⟩
  have HB4 := Lib.hid (below_then HB3.out hb4)
  clear hb4
  go_wp2
  go_ret
  exact ⟨rfl, HB4.out⟩

theorem frameScans_own : ownKnob Tryd.prog.godebug = none := by kernel_rfl

theorem frameScans_bytesByte : Tryd.prog.bytesOf 5 = 1 := by kernel_rfl

theorem frameScans_contract (H : Type) (enc : TypeId × Value → H) (W : World) (base : Nat) (args : Array Value) (ds gs : List (DataW H)) (before : List MemPlace)
    (hval0 : ∀ (j : Nat) t v, Tryd.f5.params[j]? = some t → args[j]? = some v → Value.okWide Tryd.prog W .any base t v)
    (hW : DataW.Whole enc Tryd.prog Tryd.f5.params.toList Rows.frameScansSpec.vars false W args.toList ds gs before) {vt : List TypeId}
    (hsz0 : (DataW.weightsEach Tryd.prog (Tryd.f5.params.toList ++ vt) (ds ++ gs)).all (· ≤ reachBytes) = true) (hL : laidMetH Tryd.prog Rows.frameScansRow.laid W) :
    Calls Tryd.prog 5 args W fun e W' => ∃ v, e = .returned v ∧ Rows.frameScansSpec.post enc Tryd.prog Tryd.f5 false true false false W args v W' := by
  refine law_contract (by kernel_rfl) (of_decide_eq_true (by kernel_rfl)) (tb := 4) (by kernel_rfl) Tryd.underlying4 rfl (fun ds h => by match ds, h with | [d0], _ => exact ⟨rfl, rfl, rfl⟩) hW hsz0 ?_
  intro p hA0 hlt hszz
  have hval := hval0
  have hA : DataW.TrodAll enc Tryd.prog W 0 (fun _ => true) true Tryd.f5.params.toList args.toList ds p := hA0
  have hsz : (DataW.weightsEach Tryd.prog Tryd.f5.params.toList ds).all (· ≤ reachBytes) = true := hszz
  clear hval0 hA0 hszz hsz0 hW
  rw [Tryd.params5] at hA hval hsz
  obtain ⟨v0, vs0, d0, ds0, p0, q0, hargs, rfl, rfl, h0, r0⟩ := trodAll_cons hA
  obtain ⟨rfl, rfl, rfl⟩ := trodAll_nil r0
  obtain rfl : args = #[v0] := by cases args; simp_all
  have s0 := sized_at hsz (j := 0) (t := 23) (d := d0) rfl rfl
  obtain ⟨a0, g0, z0⟩ := open_bytes Tryd.underlying23 Tryd.underlying5 (by kernel_rfl) frameScans_bytesByte (hval 0 23 v0 rfl rfl) h0 s0
  exact frameScans_any (w := W) v0 a0 g0 z0 (nib_of hL)

noncomputable def frameScans_world (os : Os) : World := laidIn Tryd.prog Rows.frameScansRow.laid (World.holding Tryd.prog os ⟨#[], #[], []⟩)

theorem frameScans_met (os : Os) : laidMet Tryd.prog Rows.frameScansRow.laid ((frameScans_world os).forCall (fun _ _ => 0) ⟨#[], #[.slice none 0 0], []⟩).memory :=
  laidMet_of_run' 8 (by kernel_rfl) (by kernel_rfl)

theorem frameScans_reads (os : Os) {H : Type} (enc : TypeId × Value → H) : ∃ places, DataW.whole enc Tryd.prog ((frameScans_world os).forCall (fun _ _ => 0) ⟨#[], #[.slice none 0 0], []⟩).memory Tryd.f5.params.toList Rows.frameScansSpec.vars false (#[.slice none 0 0] : Array Value).toList 8 = some ([.nil], [], places) :=
  ⟨[], by kernel_rfl⟩

set_option maxRecDepth 100000 in
theorem frameScans_lifted (os : Os) (started : os.Started) (H : Type) (enc : TypeId × Value → H) (F : Stop.Interp) :
    ReturnsInHanded {} Tryd.checked os 5 .any ((OpenSpec.ofChange Rows.frameScansSpec).preRow enc Tryd.prog Tryd.f5 Rows.frameScansRow.domain false Rows.frameScansRow.laid) (((OpenSpec.ofChange Rows.frameScansSpec).at F).post enc Tryd.prog Tryd.f5 false true false false) := by
  obtain ⟨places, hx⟩ := frameScans_reads os enc
  refine returnsInHanded_of_row (C := Tryd.checked) (s := OpenSpec.ofChange Rows.frameScansSpec) frameScans_own started (by kernel_rfl) Tryd.func5
    (witness_row_at (enc := enc) (C := Tryd.checked) false (frameScans_world os) #[.slice none 0 0] rfl (by kernel_rfl) (by kernel_rfl) (by kernel_rfl)
      (OpenSpec.preRow_of_cond 8 hx (by kernel_rfl) (fun k hk => by cases hk) (by kernel_rfl) (frameScans_met os))) ?_
  intro W base args ds gs before hval hW _ _ hsz hL _ _
  exact frameScans_contract H enc W base args ds gs before hval hW hsz hL

theorem frameScans_said : Rows.FrameScansSaid :=
  OpenClaim.holds_of_cond 5 Tryd.f5 rfl rfl rfl rfl rfl rfl rfl ⟨rfl, rfl, rfl, rfl, rfl⟩ rfl rfl rfl rfl rfl (by kernel_rfl) Tryd.func5 (by kernel_rfl)
    (of_decide_eq_true (by kernel_rfl)) (by unfold Func.isWrapper; first | (rw [if_pos (by decide +kernel)]; kernel_rfl) | (rw [if_neg (by decide +kernel)]; exact ⟨rfl, rfl⟩))
    (fun os started H enc _ F => by rw [OpenClaim.pre_eq_preRow]; exact frameScans_lifted os started H enc F)

theorem frameScans_plain (f : FuncId) (fn : Func) (hf : Tryd.pinned.checked.prog.funcNamed Tryd.f5.name = some f) (hfn : Tryd.pinned.checked.prog.funcs[f]? = some fn) :
    false = Tryd.pinned.checked.prog.looks [] ∧ ∀ (j : Nat) t, fn.params[j]? = some t → Tryd.pinned.checked.prog.wantsStandIn t = false := by
  obtain rfl : f = 5 := Option.some.inj ((show Tryd.prog.funcNamed Tryd.f5.name = some 5 by kernel_rfl).symm.trans hf) |>.symm
  obtain rfl : fn = Tryd.f5 := (Option.some.inj (Tryd.func5.symm.trans hfn)).symm
  refine ⟨by kernel_rfl, fun j t ht => ?_⟩
  have hall : ∀ t ∈ Tryd.f5.params, Tryd.prog.wantsStandIn t = false := of_decide_eq_true (by kernel_rfl)
  exact hall t (Array.mem_of_getElem? ht)

theorem frameScans_card : Rows.FrameScansCardSaid :=
  Claim7.holds_tied_plain_at .later [] _ _ _ _ frameScans_said (fun _ h => by cases h) (by kernel_rfl) (fun _ h => by cases h) frameScans_row_tie rfl ⟨rfl, rfl⟩ (by kernel_rfl) rfl frameScans_plain (by kernel_rfl)
#print axioms frameScans_card

end Go.Proofs.YtblocggiljdamaaDoor
