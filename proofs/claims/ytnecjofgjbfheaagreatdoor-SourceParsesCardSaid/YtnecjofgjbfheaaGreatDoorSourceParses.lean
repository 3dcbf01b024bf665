/-
  SourceParses: any text is read as the source expression that the reference reads, or none; the card's statement, its listed tables tied to the program's text. No condition.
-/
import Derived.Stop.LaidErr
import Derived.Deep.DeepHandedRow
import Derived.Test.YtnecjofgjbfheaaGreatDoorCards
import Derived.Test.YtnecjofgjbfheaaGreatDoorTie
import Derived.Test.YtnecjofgjbfheaaGreatDoorProg
import Derived.Test.YtnecjofgjbfheaaGreatDoorKit
import Derived.Test.YtnecjofgjbfheaaGreatDoorLaw
import Derived.Test.YtnecjofgjbfheaaGreatDoorRow
import Derived.Test.YtnecjofgjbfheaaGreatDoorHst1
import Derived.Test.YtnecjofgjbfheaaGreatDoorSrc0
import Derived.Test.YtnecjofgjbfheaaGreatDoorSrc8
import Derived.Test.YtnecjofgjbfheaaGreatDoorSrc10
import Derived.Test.YtnecjofgjbfheaaGreatDoorSrc16
namespace Go.Proofs.YtnecjofgjbfheaaGreatDoor
open Go.ChangeShapes Go.WideShapes Go.ChangeAt Go.RowKit Go.Proofs
open Go.ChangeMaps (open_string shut_string)
set_option maxRecDepth 100000

set_option maxHeartbeats 4000000 in
theorem sourceParses_any (s : ByteArray) (hs : s.size ≤ 140737488351232) (w : World) (hT : Tab10 w) :
    Calls Tryz.prog 3 #[.string s] w fun e w' => e = .returned (.bool true) ∧ Below w.heap.size w w' := by
  have HT := Lib.hid hT
  have HB0 := Lib.hid (Below.refl w.heap.size w)
  clear hT
  by_cases hlong : 600 < (s.size : Int)
  · go_enter Tryz.func3, Tryz.ntmps3
    go_wp2_with fail
    refine (sawake_any _ HT.out).mono ?_
    rintro e w' ⟨rfl, hb1⟩
    go_wp2
    go_ret
    exact ⟨rfl, hb1⟩
  · have C1 := Lib.hid (fun W => sparse_any s (by omega) W)
    have C2 := Lib.hid (fun W => rsource_any s (by omega) W)
    obtain ⟨E, hE⟩ : ∃ E, E = srcP s.data.toList := ⟨_, rfl⟩
    rw [← hE] at C1 C2
    obtain ⟨k, hk⟩ : ∃ k, k = E.ek := ⟨_, rfl⟩
    obtain ⟨e1, he1⟩ : ∃ e1 : ByteArray, e1 = ⟨E.esc.toArray⟩ := ⟨_, rfl⟩
    obtain ⟨e2, he2⟩ : ∃ e2 : ByteArray, e2 = ⟨E.eho.toArray⟩ := ⟨_, rfl⟩
    obtain ⟨e3, he3⟩ : ∃ e3 : ByteArray, e3 = ⟨E.epo.toArray⟩ := ⟨_, rfl⟩
    obtain ⟨e4, he4⟩ : ∃ e4 : ByteArray, e4 = ⟨E.epa.toArray⟩ := ⟨_, rfl⟩
    have hev : expV E = .agg #[.int .i64 k, .string e1, .string e2, .string e3, .string e4] := by rw [hk, he1, he2, he3, he4]; rfl
    rw [hev] at C1 C2
    have C3 := Lib.hid (fun W => sexprl_any k e1 e2 e3 e4 W)
    have EQ : ∀ W, (binOp .eql 24 (.agg #[.int .i64 k, .string e1, .string e2, .string e3, .string e4]) (.agg #[.int .i64 k, .string e1, .string e2, .string e3, .string e4])).run Tryz.prog W = .ok (.bool true) W := fun W => by rw [expEq]; simp
    clear hE hk he1 he2 he3 he4 hev
    go_enter Tryz.func3, Tryz.ntmps3
    go_wp2_with fail
    refine (C1.out _).mono ?_
    rintro e w1 ⟨rfl, hb⟩
    have HB_1 := Lib.hid (below_then HB0.out hb)
    clear hb
    go_wp2_with fail
    refine (C2.out _).mono ?_
    rintro e w2 ⟨rfl, hb⟩
    have HB_2 := Lib.hid (below_then HB_1.out hb)
    clear hb
    go_wp2_with fail
    refine (C3.out _).mono ?_
    rintro e w3 ⟨rfl, hb⟩
    have HB_3 := Lib.hid (below_then HB_2.out hb)
    clear hb
    go_wp2_with fail
    refine (sawake_any _ (tab10_below HT.out HB_3.out)).mono ?_
    rintro e w4 ⟨rfl, hb⟩
    have HB_4 := Lib.hid (below_then HB_3.out hb)
    clear hb
    go_wp2_with fail
    go_ret
    exact ⟨rfl, HB_4.out⟩

theorem sourceParses_own : ownKnob Tryz.prog.godebug = none := by kernel_rfl

theorem sourceParses_contract (H : Type) (enc : TypeId × Value → H) (W : World) (base : Nat) (args : Array Value) (ds gs : List (DataW H)) (before : List MemPlace)
    (hval0 : ∀ (j : Nat) t v, Tryz.f3.params[j]? = some t → args[j]? = some v → Value.okWide Tryz.prog W .any base t v)
    (hW : DataW.Whole enc Tryz.prog Tryz.f3.params.toList Rows.sourceParsesSpec.vars false W args.toList ds gs before) {vt : List TypeId}
    (hsz0 : (DataW.weightsEach Tryz.prog (Tryz.f3.params.toList ++ vt) (ds ++ gs)).all (· ≤ reachBytes) = true) (hL : laidMetH Tryz.prog Rows.sourceParsesRow.laid W) :
    Calls Tryz.prog 3 args W fun e W' => ∃ v, e = .returned v ∧ Rows.sourceParsesSpec.post enc Tryz.prog Tryz.f3 false true false false W args v W' := by
  refine law_contract (by kernel_rfl) (of_decide_eq_true (by kernel_rfl)) (tb := 4) (by kernel_rfl) Tryz.underlying4 rfl (fun ds h => by match ds, h with | [d0], _ => exact ⟨rfl, rfl, rfl⟩) hW hsz0 ?_
  intro p hA0 hlt hszz
  have hval := hval0
  have hA : DataW.TrodAll enc Tryz.prog W 0 (fun _ => true) true Tryz.f3.params.toList args.toList ds p := hA0
  have hsz : (DataW.weightsEach Tryz.prog Tryz.f3.params.toList ds).all (· ≤ reachBytes) = true := hszz
  clear hval0 hA0 hszz hsz0 hW
  rw [Tryz.params3] at hA hval hsz
  obtain ⟨v0, vs0, d0, ds0, p0, q0, hargs, rfl, rfl, h0, r0⟩ := trodAll_cons hA
  obtain ⟨rfl, rfl, rfl⟩ := trodAll_nil r0
  obtain rfl : args = #[v0] := by cases args; simp_all
  obtain ⟨a0, rfl, rfl, rfl, w0⟩ := open_string Tryz.underlying9 (hval 0 9 v0 rfl rfl) h0
  have z0 := sized_string hsz (j := 0) rfl rfl
  rw [size_data] at z0
  exact sourceParses_any (w := W) a0 z0 (tab10_of15 hL)

noncomputable def sourceParses_world (os : Os) : World := laidIn Tryz.prog Rows.sourceParsesRow.laid (World.holding Tryz.prog os ⟨#[], #[], []⟩)

theorem sourceParses_met (os : Os) : laidMet Tryz.prog Rows.sourceParsesRow.laid ((sourceParses_world os).forCall (fun _ _ => 0) ⟨#[], #[.string ByteArray.empty], []⟩).memory :=
  laidMet_of_run' 8 (by kernel_rfl) (by kernel_rfl)

theorem sourceParses_reads (os : Os) {H : Type} (enc : TypeId × Value → H) : ∃ places, DataW.whole enc Tryz.prog ((sourceParses_world os).forCall (fun _ _ => 0) ⟨#[], #[.string ByteArray.empty], []⟩).memory Tryz.f3.params.toList Rows.sourceParsesSpec.vars false (#[.string ByteArray.empty] : Array Value).toList 8 = some ([.lit (.string [])], [], places) :=
  ⟨[], by kernel_rfl⟩

set_option maxRecDepth 100000 in
theorem sourceParses_lifted (os : Os) (started : os.Started) (H : Type) (enc : TypeId × Value → H) (F : Stop.Interp) :
    ReturnsInHanded {} Tryz.checked os 3 .any ((OpenSpec.ofChange Rows.sourceParsesSpec).preRow enc Tryz.prog Tryz.f3 Rows.sourceParsesRow.domain false Rows.sourceParsesRow.laid) (((OpenSpec.ofChange Rows.sourceParsesSpec).at F).post enc Tryz.prog Tryz.f3 false true false false) := by
  obtain ⟨places, hx⟩ := sourceParses_reads os enc
  refine returnsInHanded_of_row (C := Tryz.checked) (s := OpenSpec.ofChange Rows.sourceParsesSpec) sourceParses_own started (by kernel_rfl) Tryz.func3
    (witness_row_at (enc := enc) (C := Tryz.checked) false (sourceParses_world os) #[.string ByteArray.empty] rfl (by kernel_rfl) (by kernel_rfl) (by kernel_rfl)
      (OpenSpec.preRow_of_cond 8 hx (by kernel_rfl) (fun k hk => by cases hk) (by kernel_rfl) (sourceParses_met os))) ?_
  intro W base args ds gs before hval hW _ _ hsz hL _ _
  exact sourceParses_contract H enc W base args ds gs before hval hW hsz hL

theorem sourceParses_said : Rows.SourceParsesSaid :=
  OpenClaim.holds_of_cond 3 Tryz.f3 rfl rfl rfl rfl rfl rfl rfl ⟨rfl, rfl, rfl, rfl, rfl⟩ rfl rfl rfl rfl rfl (by kernel_rfl) Tryz.func3 (by kernel_rfl)
    (of_decide_eq_true (by kernel_rfl)) (by unfold Func.isWrapper; first | (rw [if_pos (by decide +kernel)]; kernel_rfl) | (rw [if_neg (by decide +kernel)]; exact ⟨rfl, rfl⟩))
    (fun os started H enc _ F => by rw [OpenClaim.pre_eq_preRow]; exact sourceParses_lifted os started H enc F)

theorem sourceParses_plain (f : FuncId) (fn : Func) (hf : Tryz.pinned.checked.prog.funcNamed Tryz.f3.name = some f) (hfn : Tryz.pinned.checked.prog.funcs[f]? = some fn) :
    false = Tryz.pinned.checked.prog.looks [] ∧ ∀ (j : Nat) t, fn.params[j]? = some t → Tryz.pinned.checked.prog.wantsStandIn t = false := by
  obtain rfl : f = 3 := Option.some.inj ((show Tryz.prog.funcNamed Tryz.f3.name = some 3 by kernel_rfl).symm.trans hf) |>.symm
  obtain rfl : fn = Tryz.f3 := (Option.some.inj (Tryz.func3.symm.trans hfn)).symm
  refine ⟨by kernel_rfl, fun j t ht => ?_⟩
  have hall : ∀ t ∈ Tryz.f3.params, Tryz.prog.wantsStandIn t = false := of_decide_eq_true (by kernel_rfl)
  exact hall t (Array.mem_of_getElem? ht)

theorem sourceParses_card : Rows.SourceParsesCardSaid :=
  Claim7.holds_tied_plain_at .later [] _ _ _ _ sourceParses_said (fun _ h => by cases h) (by kernel_rfl) (fun _ h => by cases h) sourceParses_row_tie rfl ⟨rfl, rfl⟩ (by kernel_rfl) rfl sourceParses_plain (by kernel_rfl)
#print axioms sourceParses_card

end Go.Proofs.YtnecjofgjbfheaaGreatDoor
