/-
  UrlTexts: any URL is written as the reference writes it, and its port and its scheme's are told as by the reference; the card's statement, its listed tables tied to the program's text. No condition.
-/
import Derived.Stop.LaidErr
import Derived.Deep.DeepHandedRow
import Derived.Test.YtinocdddihjfeaaGreatDoorCards
import Derived.Test.YtinocdddihjfeaaGreatDoorTie
import Derived.Test.YtinocdddihjfeaaGreatDoorProg
import Derived.Test.YtinocdddihjfeaaGreatDoorKit
import Derived.Test.YtinocdddihjfeaaGreatDoorLaw
import Derived.Test.YtinocdddihjfeaaGreatDoorRow
import Derived.Test.YtinocdddihjfeaaGreatDoorUrl12
import Derived.Test.YtinocdddihjfeaaGreatDoorOrg8
import Derived.Test.YtinocdddihjfeaaGreatDoorUrl23
namespace Go.Proofs.YtinocdddihjfeaaGreatDoor
open Go.ChangeShapes Go.WideShapes Go.ChangeAt Go.RowKit Go.Proofs
open Go.ChangeMaps (open_string shut_string)
set_option maxRecDepth 100000

theorem urlTexts_own : ownKnob Tryz.prog.godebug = none := by kernel_rfl

theorem urlTexts_contract (H : Type) (enc : TypeId × Value → H) (W : World) (base : Nat) (args : Array Value) (ds gs : List (DataW H)) (before : List MemPlace)
    (hval0 : ∀ (j : Nat) t v, Tryz.f4.params[j]? = some t → args[j]? = some v → Value.okWide Tryz.prog W .any base t v)
    (hW : DataW.Whole enc Tryz.prog Tryz.f4.params.toList Rows.urlTextsSpec.vars false W args.toList ds gs before) {vt : List TypeId}
    (hsz0 : (DataW.weightsEach Tryz.prog (Tryz.f4.params.toList ++ vt) (ds ++ gs)).all (· ≤ reachBytes) = true) (hL : laidMetH Tryz.prog Rows.urlTextsRow.laid W) (hS : W.ShapedOpen Tryz.prog) :
    Calls Tryz.prog 4 args W fun e W' => ∃ v, e = .returned v ∧ Rows.urlTextsSpec.post enc Tryz.prog Tryz.f4 false true false false W args v W' := by
  refine law_contract (by kernel_rfl) (of_decide_eq_true (by kernel_rfl)) (tb := 4) (by kernel_rfl) Tryz.underlying4 rfl (fun ds h => by match ds, h with | [d0], _ => exact ⟨rfl, rfl, rfl⟩) hW hsz0 ?_
  intro p hA0 hlt hszz
  have hval := hval0
  have hA : DataW.TrodAll enc Tryz.prog W 0 (fun _ => true) true Tryz.f4.params.toList args.toList ds p := hA0
  have hsz : (DataW.weightsEach Tryz.prog Tryz.f4.params.toList ds).all (· ≤ reachBytes) = true := hszz
  clear hval0 hA0 hszz hsz0 hW
  rw [Tryz.params4] at hA hval hsz
  obtain ⟨v0, vs0, d0, ds0, p0, q0, hargs, rfl, rfl, h0, r0⟩ := trodAll_cons hA
  obtain ⟨rfl, rfl, rfl⟩ := trodAll_nil r0
  obtain rfl : args = #[v0] := by cases args; simp_all
  have s0 := sized_at hsz (j := 0) (t := 24) (d := d0) rfl rfl
  obtain ⟨m0_0, m0_1, m0_2, m0_3, m0_4, m0_5, m0_6, m0_7, m0_8, m0_9, t0⟩ := Tryz.ourlTys
  obtain ⟨a0_0, a0_1, a0_2, a0_3, a0_4, a0_5, a0_6, a0_7, a0_8, a0_9, rfl, b0_0, b0_1, b0_2, b0_3, b0_4, b0_5, b0_6, b0_7⟩ := open_ourl t0 (hval 0 24 v0 rfl rfl) h0 s0
  exact urlTexts_any (w := W) a0_0 a0_1 a0_2 a0_3 a0_4 a0_5 a0_6 a0_7 a0_8 a0_9 b0_0 b0_1 b0_2 b0_3 b0_4 b0_5 b0_6 b0_7 (env_of hL hS)

noncomputable def urlTexts_world (os : Os) : World := laidIn Tryz.prog Rows.urlTextsRow.laid (World.holding Tryz.prog os ⟨#[], #[], []⟩)

theorem urlTexts_met (os : Os) : laidMet Tryz.prog Rows.urlTextsRow.laid ((urlTexts_world os).forCall (fun _ _ => 0) ⟨#[], #[.agg #[.string ByteArray.empty, .string ByteArray.empty, .string ByteArray.empty, .string ByteArray.empty, .int .i64 0, .string ByteArray.empty, .bool false, .string ByteArray.empty, .bool false, .string ByteArray.empty]], []⟩).memory :=
  laidMet_of_run' 8 (by kernel_rfl) (by kernel_rfl)

theorem urlTexts_reads (os : Os) {H : Type} (enc : TypeId × Value → H) : ∃ places, DataW.whole enc Tryz.prog ((urlTexts_world os).forCall (fun _ _ => 0) ⟨#[], #[.agg #[.string ByteArray.empty, .string ByteArray.empty, .string ByteArray.empty, .string ByteArray.empty, .int .i64 0, .string ByteArray.empty, .bool false, .string ByteArray.empty, .bool false, .string ByteArray.empty]], []⟩).memory Tryz.f4.params.toList Rows.urlTextsSpec.vars false (#[.agg #[.string ByteArray.empty, .string ByteArray.empty, .string ByteArray.empty, .string ByteArray.empty, .int .i64 0, .string ByteArray.empty, .bool false, .string ByteArray.empty, .bool false, .string ByteArray.empty]] : Array Value).toList 8 = some ([.agg [.lit (.string []), .lit (.string []), .lit (.string []), .lit (.string []), .lit (.int .i64 0), .lit (.string []), .lit (.bool false), .lit (.string []), .lit (.bool false), .lit (.string [])]], [], places) :=
  ⟨[], by kernel_rfl⟩

set_option maxRecDepth 100000 in
theorem urlTexts_lifted (os : Os) (started : os.Started) (H : Type) (enc : TypeId × Value → H) (F : Stop.Interp) :
    ReturnsInHanded {} Tryz.checked os 4 .any ((OpenSpec.ofChange Rows.urlTextsSpec).preRow enc Tryz.prog Tryz.f4 Rows.urlTextsRow.domain false Rows.urlTextsRow.laid) (((OpenSpec.ofChange Rows.urlTextsSpec).at F).post enc Tryz.prog Tryz.f4 false true false false) := by
  obtain ⟨places, hx⟩ := urlTexts_reads os enc
  refine returnsInHanded_of_row (C := Tryz.checked) (s := OpenSpec.ofChange Rows.urlTextsSpec) urlTexts_own started (by kernel_rfl) Tryz.func4
    (witness_row_at (enc := enc) (C := Tryz.checked) false (urlTexts_world os) #[.agg #[.string ByteArray.empty, .string ByteArray.empty, .string ByteArray.empty, .string ByteArray.empty, .int .i64 0, .string ByteArray.empty, .bool false, .string ByteArray.empty, .bool false, .string ByteArray.empty]] rfl (by kernel_rfl) (by kernel_rfl) (by kernel_rfl)
      (OpenSpec.preRow_of_cond 8 hx (by kernel_rfl) (fun k hk => by cases hk) (by kernel_rfl) (urlTexts_met os))) ?_
  intro W base args ds gs before hval hW _ _ hsz hL hS _
  exact urlTexts_contract H enc W base args ds gs before hval hW hsz hL hS

theorem urlTexts_said : Rows.UrlTextsSaid :=
  OpenClaim.holds_of_cond 4 Tryz.f4 rfl rfl rfl rfl rfl rfl rfl ⟨rfl, rfl, rfl, rfl, rfl⟩ rfl rfl rfl rfl rfl (by kernel_rfl) Tryz.func4 (by kernel_rfl)
    (of_decide_eq_true (by kernel_rfl)) (by unfold Func.isWrapper; first | (rw [if_pos (by decide +kernel)]; kernel_rfl) | (rw [if_neg (by decide +kernel)]; exact ⟨rfl, rfl⟩))
    (fun os started H enc _ F => by rw [OpenClaim.pre_eq_preRow]; exact urlTexts_lifted os started H enc F)

theorem urlTexts_plain (f : FuncId) (fn : Func) (hf : Tryz.pinned.checked.prog.funcNamed Tryz.f4.name = some f) (hfn : Tryz.pinned.checked.prog.funcs[f]? = some fn) :
    false = Tryz.pinned.checked.prog.looks [] ∧ ∀ (j : Nat) t, fn.params[j]? = some t → Tryz.pinned.checked.prog.wantsStandIn t = false := by
  obtain rfl : f = 4 := Option.some.inj ((show Tryz.prog.funcNamed Tryz.f4.name = some 4 by kernel_rfl).symm.trans hf) |>.symm
  obtain rfl : fn = Tryz.f4 := (Option.some.inj (Tryz.func4.symm.trans hfn)).symm
  refine ⟨by kernel_rfl, fun j t ht => ?_⟩
  have hall : ∀ t ∈ Tryz.f4.params, Tryz.prog.wantsStandIn t = false := of_decide_eq_true (by kernel_rfl)
  exact hall t (Array.mem_of_getElem? ht)

theorem urlTexts_card : Rows.UrlTextsCardSaid :=
  Claim7.holds_tied_plain_at .later [] _ _ _ _ urlTexts_said (fun _ h => by cases h) (by kernel_rfl) (fun _ h => by cases h) urlTexts_row_tie rfl ⟨rfl, rfl⟩ (by kernel_rfl) rfl urlTexts_plain (by kernel_rfl)
#print axioms urlTexts_card

end Go.Proofs.YtinocdddihjfeaaGreatDoor
