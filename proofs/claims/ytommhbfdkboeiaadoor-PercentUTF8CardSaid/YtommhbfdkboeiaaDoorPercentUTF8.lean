/-
  PercentUTF8: for every text UTF8 tells as the document's own answer does whether it is UTF-8; the card's statement, its two listed tables tied to the program's text. No condition.
-/
import Derived.Stop.LaidErr
import Derived.Deep.DeepHandedRow
import Derived.Test.YtommhbfdkboeiaaDoorCards
import Derived.Test.YtommhbfdkboeiaaDoorTie
import Derived.Test.YtommhbfdkboeiaaDoorProg
import Derived.Test.YtommhbfdkboeiaaDoorKit
import Derived.Test.YtommhbfdkboeiaaDoorLaw
import Derived.Test.YtommhbfdkboeiaaDoorRow
import Derived.Test.YtommhbfdkboeiaaDoorCod7
import Derived.Test.YtommhbfdkboeiaaDoorPct6
import Derived.Test.YtommhbfdkboeiaaDoorPlw0
import Derived.Test.YtommhbfdkboeiaaDoorPct7
namespace Go.Proofs.YtommhbfdkboeiaaDoor
open Go.ChangeShapes Go.WideShapes Go.ChangeAt Go.RowKit Go.Proofs
open Go.ChangeMaps (open_string shut_string)

theorem percentUTF8_any (s : ByteArray) (hs : s.size ≤ 140737488351232) (w : World) (hT : Tabs9 w) :
    Calls Tryd.prog 7 #[.string s] w fun e w' => e = .returned (.bool true) ∧ Below w.heap.size w w' := by
  have HT := Lib.hid hT
  clear hT
  by_cases hlong : 3000 < (s.size : Int)
  · go_enter Tryd.func7, Tryd.ntmps7
    go_wp2_with fail
    refine (awake9_any _ HT.out).mono ?_
    rintro e w' ⟨rfl, hb1⟩
    go_wp2
    go_ret
    exact ⟨rfl, hb1⟩
  · go_enter Tryd.func7, Tryd.ntmps7
    go_wp2_with fail
    refine (utf8_any s (by omega) _ HT.out).mono ?_
    rintro e w1 ⟨rfl, hb1⟩
    have HB1 := Lib.hid hb1
    clear hb1
    go_wp2_with fail
    refine (ref_utf8_any s (by omega) _).mono ?_
    rintro e w2 ⟨rfl, rfl⟩
    go_wp2_with fail
    refine (awake9_any _ (tabs_below HT.out HB1.out)).mono ?_
    rintro e w5 ⟨rfl, hb5⟩
    have HB5 := Lib.hid (below_then HB1.out hb5)
    clear hb5
    go_wp2
    go_ret
    exact ⟨rfl, HB5.out⟩

theorem percentUTF8_own : ownKnob Tryd.prog.godebug = none := by kernel_rfl

theorem percentUTF8_contract (H : Type) (enc : TypeId × Value → H) (W : World) (base : Nat) (args : Array Value) (ds gs : List (DataW H)) (before : List MemPlace)
    (hval0 : ∀ (j : Nat) t v, Tryd.f7.params[j]? = some t → args[j]? = some v → Value.okWide Tryd.prog W .any base t v)
    (hW : DataW.Whole enc Tryd.prog Tryd.f7.params.toList Rows.percentUTF8Spec.vars false W args.toList ds gs before) {vt : List TypeId}
    (hsz0 : (DataW.weightsEach Tryd.prog (Tryd.f7.params.toList ++ vt) (ds ++ gs)).all (· ≤ reachBytes) = true) (hL : laidMetH Tryd.prog Rows.percentUTF8Row.laid W) :
    Calls Tryd.prog 7 args W fun e W' => ∃ v, e = .returned v ∧ Rows.percentUTF8Spec.post enc Tryd.prog Tryd.f7 false true false false W args v W' := by
  refine law_contract (by kernel_rfl) (of_decide_eq_true (by kernel_rfl)) (tb := 4) (by kernel_rfl) Tryd.underlying4 rfl (fun ds h => by match ds, h with | [d0], _ => exact ⟨rfl, rfl, rfl⟩) hW hsz0 ?_
  intro p hA0 hlt hszz
  have hval := hval0
  have hA : DataW.TrodAll enc Tryd.prog W 0 (fun _ => true) true Tryd.f7.params.toList args.toList ds p := hA0
  have hsz : (DataW.weightsEach Tryd.prog Tryd.f7.params.toList ds).all (· ≤ reachBytes) = true := hszz
  clear hval0 hA0 hszz hsz0 hW
  rw [Tryd.params7] at hA hval hsz
  obtain ⟨v0, vs0, d0, ds0, p0, q0, hargs, rfl, rfl, h0, r0⟩ := trodAll_cons hA
  obtain ⟨rfl, rfl, rfl⟩ := trodAll_nil r0
  obtain rfl : args = #[v0] := by cases args; simp_all
  obtain ⟨a0, rfl, rfl, rfl, w0⟩ := open_string Tryd.underlying9 (hval 0 9 v0 rfl rfl) h0
  have z0 := sized_string hsz (j := 0) rfl rfl
  rw [size_data] at z0
  exact percentUTF8_any (w := W) a0 z0 (tabs_of hL)

noncomputable def percentUTF8_world (os : Os) : World := laidIn Tryd.prog Rows.percentUTF8Row.laid (World.holding Tryd.prog os ⟨#[], #[], []⟩)

theorem percentUTF8_met (os : Os) : laidMet Tryd.prog Rows.percentUTF8Row.laid ((percentUTF8_world os).forCall (fun _ _ => 0) ⟨#[], #[.string ByteArray.empty], []⟩).memory :=
  laidMet_of_run' 8 (by kernel_rfl) (by kernel_rfl)

theorem percentUTF8_reads (os : Os) {H : Type} (enc : TypeId × Value → H) : ∃ places, DataW.whole enc Tryd.prog ((percentUTF8_world os).forCall (fun _ _ => 0) ⟨#[], #[.string ByteArray.empty], []⟩).memory Tryd.f7.params.toList Rows.percentUTF8Spec.vars false (#[.string ByteArray.empty] : Array Value).toList 8 = some ([.lit (.string [])], [], places) :=
  ⟨[], by kernel_rfl⟩

set_option maxRecDepth 100000 in
theorem percentUTF8_lifted (os : Os) (started : os.Started) (H : Type) (enc : TypeId × Value → H) (F : Stop.Interp) :
    ReturnsInHanded {} Tryd.checked os 7 .any ((OpenSpec.ofChange Rows.percentUTF8Spec).preRow enc Tryd.prog Tryd.f7 Rows.percentUTF8Row.domain false Rows.percentUTF8Row.laid) (((OpenSpec.ofChange Rows.percentUTF8Spec).at F).post enc Tryd.prog Tryd.f7 false true false false) := by
  obtain ⟨places, hx⟩ := percentUTF8_reads os enc
  refine returnsInHanded_of_row (C := Tryd.checked) (s := OpenSpec.ofChange Rows.percentUTF8Spec) percentUTF8_own started (by kernel_rfl) Tryd.func7
    (witness_row_at (enc := enc) (C := Tryd.checked) false (percentUTF8_world os) #[.string ByteArray.empty] rfl (by kernel_rfl) (by kernel_rfl) (by kernel_rfl)
      (OpenSpec.preRow_of_cond 8 hx (by kernel_rfl) (fun k hk => by cases hk) (by kernel_rfl) (percentUTF8_met os))) ?_
  intro W base args ds gs before hval hW _ _ hsz hL _ _
  exact percentUTF8_contract H enc W base args ds gs before hval hW hsz hL

theorem percentUTF8_said : Rows.PercentUTF8Said :=
  OpenClaim.holds_of_cond 7 Tryd.f7 rfl rfl rfl rfl rfl rfl rfl ⟨rfl, rfl, rfl, rfl, rfl⟩ rfl rfl rfl rfl rfl (by kernel_rfl) Tryd.func7 (by kernel_rfl)
    (of_decide_eq_true (by kernel_rfl)) (by unfold Func.isWrapper; first | (rw [if_pos (by decide +kernel)]; kernel_rfl) | (rw [if_neg (by decide +kernel)]; exact ⟨rfl, rfl⟩))
    (fun os started H enc _ F => by rw [OpenClaim.pre_eq_preRow]; exact percentUTF8_lifted os started H enc F)

theorem percentUTF8_plain (f : FuncId) (fn : Func) (hf : Tryd.pinned.checked.prog.funcNamed Tryd.f7.name = some f) (hfn : Tryd.pinned.checked.prog.funcs[f]? = some fn) :
    false = Tryd.pinned.checked.prog.looks [] ∧ ∀ (j : Nat) t, fn.params[j]? = some t → Tryd.pinned.checked.prog.wantsStandIn t = false := by
  obtain rfl : f = 7 := Option.some.inj ((show Tryd.prog.funcNamed Tryd.f7.name = some 7 by kernel_rfl).symm.trans hf) |>.symm
  obtain rfl : fn = Tryd.f7 := (Option.some.inj (Tryd.func7.symm.trans hfn)).symm
  refine ⟨by kernel_rfl, fun j t ht => ?_⟩
  have hall : ∀ t ∈ Tryd.f7.params, Tryd.prog.wantsStandIn t = false := of_decide_eq_true (by kernel_rfl)
  exact hall t (Array.mem_of_getElem? ht)

theorem percentUTF8_card : Rows.PercentUTF8CardSaid :=
  Claim7.holds_tied_plain_at .later [] _ _ _ _ percentUTF8_said (fun _ h => by cases h) (by kernel_rfl) (fun _ h => by cases h) percentUTF8_row_tie rfl ⟨rfl, rfl⟩ (by kernel_rfl) rfl percentUTF8_plain (by kernel_rfl)
#print axioms percentUTF8_card

end Go.Proofs.YtommhbfdkboeiaaDoor
