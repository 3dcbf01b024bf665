/-
  HostParses: any text is read as the host that it is, or refused, and told to be a name or not, as the reference does; the card's statement, its listed tables tied to the program's text. No condition.
-/
import Derived.Stop.LaidErr
import Derived.Deep.DeepHandedRow
import Derived.Test.YtmfchplplpiogaaDoorCards
import Derived.Test.YtmfchplplpiogaaDoorTie
import Derived.Test.YtmfchplplpiogaaDoorProg
import Derived.Test.YtmfchplplpiogaaDoorKit
import Derived.Test.YtmfchplplpiogaaDoorLaw
import Derived.Test.YtmfchplplpiogaaDoorRow
import Derived.Test.YtmfchplplpiogaaDoorCod7
import Derived.Test.YtmfchplplpiogaaDoorFrm4
import Derived.Test.YtmfchplplpiogaaDoorHst0
import Derived.Test.YtmfchplplpiogaaDoorHst3
import Derived.Test.YtmfchplplpiogaaDoorHst7
import Derived.Test.YtmfchplplpiogaaDoorHst8
import Derived.Test.YtmfchplplpiogaaDoorHst9
namespace Go.Proofs.YtmfchplplpiogaaDoor
open Go.ChangeShapes Go.WideShapes Go.ChangeAt Go.RowKit Go.Proofs
open Go.ChangeMaps (open_string shut_string)

theorem hostParses_any (s : ByteArray) (hs : s.size ≤ 140737488351232) (w : World) (hT : Tab10 w) :
    Calls Tryd.prog 3 #[.string s] w fun e w' => e = .returned (.bool true) ∧ Below w.heap.size w w' := by
  have HT := Lib.hid hT
  clear hT
  by_cases hlong : 600 < (s.size : Int)
  · go_enter Tryd.func3, Tryd.ntmps3
    go_wp2_with fail
    refine (hawake_any _ HT.out).mono ?_
    rintro e w' ⟨rfl, hb1⟩
    go_wp2
    go_ret
    exact ⟨rfl, hb1⟩
  · have C1 := Lib.hid (fun W (hT : Tab10 W) => hparse_any s (by omega) W hT)
    have C2 := Lib.hid (fun W => rhost_any s (by omega) W)
    have C3 := Lib.hid (fun W (hT : Tab10 W) => hdomain_any s (by omega) W hT)
    have C4 := Lib.hid (fun W => rdomain_any s (by omega) W)
    obtain ⟨X, hX⟩ : ∃ X, X = hostB (hostP s.data.toList) := ⟨_, rfl⟩
    obtain ⟨E, hE⟩ : ∃ E, E = hostE (hostP s.data.toList) := ⟨_, rfl⟩
    obtain ⟨D, hD⟩ : ∃ D, D = domainP s.data.toList := ⟨_, rfl⟩
    rw [← hX, ← hE] at C1 C2
    rw [← hD] at C3 C4
    have hxx : (X.toList == X.toList) = true := beq_self_eq_true _
    have hee : (E == E) = true := beq_self_eq_true _
    have hdd : (D == D) = true := beq_self_eq_true _
    clear hX hE hD
    go_enter Tryd.func3, Tryd.ntmps3
    go_wp2_with fail
    refine (C1.out _ HT.out).mono ?_
    rintro e w1 ⟨rfl, hb1⟩
    have HB1 := Lib.hid hb1
    clear hb1
    go_wp2_with fail
    refine (C2.out _).mono ?_
    rintro e w2 ⟨rfl, hb2⟩
    have HB2 := Lib.hid (below_then HB1.out hb2)
    clear hb2
    go_wp2_with fail
    refine (C3.out _ (tab10_below HT.out HB2.out)).mono ?_
    rintro e w3 ⟨rfl, hb3⟩
    have HB3 := Lib.hid (below_then HB2.out hb3)
    clear hb3
    go_wp2_with fail
    refine (C4.out _).mono ?_
    rintro e w4 ⟨rfl, hb4⟩
    have HB4 := Lib.hid (below_then HB3.out hb4)
    clear hb4
    go_wp2_with fail
    refine (hawake_any _ (tab10_below HT.out HB4.out)).mono ?_
    rintro e w6 ⟨rfl, hb6⟩
    have HB6 := Lib.hid (below_then HB4.out hb6)
    clear hb6
    go_wp2
    go_ret
    exact ⟨rfl, HB6.out⟩

theorem hostParses_own : ownKnob Tryd.prog.godebug = none := by kernel_rfl

theorem hostParses_contract (H : Type) (enc : TypeId × Value → H) (W : World) (base : Nat) (args : Array Value) (ds gs : List (DataW H)) (before : List MemPlace)
    (hval0 : ∀ (j : Nat) t v, Tryd.f3.params[j]? = some t → args[j]? = some v → Value.okWide Tryd.prog W .any base t v)
    (hW : DataW.Whole enc Tryd.prog Tryd.f3.params.toList Rows.hostParsesSpec.vars false W args.toList ds gs before) {vt : List TypeId}
    (hsz0 : (DataW.weightsEach Tryd.prog (Tryd.f3.params.toList ++ vt) (ds ++ gs)).all (· ≤ reachBytes) = true) (hL : laidMetH Tryd.prog Rows.hostParsesRow.laid W) :
    Calls Tryd.prog 3 args W fun e W' => ∃ v, e = .returned v ∧ Rows.hostParsesSpec.post enc Tryd.prog Tryd.f3 false true false false W args v W' := by
  refine law_contract (by kernel_rfl) (of_decide_eq_true (by kernel_rfl)) (tb := 4) (by kernel_rfl) Tryd.underlying4 rfl (fun ds h => by match ds, h with | [d0], _ => exact ⟨rfl, rfl, rfl⟩) hW hsz0 ?_
  intro p hA0 hlt hszz
  have hval := hval0
  have hA : DataW.TrodAll enc Tryd.prog W 0 (fun _ => true) true Tryd.f3.params.toList args.toList ds p := hA0
  have hsz : (DataW.weightsEach Tryd.prog Tryd.f3.params.toList ds).all (· ≤ reachBytes) = true := hszz
  clear hval0 hA0 hszz hsz0 hW
  rw [Tryd.params3] at hA hval hsz
  obtain ⟨v0, vs0, d0, ds0, p0, q0, hargs, rfl, rfl, h0, r0⟩ := trodAll_cons hA
  obtain ⟨rfl, rfl, rfl⟩ := trodAll_nil r0
  obtain rfl : args = #[v0] := by cases args; simp_all
  obtain ⟨a0, rfl, rfl, rfl, w0⟩ := open_string Tryd.underlying9 (hval 0 9 v0 rfl rfl) h0
  have z0 := sized_string hsz (j := 0) rfl rfl
  rw [size_data] at z0
  exact hostParses_any (w := W) a0 z0 (tab10_of hL)

noncomputable def hostParses_world (os : Os) : World := laidIn Tryd.prog Rows.hostParsesRow.laid (World.holding Tryd.prog os ⟨#[], #[], []⟩)

theorem hostParses_met (os : Os) : laidMet Tryd.prog Rows.hostParsesRow.laid ((hostParses_world os).forCall (fun _ _ => 0) ⟨#[], #[.string ByteArray.empty], []⟩).memory :=
  laidMet_of_run' 8 (by kernel_rfl) (by kernel_rfl)

theorem hostParses_reads (os : Os) {H : Type} (enc : TypeId × Value → H) : ∃ places, DataW.whole enc Tryd.prog ((hostParses_world os).forCall (fun _ _ => 0) ⟨#[], #[.string ByteArray.empty], []⟩).memory Tryd.f3.params.toList Rows.hostParsesSpec.vars false (#[.string ByteArray.empty] : Array Value).toList 8 = some ([.lit (.string [])], [], places) :=
  ⟨[], by kernel_rfl⟩

set_option maxRecDepth 100000 in
theorem hostParses_lifted (os : Os) (started : os.Started) (H : Type) (enc : TypeId × Value → H) (F : Stop.Interp) :
    ReturnsInHanded {} Tryd.checked os 3 .any ((OpenSpec.ofChange Rows.hostParsesSpec).preRow enc Tryd.prog Tryd.f3 Rows.hostParsesRow.domain false Rows.hostParsesRow.laid) (((OpenSpec.ofChange Rows.hostParsesSpec).at F).post enc Tryd.prog Tryd.f3 false true false false) := by
  obtain ⟨places, hx⟩ := hostParses_reads os enc
  refine returnsInHanded_of_row (C := Tryd.checked) (s := OpenSpec.ofChange Rows.hostParsesSpec) hostParses_own started (by kernel_rfl) Tryd.func3
    (witness_row_at (enc := enc) (C := Tryd.checked) false (hostParses_world os) #[.string ByteArray.empty] rfl (by kernel_rfl) (by kernel_rfl) (by kernel_rfl)
      (OpenSpec.preRow_of_cond 8 hx (by kernel_rfl) (fun k hk => by cases hk) (by kernel_rfl) (hostParses_met os))) ?_
  intro W base args ds gs before hval hW _ _ hsz hL _ _
  exact hostParses_contract H enc W base args ds gs before hval hW hsz hL

theorem hostParses_said : Rows.HostParsesSaid :=
  OpenClaim.holds_of_cond 3 Tryd.f3 rfl rfl rfl rfl rfl rfl rfl ⟨rfl, rfl, rfl, rfl, rfl⟩ rfl rfl rfl rfl rfl (by kernel_rfl) Tryd.func3 (by kernel_rfl)
    (of_decide_eq_true (by kernel_rfl)) (by unfold Func.isWrapper; first | (rw [if_pos (by decide +kernel)]; kernel_rfl) | (rw [if_neg (by decide +kernel)]; exact ⟨rfl, rfl⟩))
    (fun os started H enc _ F => by rw [OpenClaim.pre_eq_preRow]; exact hostParses_lifted os started H enc F)

theorem hostParses_plain (f : FuncId) (fn : Func) (hf : Tryd.pinned.checked.prog.funcNamed Tryd.f3.name = some f) (hfn : Tryd.pinned.checked.prog.funcs[f]? = some fn) :
    false = Tryd.pinned.checked.prog.looks [] ∧ ∀ (j : Nat) t, fn.params[j]? = some t → Tryd.pinned.checked.prog.wantsStandIn t = false := by
  obtain rfl : f = 3 := Option.some.inj ((show Tryd.prog.funcNamed Tryd.f3.name = some 3 by kernel_rfl).symm.trans hf) |>.symm
  obtain rfl : fn = Tryd.f3 := (Option.some.inj (Tryd.func3.symm.trans hfn)).symm
  refine ⟨by kernel_rfl, fun j t ht => ?_⟩
  have hall : ∀ t ∈ Tryd.f3.params, Tryd.prog.wantsStandIn t = false := of_decide_eq_true (by kernel_rfl)
  exact hall t (Array.mem_of_getElem? ht)

theorem hostParses_card : Rows.HostParsesCardSaid :=
  Claim7.holds_tied_plain_at .later [] _ _ _ _ hostParses_said (fun _ h => by cases h) (by kernel_rfl) (fun _ h => by cases h) hostParses_row_tie rfl ⟨rfl, rfl⟩ (by kernel_rfl) rfl hostParses_plain (by kernel_rfl)
#print axioms hostParses_card

end Go.Proofs.YtmfchplplpiogaaDoor
