/-
  UrlParts: a user, a host, a port, a path, a query and a fragment each come where they should; the card's statement, its listed tables tied to the program's text. No condition.
-/
import Derived.Stop.LaidErr
import Derived.Deep.DeepHandedRow
import Derived.Test.YtlhdafinfgdlkaaGreatDoorCards
import Derived.Test.YtlhdafinfgdlkaaGreatDoorTie
import Derived.Test.YtlhdafinfgdlkaaGreatDoorProg
import Derived.Test.YtlhdafinfgdlkaaGreatDoorKit
import Derived.Test.YtlhdafinfgdlkaaGreatDoorLaw
import Derived.Test.YtlhdafinfgdlkaaGreatDoorRow
import Derived.Test.YtlhdafinfgdlkaaGreatDoorUrl6
import Derived.Test.YtlhdafinfgdlkaaGreatDoorUrl15
import Derived.Test.YtlhdafinfgdlkaaGreatDoorUrl19
import Derived.Test.YtlhdafinfgdlkaaGreatDoorUrl20
namespace Go.Proofs.YtlhdafinfgdlkaaGreatDoor
open Go.ChangeShapes Go.WideShapes Go.ChangeAt Go.RowKit Go.Proofs
open Go.ChangeMaps (open_string shut_string)
set_option maxRecDepth 100000

theorem urlParts_any (p : Int) (_hb : -9223372036854775808 ≤ p ∧ p ≤ 9223372036854775807) (u q f s : Bool) (w : World) (hE : Env11 w) :
    Calls Tryz.prog 8 #[.int .i64 p, .bool u, .bool q, .bool f, .bool s] w fun e w' => e = .returned (.bool true) ∧ Below w.heap.size w w' := by
  have HE := Lib.hid hE
  have HAW := Lib.hid (fun W (hW : Env11 W) => uawake_any W hW)
  by_cases h0 : p < 0
  · clear hE
    go_enter Tryz.func8, Tryz.ntmps8
    go_wp2_with fail
    refine (HAW.out _ HE.out).mono ?_
    rintro e w1 ⟨rfl, hb1⟩
    have HB1 := Lib.hid hb1
    clear hb1
    go_wp2_with fail
    go_ret
    exact ⟨rfl, HB1.out⟩
  by_cases h1 : 70000 < p
  · have hn0 : ¬ p < 0 := h0
    clear hE
    go_enter Tryz.func8, Tryz.ntmps8
    go_wp2_with fail
    refine (HAW.out _ HE.out).mono ?_
    rintro e w1 ⟨rfl, hb1⟩
    have HB1 := Lib.hid hb1
    clear hb1
    go_wp2_with fail
    go_ret
    exact ⟨rfl, HB1.out⟩
  clear HE HAW
  by_cases hbg : 65535 < p
  · cases s <;> cases u <;> cases q <;> cases f
    · exact uparts_0000c p ⟨hbg, by omega⟩ w hE
    · exact uparts_0001c p ⟨hbg, by omega⟩ w hE
    · exact uparts_0010c p ⟨hbg, by omega⟩ w hE
    · exact uparts_0011c p ⟨hbg, by omega⟩ w hE
    · exact uparts_0100c p ⟨hbg, by omega⟩ w hE
    · exact uparts_0101c p ⟨hbg, by omega⟩ w hE
    · exact uparts_0110c p ⟨hbg, by omega⟩ w hE
    · exact uparts_0111c p ⟨hbg, by omega⟩ w hE
    · exact uparts_1000c p ⟨hbg, by omega⟩ w hE
    · exact uparts_1001c p ⟨hbg, by omega⟩ w hE
    · exact uparts_1010c p ⟨hbg, by omega⟩ w hE
    · exact uparts_1011c p ⟨hbg, by omega⟩ w hE
    · exact uparts_1100c p ⟨hbg, by omega⟩ w hE
    · exact uparts_1101c p ⟨hbg, by omega⟩ w hE
    · exact uparts_1110c p ⟨hbg, by omega⟩ w hE
    · exact uparts_1111c p ⟨hbg, by omega⟩ w hE
  cases s
  · by_cases hd : p = 80
    · subst hd
      cases u <;> cases q <;> cases f
      · exact uparts_0000a w hE
      · exact uparts_0001a w hE
      · exact uparts_0010a w hE
      · exact uparts_0011a w hE
      · exact uparts_0100a w hE
      · exact uparts_0101a w hE
      · exact uparts_0110a w hE
      · exact uparts_0111a w hE
    · cases u <;> cases q <;> cases f
      · exact uparts_0000b p ⟨by omega, by omega⟩ hd w hE
      · exact uparts_0001b p ⟨by omega, by omega⟩ hd w hE
      · exact uparts_0010b p ⟨by omega, by omega⟩ hd w hE
      · exact uparts_0011b p ⟨by omega, by omega⟩ hd w hE
      · exact uparts_0100b p ⟨by omega, by omega⟩ hd w hE
      · exact uparts_0101b p ⟨by omega, by omega⟩ hd w hE
      · exact uparts_0110b p ⟨by omega, by omega⟩ hd w hE
      · exact uparts_0111b p ⟨by omega, by omega⟩ hd w hE
  · by_cases hd : p = 443
    · subst hd
      cases u <;> cases q <;> cases f
      · exact uparts_1000a w hE
      · exact uparts_1001a w hE
      · exact uparts_1010a w hE
      · exact uparts_1011a w hE
      · exact uparts_1100a w hE
      · exact uparts_1101a w hE
      · exact uparts_1110a w hE
      · exact uparts_1111a w hE
    · cases u <;> cases q <;> cases f
      · exact uparts_1000b p ⟨by omega, by omega⟩ hd w hE
      · exact uparts_1001b p ⟨by omega, by omega⟩ hd w hE
      · exact uparts_1010b p ⟨by omega, by omega⟩ hd w hE
      · exact uparts_1011b p ⟨by omega, by omega⟩ hd w hE
      · exact uparts_1100b p ⟨by omega, by omega⟩ hd w hE
      · exact uparts_1101b p ⟨by omega, by omega⟩ hd w hE
      · exact uparts_1110b p ⟨by omega, by omega⟩ hd w hE
      · exact uparts_1111b p ⟨by omega, by omega⟩ hd w hE

theorem urlParts_own : ownKnob Tryz.prog.godebug = none := by kernel_rfl

theorem urlParts_contract (H : Type) (enc : TypeId × Value → H) (W : World) (base : Nat) (args : Array Value) (ds gs : List (DataW H)) (before : List MemPlace)
    (hval0 : ∀ (j : Nat) t v, Tryz.f8.params[j]? = some t → args[j]? = some v → Value.okWide Tryz.prog W .any base t v)
    (hW : DataW.Whole enc Tryz.prog Tryz.f8.params.toList Rows.urlPartsSpec.vars false W args.toList ds gs before) {vt : List TypeId}
    (hsz0 : (DataW.weightsEach Tryz.prog (Tryz.f8.params.toList ++ vt) (ds ++ gs)).all (· ≤ reachBytes) = true) (hL : laidMetH Tryz.prog Rows.urlPartsRow.laid W) (hS : W.ShapedOpen Tryz.prog) :
    Calls Tryz.prog 8 args W fun e W' => ∃ v, e = .returned v ∧ Rows.urlPartsSpec.post enc Tryz.prog Tryz.f8 false true false false W args v W' := by
  refine law_contract (by kernel_rfl) (of_decide_eq_true (by kernel_rfl)) (tb := 4) (by kernel_rfl) Tryz.underlying4 rfl (fun ds h => by match ds, h with | [d0, d1, d2, d3, d4], _ => exact ⟨rfl, rfl, rfl⟩) hW hsz0 ?_
  intro p hA0 hlt hszz
  have hval := hval0
  have hA : DataW.TrodAll enc Tryz.prog W 0 (fun _ => true) true Tryz.f8.params.toList args.toList ds p := hA0
  have hsz : (DataW.weightsEach Tryz.prog Tryz.f8.params.toList ds).all (· ≤ reachBytes) = true := hszz
  clear hval0 hA0 hszz hsz0 hW
  rw [Tryz.params8] at hA hval hsz
  obtain ⟨v0, vs0, d0, ds0, p0, q0, hargs, rfl, rfl, h0, r0⟩ := trodAll_cons hA
  obtain ⟨v1, vs1, d1, ds1, p1, q1, rfl, rfl, rfl, h1, r1⟩ := trodAll_cons r0
  obtain ⟨v2, vs2, d2, ds2, p2, q2, rfl, rfl, rfl, h2, r2⟩ := trodAll_cons r1
  obtain ⟨v3, vs3, d3, ds3, p3, q3, rfl, rfl, rfl, h3, r3⟩ := trodAll_cons r2
  obtain ⟨v4, vs4, d4, ds4, p4, q4, rfl, rfl, rfl, h4, r4⟩ := trodAll_cons r3
  obtain ⟨rfl, rfl, rfl⟩ := trodAll_nil r4
  obtain rfl : args = #[v0, v1, v2, v3, v4] := by cases args; simp_all
  obtain ⟨a0, rfl, rfl, rfl, w0⟩ := open_int Tryz.underlying3 (hval 0 3 v0 rfl rfl) h0
  obtain ⟨a1, rfl, rfl, rfl⟩ := open_bool Tryz.underlying4 (hval 1 4 v1 rfl rfl) h1
  obtain ⟨a2, rfl, rfl, rfl⟩ := open_bool Tryz.underlying4 (hval 2 4 v2 rfl rfl) h2
  obtain ⟨a3, rfl, rfl, rfl⟩ := open_bool Tryz.underlying4 (hval 3 4 v3 rfl rfl) h3
  obtain ⟨a4, rfl, rfl, rfl⟩ := open_bool Tryz.underlying4 (hval 4 4 v4 rfl rfl) h4
  exact urlParts_any (w := W) a0 (bounds_i64 w0) a1 a2 a3 a4 (env_of hL hS)

noncomputable def urlParts_world (os : Os) : World := laidIn Tryz.prog Rows.urlPartsRow.laid (World.holding Tryz.prog os ⟨#[], #[], []⟩)

theorem urlParts_met (os : Os) : laidMet Tryz.prog Rows.urlPartsRow.laid ((urlParts_world os).forCall (fun _ _ => 0) ⟨#[], #[.int .i64 0, .bool false, .bool false, .bool false, .bool false], []⟩).memory :=
  laidMet_of_run' 8 (by kernel_rfl) (by kernel_rfl)

theorem urlParts_reads (os : Os) {H : Type} (enc : TypeId × Value → H) : ∃ places, DataW.whole enc Tryz.prog ((urlParts_world os).forCall (fun _ _ => 0) ⟨#[], #[.int .i64 0, .bool false, .bool false, .bool false, .bool false], []⟩).memory Tryz.f8.params.toList Rows.urlPartsSpec.vars false (#[.int .i64 0, .bool false, .bool false, .bool false, .bool false] : Array Value).toList 8 = some ([.lit (.int .i64 0), .lit (.bool false), .lit (.bool false), .lit (.bool false), .lit (.bool false)], [], places) :=
  ⟨[], by kernel_rfl⟩

set_option maxRecDepth 100000 in
theorem urlParts_lifted (os : Os) (started : os.Started) (H : Type) (enc : TypeId × Value → H) (F : Stop.Interp) :
    ReturnsInHanded {} Tryz.checked os 8 .any ((OpenSpec.ofChange Rows.urlPartsSpec).preRow enc Tryz.prog Tryz.f8 Rows.urlPartsRow.domain false Rows.urlPartsRow.laid) (((OpenSpec.ofChange Rows.urlPartsSpec).at F).post enc Tryz.prog Tryz.f8 false true false false) := by
  obtain ⟨places, hx⟩ := urlParts_reads os enc
  refine returnsInHanded_of_row (C := Tryz.checked) (s := OpenSpec.ofChange Rows.urlPartsSpec) urlParts_own started (by kernel_rfl) Tryz.func8
    (witness_row_at (enc := enc) (C := Tryz.checked) false (urlParts_world os) #[.int .i64 0, .bool false, .bool false, .bool false, .bool false] rfl (by kernel_rfl) (by kernel_rfl) (by kernel_rfl)
      (OpenSpec.preRow_of_cond 8 hx (by kernel_rfl) (fun k hk => by cases hk) (by kernel_rfl) (urlParts_met os))) ?_
  intro W base args ds gs before hval hW _ _ hsz hL hS _
  exact urlParts_contract H enc W base args ds gs before hval hW hsz hL hS

theorem urlParts_said : Rows.UrlPartsSaid :=
  OpenClaim.holds_of_cond 8 Tryz.f8 rfl rfl rfl rfl rfl rfl rfl ⟨rfl, rfl, rfl, rfl, rfl⟩ rfl rfl rfl rfl rfl (by kernel_rfl) Tryz.func8 (by kernel_rfl)
    (of_decide_eq_true (by kernel_rfl)) (by unfold Func.isWrapper; first | (rw [if_pos (by decide +kernel)]; kernel_rfl) | (rw [if_neg (by decide +kernel)]; exact ⟨rfl, rfl⟩))
    (fun os started H enc _ F => by rw [OpenClaim.pre_eq_preRow]; exact urlParts_lifted os started H enc F)

theorem urlParts_plain (f : FuncId) (fn : Func) (hf : Tryz.pinned.checked.prog.funcNamed Tryz.f8.name = some f) (hfn : Tryz.pinned.checked.prog.funcs[f]? = some fn) :
    false = Tryz.pinned.checked.prog.looks [] ∧ ∀ (j : Nat) t, fn.params[j]? = some t → Tryz.pinned.checked.prog.wantsStandIn t = false := by
  obtain rfl : f = 8 := Option.some.inj ((show Tryz.prog.funcNamed Tryz.f8.name = some 8 by kernel_rfl).symm.trans hf) |>.symm
  obtain rfl : fn = Tryz.f8 := (Option.some.inj (Tryz.func8.symm.trans hfn)).symm
  refine ⟨by kernel_rfl, fun j t ht => ?_⟩
  have hall : ∀ t ∈ Tryz.f8.params, Tryz.prog.wantsStandIn t = false := of_decide_eq_true (by kernel_rfl)
  exact hall t (Array.mem_of_getElem? ht)

theorem urlParts_card : Rows.UrlPartsCardSaid :=
  Claim7.holds_tied_plain_at .later [] _ _ _ _ urlParts_said (fun _ h => by cases h) (by kernel_rfl) (fun _ h => by cases h) urlParts_row_tie rfl ⟨rfl, rfl⟩ (by kernel_rfl) rfl urlParts_plain (by kernel_rfl)
#print axioms urlParts_card

end Go.Proofs.YtlhdafinfgdlkaaGreatDoor
