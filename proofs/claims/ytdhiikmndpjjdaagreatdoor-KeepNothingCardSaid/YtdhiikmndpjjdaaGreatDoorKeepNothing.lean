/-
  KeepNothing: a Keep that is nothing tells nothing and keeps nothing, names that may not be are refused; the law returns true for every text and every number; the card's statement, its listed table tied to the program's text. No condition.
-/
import Derived.BigRegion
import Derived.Deep.RegionHeld3
import Derived.Deep.QuietTactic
import Derived.BigQuiet
import Derived.IntWalk
import Derived.Lib.LaidTab
import Derived.Stop.LaidErr
import Derived.Deep.DeepHandedRow
import Derived.Test.YtdhiikmndpjjdaaGreatDoorCards
import Derived.Test.YtdhiikmndpjjdaaGreatDoorTie
import Derived.Test.YtdhiikmndpjjdaaGreatDoorProg
import Derived.Test.YtdhiikmndpjjdaaGreatDoorKit
import Derived.Test.YtdhiikmndpjjdaaGreatDoorLaw
import Derived.Test.YtdhiikmndpjjdaaGreatDoorRow
import Derived.Test.YtdhiikmndpjjdaaGreatDoorCod7
import Derived.Test.YtdhiikmndpjjdaaGreatDoorFrm3
import Derived.Test.YtdhiikmndpjjdaaGreatDoorFrm4
import Derived.Test.YtdhiikmndpjjdaaGreatDoorNibs
import Derived.Test.YtdhiikmndpjjdaaGreatDoorDsk9
import Derived.Test.YtdhiikmndpjjdaaGreatDoorDsk17
import Derived.Test.YtdhiikmndpjjdaaGreatDoorDsk19
import Derived.Test.YtdhiikmndpjjdaaGreatDoorKp6
import Derived.Test.YtdhiikmndpjjdaaGreatDoorKp14
import Derived.Test.YtdhiikmndpjjdaaGreatDoorKp18
import Derived.Test.YtdhiikmndpjjdaaGreatDoorKp23
namespace Go.Proofs.YtdhiikmndpjjdaaGreatDoor
open Go.ChangeShapes Go.WideShapes Go.ChangeAt Go.RowKit Go.Proofs
open Go.ChangeMaps (open_string shut_string)

def OpnV (s : ByteArray) (w w' : World) (e : Ending) : Prop :=
  Below w.heap.size w w' ∧ ((s = ⟨#[]⟩ ∧ e = .returned (.tuple #[.pointer none, .int .i64 1])) ∨ (40 < (s.size : Int) ∧ e = .returned (.tuple #[.pointer none, .int .i64 1])) ∨ (0 < s.size ∧ s.size ≤ 40 ∧ ∃ kb, e = .returned (.tuple #[.pointer (some ⟨kb, 0, none⟩), .int .i64 0])))

theorem kopn_any {w w1 : World} {g : Nat} (h : DIn w w1 (fun _ => False) g (newM 1000)) (s : ByteArray) :
    Calls Tryz.prog 11 #[.pointer (some ⟨g, 0, none⟩), .string s] w1 fun e w' => OpnV s w w' e := by
  by_cases h0 : s.size = 0
  · have hs : s = ⟨#[]⟩ := by
      apply ByteArray.ext
      exact Array.eq_empty_of_size_eq_zero h0
    subst hs
    refine (kopen_none _ w1).mono ?_
    rintro e w' ⟨rfl, rfl⟩
    exact ⟨dIn_below h, .inl ⟨rfl, rfl⟩⟩
  · by_cases h1 : s.size ≤ 40
    · refine (kopen_new h (by decide) s h1 (by omega) _ _ rfl rfl).mono ?_
      rintro e w' ⟨kb, rfl, _, hd, _, _⟩
      exact ⟨dIn_below hd, .inr (.inr ⟨by omega, h1, kb, rfl⟩)⟩
    · refine (kopen_long _ s (by omega) w1).mono ?_
      rintro e w' ⟨rfl, rfl⟩
      exact ⟨dIn_below h, .inr (.inl ⟨by omega, rfl⟩)⟩

theorem khard_nil (w : World) : Calls Tryz.prog 12 #[.pointer none] w fun e w' => ∃ a c a2 c2, e = .returned (.agg #[.int .i64 0, .int .i64 0, .int .i64 0, .int .i64 0, .slice a2 0 c2, .string ⟨#[]⟩, .slice a 0 c]) ∧ Below w.heap.size w w' := by
  refine (khard_any (kp := .pointer none) (ms := []) (es := []) (fun W _ => know_nil W) ⟨by simp, .inl ⟨rfl, rfl⟩⟩ ⟨_, _, rfl, .inl rfl⟩ (by simp)).mono ?_
  rintro e w' ⟨a, c, a2, c2, ns, rfl, _, _, hb, _⟩
  exact ⟨a, c, a2, c2, rfl, hb⟩

set_option maxRecDepth 100000 in
set_option maxHeartbeats 2000000 in
theorem keepNothing_any (s : ByteArray) (_hs : s.size ≤ 140737488351232) (k : Int) (_hk : -9223372036854775808 ≤ k ∧ k ≤ 9223372036854775807) (w : World) (hT : NibAt w) :
    Calls Tryz.prog 4 #[.string s, .int .i64 k] w fun e w' => e = .returned (.bool true) ∧ Below w.heap.size w w' := by
  have HT := Lib.hid hT
  clear hT
  by_cases hlong : 300 < (s.size : Int)
  · go_enter Tryz.func4, Tryz.ntmps4
    go_wp2_with fail
    refine (kawake_any HT.out).mono ?_
    rintro e w1 ⟨rfl, hb⟩
    go_wp2
    go_ret
    exact ⟨rfl, hb⟩
  · go_enter Tryz.func4, Tryz.ntmps4
    go_wp2_with fail
    refine (dnew_any 1000 w (by omega) (by omega)).mono ?_
    rintro e w1 h1
    rcases h1 with ⟨h1, _⟩ | ⟨_, _, rfl, hw1⟩
    · exact absurd ⟨by omega, by omega⟩ h1
    obtain ⟨g, hg⟩ : ∃ g, g = w.heap.size := ⟨_, rfl⟩
    have hd1 := dIn_new0 (room := 1000) hw1
    rw [← hg] at hd1 ⊢
    have HOP := Lib.hid (kopn_any hd1 s)
    clear hd1 hw1 hg
    go_wp2_with fail
    refine HOP.out.mono ?_
    rintro e w2 ⟨hb2, hcase⟩
    have HB2 := Lib.hid hb2
    clear hb2 HOP
    have hm0 : 0 ≤ max k 0 := by omega
    have HV1 := Lib.hid (kvote_nil (max k 0) 0 true 6 rfl (fun W ps => vfits_yes hm0 (by decide)))
    have HV2 := Lib.hid (kvote_nil (-1) 0 false 1 rfl (fun W ps => vfits_no (by decide)))
    rcases hcase with ⟨rfl, rfl⟩ | ⟨hz, rfl⟩ | ⟨hz0, hz1, kb, rfl⟩
    · go_wp2_with fail
      refine (khard_nil _).mono ?_
      rintro e w3 ⟨a, c, a2, c2, rfl, hb3⟩
      have HB3 := Lib.hid (below_then HB2.out hb3)
      clear hb3
      go_wp2_with fail
      refine (ref_hard_none _ _ _ _ _ _ _ _ _).mono ?_
      rintro e w4 ⟨rfl, hb4⟩
      have HB4 := Lib.hid (below_then HB3.out hb4)
      clear hb4
      go_wp2_with fail
      refine (HV1.out _).mono ?_
      rintro e w5 ⟨rfl, hb5⟩
      have HB5 := Lib.hid (below_then HB4.out hb5)
      clear hb5
      go_wp2_with fail
      refine (HV2.out _).mono ?_
      rintro e w6 ⟨rfl, hb6⟩
      have HB6 := Lib.hid (below_then HB5.out hb6)
      clear hb6
      go_wp2_with fail
      refine (kawake_any (nib_stay HT.out HB6.out)).mono ?_
      rintro e w7 ⟨rfl, hb7⟩
      have HB7 := Lib.hid (below_then HB6.out hb7)
      clear hb7
      go_wp2
      go_ret
      exact ⟨rfl, HB7.out⟩
    · have he : s.toList.isEmpty = false := emptyNo (by omega)
      go_wp2_with fail
      refine (khard_nil _).mono ?_
      rintro e w3 ⟨a, c, a2, c2, rfl, hb3⟩
      have HB3 := Lib.hid (below_then HB2.out hb3)
      clear hb3
      go_wp2_with fail
      refine (ref_hard_none _ _ _ _ _ _ _ _ _).mono ?_
      rintro e w4 ⟨rfl, hb4⟩
      have HB4 := Lib.hid (below_then HB3.out hb4)
      clear hb4
      go_wp2_with fail
      refine (HV1.out _).mono ?_
      rintro e w5 ⟨rfl, hb5⟩
      have HB5 := Lib.hid (below_then HB4.out hb5)
      clear hb5
      go_wp2_with fail
      refine (HV2.out _).mono ?_
      rintro e w6 ⟨rfl, hb6⟩
      have HB6 := Lib.hid (below_then HB5.out hb6)
      clear hb6
      go_wp2_with fail
      refine (kawake_any (nib_stay HT.out HB6.out)).mono ?_
      rintro e w7 ⟨rfl, hb7⟩
      have HB7 := Lib.hid (below_then HB6.out hb7)
      clear hb7
      go_wp2
      go_ret
      exact ⟨rfl, HB7.out⟩
    · have he : s.toList.isEmpty = false := emptyNo (by omega)
      have hz : ¬ 40 < (s.size : Int) := by omega
      go_wp2_with fail
      refine (khard_nil _).mono ?_
      rintro e w3 ⟨a, c, a2, c2, rfl, hb3⟩
      have HB3 := Lib.hid (below_then HB2.out hb3)
      clear hb3
      go_wp2_with fail
      refine (ref_hard_none _ _ _ _ _ _ _ _ _).mono ?_
      rintro e w4 ⟨rfl, hb4⟩
      have HB4 := Lib.hid (below_then HB3.out hb4)
      clear hb4
      go_wp2_with fail
      refine (HV1.out _).mono ?_
      rintro e w5 ⟨rfl, hb5⟩
      have HB5 := Lib.hid (below_then HB4.out hb5)
      clear hb5
      go_wp2_with fail
      refine (HV2.out _).mono ?_
      rintro e w6 ⟨rfl, hb6⟩
      have HB6 := Lib.hid (below_then HB5.out hb6)
      clear hb6
      go_wp2_with fail
      refine (kawake_any (nib_stay HT.out HB6.out)).mono ?_
      rintro e w7 ⟨rfl, hb7⟩
      have HB7 := Lib.hid (below_then HB6.out hb7)
      clear hb7
      go_wp2
      go_ret
      exact ⟨by rw [decide_eq_false (show ¬ 40 < (s.size : Int) by omega)]; rfl, HB7.out⟩

set_option maxRecDepth 100000
theorem keepNothing_own : ownKnob Tryz.prog.godebug = none := by kernel_rfl

theorem keepNothing_contract (H : Type) (enc : TypeId × Value → H) (W : World) (base : Nat) (args : Array Value) (ds gs : List (DataW H)) (before : List MemPlace)
    (hval0 : ∀ (j : Nat) t v, Tryz.f4.params[j]? = some t → args[j]? = some v → Value.okWide Tryz.prog W .any base t v)
    (hW : DataW.Whole enc Tryz.prog Tryz.f4.params.toList Rows.keepNothingSpec.vars false W args.toList ds gs before) {vt : List TypeId}
    (hsz0 : (DataW.weightsEach Tryz.prog (Tryz.f4.params.toList ++ vt) (ds ++ gs)).all (· ≤ reachBytes) = true) (hL : laidMetH Tryz.prog Rows.keepNothingRow.laid W) :
    Calls Tryz.prog 4 args W fun e W' => ∃ v, e = .returned v ∧ Rows.keepNothingSpec.post enc Tryz.prog Tryz.f4 false true false false W args v W' := by
  refine law_contract (by kernel_rfl) (of_decide_eq_true (by kernel_rfl)) (tb := 4) (by kernel_rfl) Tryz.underlying4 rfl (fun ds h => by match ds, h with | [d0, d1], _ => exact ⟨rfl, rfl, rfl⟩) hW hsz0 ?_
  intro p hA0 hlt hszz
  have hval := hval0
  have hA : DataW.TrodAll enc Tryz.prog W 0 (fun _ => true) true Tryz.f4.params.toList args.toList ds p := hA0
  have hsz : (DataW.weightsEach Tryz.prog Tryz.f4.params.toList ds).all (· ≤ reachBytes) = true := hszz
  clear hval0 hA0 hszz hsz0 hW
  rw [Tryz.params4] at hA hval hsz
  obtain ⟨v0, vs0, d0, ds0, p0, q0, hargs, rfl, rfl, h0, r0⟩ := trodAll_cons hA
  obtain ⟨v1, vs1, d1, ds1, p1, q1, rfl, rfl, rfl, h1, r1⟩ := trodAll_cons r0
  obtain ⟨rfl, rfl, rfl⟩ := trodAll_nil r1
  obtain rfl : args = #[v0, v1] := by cases args; simp_all
  obtain ⟨a0, rfl, rfl, rfl, w0⟩ := open_string Tryz.underlying9 (hval 0 9 v0 rfl rfl) h0
  have z0 := sized_string hsz (j := 0) rfl rfl
  rw [size_data] at z0
  obtain ⟨a1, rfl, rfl, rfl, w1⟩ := open_int Tryz.underlying3 (hval 1 3 v1 rfl rfl) h1
  exact keepNothing_any (w := W) a0 z0 a1 (bounds_i64 w1) (nib_of hL)

noncomputable def keepNothing_world (os : Os) : World := laidIn Tryz.prog Rows.keepNothingRow.laid (World.holding Tryz.prog os ⟨#[], #[], []⟩)

theorem keepNothing_met (os : Os) : laidMet Tryz.prog Rows.keepNothingRow.laid ((keepNothing_world os).forCall (fun _ _ => 0) ⟨#[], #[.string ByteArray.empty, .int .i64 0], []⟩).memory :=
  laidMet_of_run' 8 (by kernel_rfl) (by kernel_rfl)

theorem keepNothing_reads (os : Os) {H : Type} (enc : TypeId × Value → H) : ∃ places, DataW.whole enc Tryz.prog ((keepNothing_world os).forCall (fun _ _ => 0) ⟨#[], #[.string ByteArray.empty, .int .i64 0], []⟩).memory Tryz.f4.params.toList Rows.keepNothingSpec.vars false (#[.string ByteArray.empty, .int .i64 0] : Array Value).toList 8 = some ([.lit (.string []), .lit (.int .i64 0)], [], places) :=
  ⟨[], by kernel_rfl⟩

set_option maxRecDepth 100000 in
theorem keepNothing_lifted (os : Os) (started : os.Started) (H : Type) (enc : TypeId × Value → H) (F : Stop.Interp) :
    ReturnsInHanded {} Tryz.checked os 4 .any ((OpenSpec.ofChange Rows.keepNothingSpec).preRow enc Tryz.prog Tryz.f4 Rows.keepNothingRow.domain false Rows.keepNothingRow.laid) (((OpenSpec.ofChange Rows.keepNothingSpec).at F).post enc Tryz.prog Tryz.f4 false true false false) := by
  obtain ⟨places, hx⟩ := keepNothing_reads os enc
  refine returnsInHanded_of_row (C := Tryz.checked) (s := OpenSpec.ofChange Rows.keepNothingSpec) keepNothing_own started (by kernel_rfl) Tryz.func4
    (witness_row_at (enc := enc) (C := Tryz.checked) false (keepNothing_world os) #[.string ByteArray.empty, .int .i64 0] rfl (by kernel_rfl) (by kernel_rfl) (by kernel_rfl)
      (OpenSpec.preRow_of_cond 8 hx (by kernel_rfl) (fun k hk => by cases hk) (by kernel_rfl) (keepNothing_met os))) ?_
  intro W base args ds gs before hval hW _ _ hsz hL _ _
  exact keepNothing_contract H enc W base args ds gs before hval hW hsz hL

theorem keepNothing_said : Rows.KeepNothingSaid :=
  OpenClaim.holds_of_cond 4 Tryz.f4 rfl rfl rfl rfl rfl rfl rfl ⟨rfl, rfl, rfl, rfl, rfl⟩ rfl rfl rfl rfl rfl (by kernel_rfl) Tryz.func4 (by kernel_rfl)
    (of_decide_eq_true (by kernel_rfl)) (by unfold Func.isWrapper; first | (rw [if_pos (by decide +kernel)]; kernel_rfl) | (rw [if_neg (by decide +kernel)]; exact ⟨rfl, rfl⟩))
    (fun os started H enc _ F => by rw [OpenClaim.pre_eq_preRow]; exact keepNothing_lifted os started H enc F)

theorem keepNothing_plain (f : FuncId) (fn : Func) (hf : Tryz.pinned.checked.prog.funcNamed Tryz.f4.name = some f) (hfn : Tryz.pinned.checked.prog.funcs[f]? = some fn) :
    false = Tryz.pinned.checked.prog.looks [] ∧ ∀ (j : Nat) t, fn.params[j]? = some t → Tryz.pinned.checked.prog.wantsStandIn t = false := by
  obtain rfl : f = 4 := Option.some.inj ((show Tryz.prog.funcNamed Tryz.f4.name = some 4 by kernel_rfl).symm.trans hf) |>.symm
  obtain rfl : fn = Tryz.f4 := (Option.some.inj (Tryz.func4.symm.trans hfn)).symm
  refine ⟨by kernel_rfl, fun j t ht => ?_⟩
  have hall : ∀ t ∈ Tryz.f4.params, Tryz.prog.wantsStandIn t = false := of_decide_eq_true (by kernel_rfl)
  exact hall t (Array.mem_of_getElem? ht)

theorem keepNothing_card : Rows.KeepNothingCardSaid :=
  Claim7.holds_tied_plain_at .later [] _ _ _ _ keepNothing_said (fun _ h => by cases h) (by kernel_rfl) (fun _ h => by cases h) keepNothing_row_tie rfl ⟨rfl, rfl⟩ (by kernel_rfl) rfl keepNothing_plain (by kernel_rfl)
#print axioms keepNothing_card

end Go.Proofs.YtdhiikmndpjjdaaGreatDoor
