/-
  FramePuts: for every list of slices of bytes the frame of all is what it should be, and so is the checksum; the law returns true, and what was there has not turned; the card's statement, its listed table tied to the program's text. Condition: what comes in is of bulk at most 1,048,576.
-/
import Derived.Lib.LaidTab
import Derived.Stop.LaidErr
import Derived.Deep.DeepHandedRow
import Derived.Test.YtblocggiljdamaaDoorCards
import Derived.Test.YtblocggiljdamaaDoorTie
import Derived.Test.YtblocggiljdamaaDoorProg
import Derived.Test.YtblocggiljdamaaDoorKit
import Derived.Test.YtblocggiljdamaaDoorLaw
import Derived.Test.YtblocggiljdamaaDoorRow
import Derived.Test.YtblocggiljdamaaDoorU32
import Derived.Test.YtblocggiljdamaaDoorCod5
import Derived.Test.YtblocggiljdamaaDoorCod7
import Derived.Test.YtblocggiljdamaaDoorCod9
import Derived.Test.YtblocggiljdamaaDoorJoin
import Derived.Test.YtblocggiljdamaaDoorLaw3
import Derived.Test.YtblocggiljdamaaDoorFrm0
import Derived.Test.YtblocggiljdamaaDoorFrm1
import Derived.Test.YtblocggiljdamaaDoorFrm3
import Derived.Test.YtblocggiljdamaaDoorFrm4
import Derived.Test.YtblocggiljdamaaDoorFrm5
import Derived.Test.YtblocggiljdamaaDoorFrm8
import Derived.Test.YtblocggiljdamaaDoorFrm12
import Derived.Test.YtblocggiljdamaaDoorNibs
namespace Go.Proofs.YtblocggiljdamaaDoor
open Go.ChangeShapes Go.WideShapes Go.ChangeAt Go.RowKit Go.Proofs
open Go.ChangeMaps (open_string shut_string)

theorem partsB_later {w w' : World} {v : Value} {ls : List (List UInt8)} (h : PartsB w w.heap.size v ls) (hb : Below w.heap.size w w') : PartsB w' w'.heap.size v ls := by
  rcases h with h | ⟨A, C, hv, h⟩
  · exact .inl h
  · refine .inr ⟨A, C, hv, ?_⟩
    rcases h with h | ⟨b, o, ha, hlt, h⟩
    · exact .inl h
    · refine .inr ⟨b, o, ha, Nat.lt_of_lt_of_le hlt hb.size, fun j l hj => ?_⟩
      obtain ⟨u, hu, hs⟩ := h j l hj
      exact ⟨u, by rw [hb.cell (p := ⟨b, o + j, none⟩) hlt]; exact hu, (hs.keep hb (Nat.le_refl _)).more3 hb.size⟩

set_option maxHeartbeats 1000000 in
theorem framePuts_any (v : Value) (ls : List (List UInt8)) (w : World) (hp : PartsB w w.heap.size v ls) (hl : ls.flatten.length ≤ 1048576) (hn : ls.length ≤ 1048576) (ht : NibAt w) :
    Calls Tryd.prog 3 #[v] w fun e w' => e = .returned (.bool true) ∧ Below w.heap.size w w' := by
  have HP := Lib.hid hp
  have HJ := Lib.hid (joined_any ls v w hp (by omega) (by omega))
  obtain ⟨A, C, rfl, _⟩ := PartsB.len hp
  clear hp
  obtain ⟨n, hnn⟩ : ∃ n, n = ls.length := ⟨_, rfl⟩
  rw [← hnn] at hn HP HJ ⊢
  have HNN := Lib.hid hnn
  obtain ⟨p, hpf⟩ : ∃ p, p = ls.flatten := ⟨_, rfl⟩
  rw [← hpf] at hl HJ
  have HPF := Lib.hid hpf
  obtain ⟨N, hN⟩ : ∃ N, N = p.length := ⟨_, rfl⟩
  rw [← hN] at hl HJ
  have HN := Lib.hid hN
  have HT := Lib.hid ht
  clear hnn hN hpf ht
  go_enter Tryd.func3, Tryd.ntmps3
  go_wp2_with fail
  refine (HJ.out).mono ?_
  rintro e w1 ⟨⟨v1, rfl, hown1⟩, hb1⟩
  obtain ⟨a1, c1, rfl⟩ := own_len hown1
  have HO1 := Lib.hid hown1
  have HB1 := Lib.hid hb1
  clear hown1 hb1 HJ
  by_cases h7 : (4000 : Int) < (N : Int)
  · go_wp2_with fail
    refine (awake3_any _ (nib_stay HT.out HB1.out)).mono ?_
    rintro e w' ⟨rfl, hb2⟩
    have HB2 := Lib.hid (below_then HB1.out hb2)
    clear hb2
    go_wp2
    go_ret
    exact ⟨rfl, HB2.out⟩
  by_cases h5 : (50 : Int) < (n : Int)
  · go_wp2_with fail
    refine (awake3_any _ (nib_stay HT.out HB1.out)).mono ?_
    rintro e w' ⟨rfl, hb2⟩
    have HB2 := Lib.hid (below_then HB1.out hb2)
    clear hb2
    go_wp2
    go_ret
    exact ⟨rfl, HB2.out⟩
  have HSM : Hid (N ≤ 4000) := Lib.hid (by omega)
  have HFL : Hid (ls.flatten.length < 4294967296) := Lib.hid (by rw [← HPF.out, ← HN.out]; omega)
  have HLN : Hid (ls.length < 9223372036854775807) := Lib.hid (by rw [← HNN.out]; omega)
  have hpl := partsB_later HP.out HB1.out
  have HPUT := Lib.hid (put_any ls _ w1 hpl (nib_stay HT.out HB1.out) HFL.out HLN.out)
  clear hpl hl hn
  go_wp2_with fail
  refine (HPUT.out).mono ?_
  rintro e w2 ⟨hpv, hb2⟩
  unfold putV at hpv
  rw [← HPF.out, ← HN.out] at hpv
  have hN2 := HSM.out
  rcases hpv with ⟨_, g, C2, rfl, hown2⟩ | ⟨h, _⟩
  case inr => omega
  have HO2 := Lib.hid hown2
  have HB2 := Lib.hid (below_then HB1.out hb2)
  have hs2 := own_sl (own_below HO1.out hb2)
  have HREF := Lib.hid (refput_any p _ w2 hs2 (by rw [← HN.out]; omega))
  have HO12 := Lib.hid (own_below HO1.out hb2)
  clear hown2 hb2 hs2 hN2 HPUT
  go_wp2_with fail
  refine (HREF.out).mono ?_
  rintro e w3 ⟨hpv, hb3⟩
  unfold putV at hpv
  rw [flat_one, ← HN.out] at hpv
  have hN2 := HSM.out
  rcases hpv with ⟨_, g3, C3, rfl, hown3⟩ | ⟨h, _⟩
  case inr => omega
  have hown2' := own_below HO2.out hb3
  have HB3 := Lib.hid (below_then HB2.out hb3)
  have HO13 := Lib.hid (own_below HO12.out hb3)
  have HBY := Lib.hid (bytes_same (frameS p) _ _ w3 (by rw [frameS_len, ← HN.out]; omega) (own_sliceAt hown2') (own_sliceAt hown3))
  clear hown2' hown3 hb3 hN2 HREF HO2 HO12
  go_wp2_with fail
  refine (HBY.out).mono ?_
  rintro e w4 ⟨rfl, hd4⟩
  have HB4 := Lib.hid (below_draws HB3.out hd4)
  have hown14 := own_below HO13.out (below_draws (Below.refl _ _) hd4)
  have HO14 := Lib.hid hown14
  clear hd4 hown14 HBY
  go_wp2_with fail
  refine (crc_any ls _ w4 (PartsB.at (partsB_later HP.out HB4.out)) (nib_stay HT.out HB4.out) HFL.out HLN.out).mono ?_
  rintro e w5 ⟨rfl, hb5⟩
  rw [← HPF.out]
  have HB5 := Lib.hid (below_then HB4.out hb5)
  have HSA := Lib.hid (own_sliceAt (own_below HO14.out hb5))
  clear hb5
  unfold wV
  obtain ⟨X, hX⟩ : ∃ X, X = crcS p := ⟨_, rfl⟩
  rw [← hX]
  go_wp2_with fail
  refine (refcrc_any p _ w5 HSA.out (by rw [← HN.out]; have := HSM.out; omega)).mono ?_
  rintro e w6 ⟨rfl, hb6⟩
  rw [← hX]
  have HB6 := Lib.hid (below_then HB5.out hb6)
  clear hb6 hX
  unfold wV
  go_wp2_with fail
  refine (awake3_any _ (nib_stay HT.out HB6.out)).mono ?_
  rintro e w7 ⟨rfl, hb7⟩
  have HB7 := Lib.hid (below_then HB6.out hb7)
  clear hb7
  go_wp2
  go_ret
  exact ⟨rfl, HB7.out⟩

theorem framePuts_own : ownKnob Tryd.prog.godebug = none := by kernel_rfl

theorem framePuts_contract (H : Type) (enc : TypeId × Value → H) (W : World) (base : Nat) (args : Array Value) (ds gs : List (DataW H)) (before : List MemPlace)
    (hval0 : ∀ (j : Nat) t v, Tryd.f3.params[j]? = some t → args[j]? = some v → Value.okWide Tryd.prog W .any base t v)
    (hW : DataW.Whole enc Tryd.prog Tryd.f3.params.toList Rows.framePutsSpec.vars false W args.toList ds gs before) {vt : List TypeId} (hk : Rows.uptoSmall H (ds ++ gs) = true)
    (hsz0 : (DataW.weightsEach Tryd.prog (Tryd.f3.params.toList ++ vt) (ds ++ gs)).all (· ≤ reachBytes) = true) (hL : laidMetH Tryd.prog Rows.framePutsUptoRow.laid W) :
    Calls Tryd.prog 3 args W fun e W' => ∃ v, e = .returned v ∧ Rows.framePutsSpec.post enc Tryd.prog Tryd.f3 false true false false W args v W' := by
  refine law_contract (by kernel_rfl) (of_decide_eq_true (by kernel_rfl)) (tb := 4) (by kernel_rfl) Tryd.underlying4 rfl (fun ds h => by match ds, h with | [d0], _ => exact ⟨rfl, rfl, rfl⟩) hW hsz0 ?_
  intro p hA0 hlt hszz
  have hval := hval0
  have hA : DataW.TrodAll enc Tryd.prog W 0 (fun _ => true) true Tryd.f3.params.toList args.toList ds p := hA0
  have hsz : (DataW.weightsEach Tryd.prog Tryd.f3.params.toList ds).all (· ≤ reachBytes) = true := hszz
  clear hval0 hA0 hszz hsz0 hW
  rw [Tryd.params3] at hA hval hsz
  obtain ⟨v0, vs0, d0, ds0, p0, q0, hargs, rfl, rfl, h0, r0⟩ := trodAll_cons hA
  obtain ⟨rfl, rfl, rfl⟩ := trodAll_nil r0
  obtain rfl : args = #[v0] := by cases args; simp_all
  have hbk : Rows.uptoBulkAll ([d0] ++ gs) ≤ 1048576 := of_decide_eq_true hk
  simp only [List.cons_append, List.nil_append, Rows.uptoBulkAll] at hbk
  obtain ⟨a0, g0, z0, y0⟩ := open_parts Tryd.underlying22 Tryd.underlying23 Tryd.underlying5 (by kernel_rfl) (by kernel_rfl) (hval 0 22 v0 rfl rfl) h0
  exact framePuts_any (w := W) v0 a0 g0 (by omega) (by omega) (nib_of hL)

noncomputable def framePuts_world (os : Os) : World := laidIn Tryd.prog Rows.framePutsUptoRow.laid (World.holding Tryd.prog os ⟨#[], #[], []⟩)

theorem framePuts_met (os : Os) : laidMet Tryd.prog Rows.framePutsUptoRow.laid ((framePuts_world os).forCall (fun _ _ => 0) ⟨#[], #[.slice none 0 0], []⟩).memory :=
  laidMet_of_run' 8 (by kernel_rfl) (by kernel_rfl)

theorem framePuts_reads (os : Os) {H : Type} (enc : TypeId × Value → H) : ∃ places, DataW.whole enc Tryd.prog ((framePuts_world os).forCall (fun _ _ => 0) ⟨#[], #[.slice none 0 0], []⟩).memory Tryd.f3.params.toList Rows.framePutsSpec.vars false (#[.slice none 0 0] : Array Value).toList 8 = some ([.nil], [], places) :=
  ⟨[], by kernel_rfl⟩

set_option maxRecDepth 100000 in
theorem framePuts_lifted (os : Os) (started : os.Started) (H : Type) (enc : TypeId × Value → H) (F : Stop.Interp) :
    ReturnsInHanded {} Tryd.checked os 3 .any ((Rows.OpenSpec.upto Rows.framePutsSpec).preRow enc Tryd.prog Tryd.f3 Rows.framePutsUptoRow.domain false Rows.framePutsUptoRow.laid) (((Rows.OpenSpec.upto Rows.framePutsSpec).at F).post enc Tryd.prog Tryd.f3 false true false false) := by
  obtain ⟨places, hx⟩ := framePuts_reads os enc
  refine returnsInHanded_of_row (C := Tryd.checked) (s := Rows.OpenSpec.upto Rows.framePutsSpec) framePuts_own started (by kernel_rfl) Tryd.func3
    (witness_row_at (enc := enc) (C := Tryd.checked) false (framePuts_world os) #[.slice none 0 0] rfl (by kernel_rfl) (by kernel_rfl) (by kernel_rfl)
      (OpenSpec.preRow_of_cond 8 hx (by kernel_rfl) (fun k hk => by cases hk; kernel_rfl) (by kernel_rfl) (framePuts_met os))) ?_
  intro W base args ds gs before hval hW _ hcond hsz hL _ _
  exact framePuts_contract H enc W base args ds gs before hval hW (hcond _ rfl) hsz hL

theorem framePuts_said : Rows.FramePutsUptoSaid :=
  OpenClaim.holds_of_cond 3 Tryd.f3 rfl rfl rfl rfl rfl rfl rfl ⟨rfl, rfl, rfl, rfl, rfl⟩ rfl rfl rfl rfl rfl (by kernel_rfl) Tryd.func3 (by kernel_rfl)
    (of_decide_eq_true (by kernel_rfl)) (by unfold Func.isWrapper; first | (rw [if_pos (by decide +kernel)]; kernel_rfl) | (rw [if_neg (by decide +kernel)]; exact ⟨rfl, rfl⟩))
    (fun os started H enc _ F => by rw [OpenClaim.pre_eq_preRow]; exact framePuts_lifted os started H enc F)

theorem framePuts_plain (f : FuncId) (fn : Func) (hf : Tryd.pinned.checked.prog.funcNamed Tryd.f3.name = some f) (hfn : Tryd.pinned.checked.prog.funcs[f]? = some fn) :
    false = Tryd.pinned.checked.prog.looks [] ∧ ∀ (j : Nat) t, fn.params[j]? = some t → Tryd.pinned.checked.prog.wantsStandIn t = false := by
  obtain rfl : f = 3 := Option.some.inj ((show Tryd.prog.funcNamed Tryd.f3.name = some 3 by kernel_rfl).symm.trans hf) |>.symm
  obtain rfl : fn = Tryd.f3 := (Option.some.inj (Tryd.func3.symm.trans hfn)).symm
  refine ⟨by kernel_rfl, fun j t ht => ?_⟩
  have hall : ∀ t ∈ Tryd.f3.params, Tryd.prog.wantsStandIn t = false := of_decide_eq_true (by kernel_rfl)
  exact hall t (Array.mem_of_getElem? ht)

theorem framePuts_card : Rows.FramePutsUptoCardSaid :=
  Claim7.holds_tied_plain_at .later [] _ _ _ _ framePuts_said (fun _ h => by cases h) (by kernel_rfl) (fun _ h => by cases h) framePutsUpto_row_tie rfl ⟨rfl, rfl⟩ (by kernel_rfl) rfl framePuts_plain (by kernel_rfl)
#print axioms framePuts_card

end Go.Proofs.YtblocggiljdamaaDoor
