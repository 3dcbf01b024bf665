/-
  HostBack: what was read is read as itself, and is a name just when it is no address; an address that is written is read; the card's statement, its listed tables tied to the program's text. No condition.
-/
import Derived.Stop.LaidErr
import Derived.Deep.DeepHandedRow
import Derived.Test.YtmfchplplpiogaaDoorCards
import Derived.Test.YtmfchplplpiogaaDoorTie
import Derived.Test.YtmfchplplpiogaaDoorProg
import Derived.Test.YtmfchplplpiogaaDoorKit
import Derived.Test.YtmfchplplpiogaaDoorLaw
import Derived.Test.YtmfchplplpiogaaDoorRow
import Derived.Test.YtmfchplplpiogaaDoorCod7
import Derived.Test.YtmfchplplpiogaaDoorFrm4
import Derived.Test.YtmfchplplpiogaaDoorHst0
import Derived.Test.YtmfchplplpiogaaDoorHst1
import Derived.Test.YtmfchplplpiogaaDoorHst2
import Derived.Test.YtmfchplplpiogaaDoorHst3
import Derived.Test.YtmfchplplpiogaaDoorHst6
import Derived.Test.YtmfchplplpiogaaDoorHst7
import Derived.Test.YtmfchplplpiogaaDoorHst8
import Derived.Test.YtmfchplplpiogaaDoorHst9
namespace Go.Proofs.YtmfchplplpiogaaDoor
open Go.ChangeShapes Go.WideShapes Go.ChangeAt Go.RowKit Go.Proofs
open Go.ChangeMaps (open_string shut_string)

theorem hostBack_any (s : ByteArray) (hs : s.size ≤ 140737488351232) (a : Int) (ha : 0 ≤ a ∧ a ≤ 4294967295) (w : World) (hT : Tab10 w) :
    Calls Tryd.prog 5 #[.string s, .int .u32 a] w fun e w' => e = .returned (.bool true) ∧ Below w.heap.size w w' := by
  have HT := Lib.hid hT
  clear hT
  by_cases hlong : 600 < (s.size : Int)
  · go_enter Tryd.func5, Tryd.ntmps5
    go_wp2_with fail
    refine (hawake_any _ HT.out).mono ?_
    rintro e w' ⟨rfl, hb1⟩
    go_wp2
    go_ret
    exact ⟨rfl, hb1⟩
  · obtain ⟨n, hn⟩ : ∃ n : Nat, (n : Int) = a := ⟨a.toNat, by omega⟩
    have hn32 : n < 4294967296 := by omega
    obtain ⟨T, hTT⟩ : ∃ T : ByteArray, T = ⟨(textL n).toArray⟩ := ⟨_, rfl⟩
    have hTl : T.data.toList = textL n := by rw [hTT]
    have hTs : T.size ≤ 1073741824 := by rw [hTT, mk_size]; exact Nat.le_trans (text_size n) (by decide)
    have C5 := Lib.hid (fun W (hT : Tab10 W) => htext_any n hn32 W hT)
    rw [hn, ← hTT] at C5
    have C6 := Lib.hid (fun W => hnumber_any T hTs W)
    rw [hTl, number_text n hn32, show ((optN (some n) : Nat) : Int) = a from hn, show (some n).isSome = true from rfl] at C6
    have C7 := Lib.hid (fun W (hT : Tab10 W) => haddress_any T hTs W hT)
    rw [hTl, address_text n hn32, show ((optN (some n) : Nat) : Int) = a from hn, show (some n).isSome = true from rfl] at C7
    have C8 := Lib.hid (fun W (hT : Tab10 W) => hdomain_any T hTs W hT)
    rw [hTl, domain_text n hn32] at C8
    have haa : (a == a) = true := beq_self_eq_true _
    clear hTT hTl hTs
    have C0 := Lib.hid (fun W (hT : Tab10 W) => hparse_any s (by omega) W hT)
    obtain ⟨o, ho⟩ : ∃ o, o = hostP s.data.toList := ⟨_, rfl⟩
    rw [← ho] at C0
    cases o with
    | none =>
      have C1 : Hid (∀ W, Tab10 W → Calls Tryd.prog 10 #[.string s] W fun e w' => e = .returned (.tuple #[.string ByteArray.empty, .int .i64 8]) ∧ Below W.heap.size W w') := C0
      clear C0 ho hn hn32
      go_enter Tryd.func5, Tryd.ntmps5
      go_wp2_with fail
      refine (C1.out _ HT.out).mono ?_
      rintro e w1 ⟨rfl, hb1⟩
      have HB1 := Lib.hid (hb1)
      clear hb1
      go_wp2_with fail
      refine (C5.out _ (tab10_below HT.out HB1.out)).mono ?_
      rintro e w2 ⟨rfl, hb2⟩
      have HB2 := Lib.hid (below_then HB1.out hb2)
      clear hb2
      go_wp2_with fail
      refine (C6.out _).mono ?_
      rintro e w3 ⟨rfl, hb3⟩
      have HB3 := Lib.hid (below_then HB2.out hb3)
      clear hb3
      go_wp2_with fail
      refine (C5.out _ (tab10_below HT.out HB3.out)).mono ?_
      rintro e w4 ⟨rfl, hb4⟩
      have HB4 := Lib.hid (below_then HB3.out hb4)
      clear hb4
      go_wp2_with fail
      refine (C7.out _ (tab10_below HT.out HB4.out)).mono ?_
      rintro e w5 ⟨rfl, hb5⟩
      have HB5 := Lib.hid (below_then HB4.out hb5)
      clear hb5
      go_wp2_with fail
      refine (C5.out _ (tab10_below HT.out HB5.out)).mono ?_
      rintro e w6 ⟨rfl, hb6⟩
      have HB6 := Lib.hid (below_then HB5.out hb6)
      clear hb6
      go_wp2_with fail
      refine (C8.out _ (tab10_below HT.out HB6.out)).mono ?_
      rintro e w7 ⟨rfl, hb7⟩
      have HB7 := Lib.hid (below_then HB6.out hb7)
      clear hb7
      go_wp2_with fail
      refine (hawake_any _ (tab10_below HT.out HB7.out)).mono ?_
      rintro e w8 ⟨rfl, hb8⟩
      have HB8 := Lib.hid (below_then HB7.out hb8)
      clear hb8
      go_wp2
      go_ret
      exact ⟨rfl, HB8.out⟩
    | some h =>
      obtain ⟨H, hH⟩ : ∃ H : ByteArray, H = ⟨h.toArray⟩ := ⟨_, rfl⟩
      have hHl : H.data.toList = h := by rw [hH]
      have C1 : Hid (∀ W, Tab10 W → Calls Tryd.prog 10 #[.string s] W fun e w' => e = .returned (.tuple #[.string H, .int .i64 0]) ∧ Below W.heap.size W w') := Lib.hid (by rw [hH]; exact C0.out)
      have hHs : H.size ≤ 1073741824 := by
        rw [hH, mk_size]
        have := host_size ho.symm
        rw [size_data] at this
        omega
      have hhost := host_host ho.symm
      have D1' := fun W (hT : Tab10 W) => hparse_any H hHs W hT
      rw [hHl, hhost] at D1'
      have D1 : Hid (∀ W, Tab10 W → Calls Tryd.prog 10 #[.string H] W fun e w' => e = .returned (.tuple #[.string H, .int .i64 0]) ∧ Below W.heap.size W w') := Lib.hid (by
        have e : hostB (some h) = H := by rw [hH]; rfl
        rw [e] at D1'
        exact D1')
      have D2 := Lib.hid (fun W (hT : Tab10 W) => haddress_any H hHs W hT)
      have D3 := Lib.hid (fun W (hT : Tab10 W) => hdomain_any H hHs W hT)
      rw [hHl] at D2 D3
      have hdom : domainP h = !(addressP h).isSome := by
        unfold domainP
        rw [decide_eq_true hhost, Bool.true_and]
        cases addressP h <;> rfl
      rw [hdom] at D3
      obtain ⟨B, hB⟩ : ∃ B, B = (addressP h).isSome := ⟨_, rfl⟩
      obtain ⟨M, hM⟩ : ∃ M : Int, M = ((optN (addressP h) : Nat) : Int) := ⟨_, rfl⟩
      rw [← hB] at D2 D3
      rw [← hM] at D2
      have hxx : (H.toList == H.toList) = true := beq_self_eq_true _
      clear C0 ho hn hn32 hhost hdom hB hM hH hHl D1' hHs
      cases B
      · simp only [Bool.not_false] at D3
        go_enter Tryd.func5, Tryd.ntmps5
        go_wp2_with fail
        refine (C1.out _ HT.out).mono ?_
        rintro e w1 ⟨rfl, hb1⟩
        have HB1 := Lib.hid (hb1)
        clear hb1
        go_wp2_with fail
        refine (D1.out _ (tab10_below HT.out HB1.out)).mono ?_
        rintro e w2 ⟨rfl, hb2⟩
        have HB2 := Lib.hid (below_then HB1.out hb2)
        clear hb2
        go_wp2_with fail
        refine (D2.out _ (tab10_below HT.out HB2.out)).mono ?_
        rintro e w3 ⟨rfl, hb3⟩
        have HB3 := Lib.hid (below_then HB2.out hb3)
        clear hb3
        go_wp2_with fail
        refine (D3.out _ (tab10_below HT.out HB3.out)).mono ?_
        rintro e w4 ⟨rfl, hb4⟩
        have HB4 := Lib.hid (below_then HB3.out hb4)
        clear hb4
        go_wp2_with fail
        refine (C5.out _ (tab10_below HT.out HB4.out)).mono ?_
        rintro e w5 ⟨rfl, hb5⟩
        have HB5 := Lib.hid (below_then HB4.out hb5)
        clear hb5
        go_wp2_with fail
        refine (C6.out _).mono ?_
        rintro e w6 ⟨rfl, hb6⟩
        have HB6 := Lib.hid (below_then HB5.out hb6)
        clear hb6
        go_wp2_with fail
        refine (C5.out _ (tab10_below HT.out HB6.out)).mono ?_
        rintro e w7 ⟨rfl, hb7⟩
        have HB7 := Lib.hid (below_then HB6.out hb7)
        clear hb7
        go_wp2_with fail
        refine (C7.out _ (tab10_below HT.out HB7.out)).mono ?_
        rintro e w8 ⟨rfl, hb8⟩
        have HB8 := Lib.hid (below_then HB7.out hb8)
        clear hb8
        go_wp2_with fail
        refine (C5.out _ (tab10_below HT.out HB8.out)).mono ?_
        rintro e w9 ⟨rfl, hb9⟩
        have HB9 := Lib.hid (below_then HB8.out hb9)
        clear hb9
        go_wp2_with fail
        refine (C8.out _ (tab10_below HT.out HB9.out)).mono ?_
        rintro e w10 ⟨rfl, hb10⟩
        have HB10 := Lib.hid (below_then HB9.out hb10)
        clear hb10
        go_wp2_with fail
        refine (hawake_any _ (tab10_below HT.out HB10.out)).mono ?_
        rintro e w11 ⟨rfl, hb11⟩
        have HB11 := Lib.hid (below_then HB10.out hb11)
        clear hb11
        go_wp2
        go_ret
        exact ⟨rfl, HB11.out⟩
      · simp only [Bool.not_true] at D3
        go_enter Tryd.func5, Tryd.ntmps5
        go_wp2_with fail
        refine (C1.out _ HT.out).mono ?_
        rintro e w1 ⟨rfl, hb1⟩
        have HB1 := Lib.hid (hb1)
        clear hb1
        go_wp2_with fail
        refine (D1.out _ (tab10_below HT.out HB1.out)).mono ?_
        rintro e w2 ⟨rfl, hb2⟩
        have HB2 := Lib.hid (below_then HB1.out hb2)
        clear hb2
        go_wp2_with fail
        refine (D2.out _ (tab10_below HT.out HB2.out)).mono ?_
        rintro e w3 ⟨rfl, hb3⟩
        have HB3 := Lib.hid (below_then HB2.out hb3)
        clear hb3
        go_wp2_with fail
        refine (D3.out _ (tab10_below HT.out HB3.out)).mono ?_
        rintro e w4 ⟨rfl, hb4⟩
        have HB4 := Lib.hid (below_then HB3.out hb4)
        clear hb4
        go_wp2_with fail
        refine (C5.out _ (tab10_below HT.out HB4.out)).mono ?_
        rintro e w5 ⟨rfl, hb5⟩
        have HB5 := Lib.hid (below_then HB4.out hb5)
        clear hb5
        go_wp2_with fail
        refine (C6.out _).mono ?_
        rintro e w6 ⟨rfl, hb6⟩
        have HB6 := Lib.hid (below_then HB5.out hb6)
        clear hb6
        go_wp2_with fail
        refine (C5.out _ (tab10_below HT.out HB6.out)).mono ?_
        rintro e w7 ⟨rfl, hb7⟩
        have HB7 := Lib.hid (below_then HB6.out hb7)
        clear hb7
        go_wp2_with fail
        refine (C7.out _ (tab10_below HT.out HB7.out)).mono ?_
        rintro e w8 ⟨rfl, hb8⟩
        have HB8 := Lib.hid (below_then HB7.out hb8)
        clear hb8
        go_wp2_with fail
        refine (C5.out _ (tab10_below HT.out HB8.out)).mono ?_
        rintro e w9 ⟨rfl, hb9⟩
        have HB9 := Lib.hid (below_then HB8.out hb9)
        clear hb9
        go_wp2_with fail
        refine (C8.out _ (tab10_below HT.out HB9.out)).mono ?_
        rintro e w10 ⟨rfl, hb10⟩
        have HB10 := Lib.hid (below_then HB9.out hb10)
        clear hb10
        go_wp2_with fail
        refine (hawake_any _ (tab10_below HT.out HB10.out)).mono ?_
        rintro e w11 ⟨rfl, hb11⟩
        have HB11 := Lib.hid (below_then HB10.out hb11)
        clear hb11
        go_wp2
        go_ret
        exact ⟨rfl, HB11.out⟩

theorem hostBack_own : ownKnob Tryd.prog.godebug = none := by kernel_rfl

theorem hostBack_contract (H : Type) (enc : TypeId × Value → H) (W : World) (base : Nat) (args : Array Value) (ds gs : List (DataW H)) (before : List MemPlace)
    (hval0 : ∀ (j : Nat) t v, Tryd.f5.params[j]? = some t → args[j]? = some v → Value.okWide Tryd.prog W .any base t v)
    (hW : DataW.Whole enc Tryd.prog Tryd.f5.params.toList Rows.hostBackSpec.vars false W args.toList ds gs before) {vt : List TypeId}
    (hsz0 : (DataW.weightsEach Tryd.prog (Tryd.f5.params.toList ++ vt) (ds ++ gs)).all (· ≤ reachBytes) = true) (hL : laidMetH Tryd.prog Rows.hostBackRow.laid W) :
    Calls Tryd.prog 5 args W fun e W' => ∃ v, e = .returned v ∧ Rows.hostBackSpec.post enc Tryd.prog Tryd.f5 false true false false W args v W' := by
  refine law_contract (by kernel_rfl) (of_decide_eq_true (by kernel_rfl)) (tb := 4) (by kernel_rfl) Tryd.underlying4 rfl (fun ds h => by match ds, h with | [d0, d1], _ => exact ⟨rfl, rfl, rfl⟩) hW hsz0 ?_
  intro p hA0 hlt hszz
  have hval := hval0
  have hA : DataW.TrodAll enc Tryd.prog W 0 (fun _ => true) true Tryd.f5.params.toList args.toList ds p := hA0
  have hsz : (DataW.weightsEach Tryd.prog Tryd.f5.params.toList ds).all (· ≤ reachBytes) = true := hszz
  clear hval0 hA0 hszz hsz0 hW
  rw [Tryd.params5] at hA hval hsz
  obtain ⟨v0, vs0, d0, ds0, p0, q0, hargs, rfl, rfl, h0, r0⟩ := trodAll_cons hA
  obtain ⟨v1, vs1, d1, ds1, p1, q1, rfl, rfl, rfl, h1, r1⟩ := trodAll_cons r0
  obtain ⟨rfl, rfl, rfl⟩ := trodAll_nil r1
  obtain rfl : args = #[v0, v1] := by cases args; simp_all
  obtain ⟨a0, rfl, rfl, rfl, w0⟩ := open_string Tryd.underlying9 (hval 0 9 v0 rfl rfl) h0
  have z0 := sized_string hsz (j := 0) rfl rfl
  rw [size_data] at z0
  obtain ⟨a1, rfl, rfl, rfl, w1⟩ := open_int Tryd.underlying29 (hval 1 29 v1 rfl rfl) h1
  exact hostBack_any (w := W) a0 z0 a1 (bounds_u32 w1) (tab10_of hL)

noncomputable def hostBack_world (os : Os) : World := laidIn Tryd.prog Rows.hostBackRow.laid (World.holding Tryd.prog os ⟨#[], #[], []⟩)

theorem hostBack_met (os : Os) : laidMet Tryd.prog Rows.hostBackRow.laid ((hostBack_world os).forCall (fun _ _ => 0) ⟨#[], #[.string ByteArray.empty, .int .u32 0], []⟩).memory :=
  laidMet_of_run' 8 (by kernel_rfl) (by kernel_rfl)

theorem hostBack_reads (os : Os) {H : Type} (enc : TypeId × Value → H) : ∃ places, DataW.whole enc Tryd.prog ((hostBack_world os).forCall (fun _ _ => 0) ⟨#[], #[.string ByteArray.empty, .int .u32 0], []⟩).memory Tryd.f5.params.toList Rows.hostBackSpec.vars false (#[.string ByteArray.empty, .int .u32 0] : Array Value).toList 8 = some ([.lit (.string []), .lit (.int .u32 0)], [], places) :=
  ⟨[], by kernel_rfl⟩

set_option maxRecDepth 100000 in
theorem hostBack_lifted (os : Os) (started : os.Started) (H : Type) (enc : TypeId × Value → H) (F : Stop.Interp) :
    ReturnsInHanded {} Tryd.checked os 5 .any ((OpenSpec.ofChange Rows.hostBackSpec).preRow enc Tryd.prog Tryd.f5 Rows.hostBackRow.domain false Rows.hostBackRow.laid) (((OpenSpec.ofChange Rows.hostBackSpec).at F).post enc Tryd.prog Tryd.f5 false true false false) := by
  obtain ⟨places, hx⟩ := hostBack_reads os enc
  refine returnsInHanded_of_row (C := Tryd.checked) (s := OpenSpec.ofChange Rows.hostBackSpec) hostBack_own started (by kernel_rfl) Tryd.func5
    (witness_row_at (enc := enc) (C := Tryd.checked) false (hostBack_world os) #[.string ByteArray.empty, .int .u32 0] rfl (by kernel_rfl) (by kernel_rfl) (by kernel_rfl)
      (OpenSpec.preRow_of_cond 8 hx (by kernel_rfl) (fun k hk => by cases hk) (by kernel_rfl) (hostBack_met os))) ?_
  intro W base args ds gs before hval hW _ _ hsz hL _ _
  exact hostBack_contract H enc W base args ds gs before hval hW hsz hL

theorem hostBack_said : Rows.HostBackSaid :=
  OpenClaim.holds_of_cond 5 Tryd.f5 rfl rfl rfl rfl rfl rfl rfl ⟨rfl, rfl, rfl, rfl, rfl⟩ rfl rfl rfl rfl rfl (by kernel_rfl) Tryd.func5 (by kernel_rfl)
    (of_decide_eq_true (by kernel_rfl)) (by unfold Func.isWrapper; first | (rw [if_pos (by decide +kernel)]; kernel_rfl) | (rw [if_neg (by decide +kernel)]; exact ⟨rfl, rfl⟩))
    (fun os started H enc _ F => by rw [OpenClaim.pre_eq_preRow]; exact hostBack_lifted os started H enc F)

theorem hostBack_plain (f : FuncId) (fn : Func) (hf : Tryd.pinned.checked.prog.funcNamed Tryd.f5.name = some f) (hfn : Tryd.pinned.checked.prog.funcs[f]? = some fn) :
    false = Tryd.pinned.checked.prog.looks [] ∧ ∀ (j : Nat) t, fn.params[j]? = some t → Tryd.pinned.checked.prog.wantsStandIn t = false := by
  obtain rfl : f = 5 := Option.some.inj ((show Tryd.prog.funcNamed Tryd.f5.name = some 5 by kernel_rfl).symm.trans hf) |>.symm
  obtain rfl : fn = Tryd.f5 := (Option.some.inj (Tryd.func5.symm.trans hfn)).symm
  refine ⟨by kernel_rfl, fun j t ht => ?_⟩
  have hall : ∀ t ∈ Tryd.f5.params, Tryd.prog.wantsStandIn t = false := of_decide_eq_true (by kernel_rfl)
  exact hall t (Array.mem_of_getElem? ht)

theorem hostBack_card : Rows.HostBackCardSaid :=
  Claim7.holds_tied_plain_at .later [] _ _ _ _ hostBack_said (fun _ h => by cases h) (by kernel_rfl) (fun _ h => by cases h) hostBack_row_tie rfl ⟨rfl, rfl⟩ (by kernel_rfl) rfl hostBack_plain (by kernel_rfl)
#print axioms hostBack_card

end Go.Proofs.YtmfchplplpiogaaDoor
