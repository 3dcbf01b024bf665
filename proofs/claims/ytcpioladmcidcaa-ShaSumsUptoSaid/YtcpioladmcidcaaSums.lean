/-
  ShaSums: for every list of slices of bytes the sum of all is what it should be; the law returns true, and what was there has not turned. Condition: what comes in is of bulk at most 1,048,576.
-/
import Derived.Deep.RegionHeld3
import Derived.Test.YtcpioladmcidcaaProg
import Derived.Test.YtcpioladmcidcaaKit
import Derived.Test.YtcpioladmcidcaaLaw
import Derived.Test.YtcpioladmcidcaaInfo
import Derived.Test.YtcpioladmcidcaaRow
import Derived.Test.YtcpioladmcidcaaCod7
import Derived.Test.YtcpioladmcidcaaCod8
import Derived.Test.YtcpioladmcidcaaCod9
import Derived.Test.YtcpioladmcidcaaLaw2
import Derived.Test.YtcpioladmcidcaaJoin
import Derived.Test.YtcpioladmcidcaaLaw3
import Derived.Test.YtcpioladmcidcaaRef2
namespace Go.Proofs.Ytcpioladmcidcaa
open Go.ChangeShapes Go.WideShapes Go.ChangeAt Go.RowKit Go.Proofs

set_option maxRecDepth 100000 in
set_option maxHeartbeats 1000000 in
theorem shaSums_any (v : Value) (ls : List (List UInt8)) (w : World) (hp : PartsB w w.heap.size v ls) (hl : ls.flatten.length ≤ 1048576) (hn : ls.length ≤ 1048576) :
    Calls Try.prog 3 #[v] w fun e w' => e = .returned (.bool true) ∧ Below w.heap.size w w' := by
  have HP := Lib.hid hp
  have HJ := Lib.hid (joined_any ls v w hp (by omega) (by omega))
  obtain ⟨A, C, rfl, _⟩ := hp.len
  clear hp
  obtain ⟨n, hnn⟩ : ∃ n, n = ls.length := ⟨_, rfl⟩
  rw [← hnn] at hn HP HJ ⊢
  have HNN := Lib.hid hnn
  obtain ⟨N, hN⟩ : ∃ N, N = ls.flatten.length := ⟨_, rfl⟩
  rw [← hN] at hl HJ
  have HN := Lib.hid hN
  clear hnn hN
  go_enter Try.func3, Try.ntmps3
  go_wp2_with fail
  refine (HJ.out).mono ?_
  rintro e w1 ⟨⟨v1, rfl, hown1⟩, hb1⟩
  obtain ⟨a1, c1, rfl⟩ := own_len hown1
  have HO1 := Lib.hid hown1
  have HB1 := Lib.hid hb1
  clear hown1 hb1 HJ
  by_cases hbig : 700 < N ∨ 50 < n
  · have hbb : (decide ((700 : Int) < (N : Int)) || decide ((50 : Int) < (n : Int))) = true := by
      rw [Bool.or_eq_true, decide_eq_true_eq, decide_eq_true_eq]
      omega
    by_cases h7 : (700 : Int) < (N : Int)
    · go_wp2_with fail
      refine (awake_any _).mono ?_
      rintro e w' ⟨rfl, hb2⟩
      have HB2 := Lib.hid (below_then HB1.out hb2)
      clear hb2
      go_wp2
      go_ret
      exact ⟨rfl, HB2.out⟩
    · have h5 : (50 : Int) < (n : Int) := by omega
      go_wp2_with fail
      refine (awake_any _).mono ?_
      rintro e w' ⟨rfl, hb2⟩
      have HB2 := Lib.hid (below_then HB1.out hb2)
      clear hb2
      go_wp2
      go_ret
      exact ⟨rfl, HB2.out⟩
  · have h7 : ¬ (700 : Int) < (N : Int) := by omega
    have h5 : ¬ (50 : Int) < (n : Int) := by omega
    clear hbig
    go_wp2_with fail
    obtain ⟨F, hFV, hF, hFl, hF1⟩ := shaV_list ls.flatten
    have HFV := Lib.hid hFV
    have HF := Lib.hid hF
    refine (sum_any ls _ w1 (HP.out.at.later HB1.out) (by rw [← HN.out]; omega) (by rw [← HNN.out]; omega)).mono ?_
    rw [HFV.out]
    rintro e w2 ⟨rfl, hb2⟩
    have hs2 : ByteSl w2 w2.heap.size (.slice a1 N c1) ls.flatten := own_sl (own_below HO1.out hb2)
    have HS2 := Lib.hid hs2
    have HB2 := Lib.hid (below_then HB1.out hb2)
    have heq : ∀ W : World, (Op.equalIn 10000 27 (.agg F.toArray) (.agg F.toArray)).run Try.prog W = .ok true W := fun W => by
      rw [HF.out, eq_bytes Try.underlying27 Try.underlying5 (zero_of_info3 Try.infoByte) _ _ (sha_len ls.flatten) (sha_len ls.flatten) W]
      simp
    clear hs2 hb2 hFV hF hFl hF1
    go_wp2_with fail
    refine (refsum_any _ ls.flatten w2 HS2.out (by rw [← HN.out]; omega)).mono ?_
    rw [HFV.out]
    rintro e w3 ⟨rfl, hb3⟩
    have HB3 := Lib.hid (below_then HB2.out hb3)
    clear hb3
    go_wp2_with fail
    refine (awake_any _).mono ?_
    rintro e w4 ⟨rfl, hb4⟩
    have HB4 := Lib.hid (below_then HB3.out hb4)
    clear hb4
    go_wp2
    go_ret
    exact ⟨rfl, HB4.out⟩

theorem shaSums_own : ownKnob Try.prog.godebug = none := by kernel_rfl

theorem shaSums_contract (H : Type) (enc : TypeId × Value → H) (W : World) (base : Nat) (args : Array Value) (ds gs : List (DataW H)) (before : List MemPlace)
    (hval0 : ∀ (j : Nat) t v, Try.f3.params[j]? = some t → args[j]? = some v → Value.okWide Try.prog W .any base t v)
    (hW : DataW.Whole enc Try.prog Try.f3.params.toList Rows.shaSumsSpec.vars false W args.toList ds gs before) {vt : List TypeId} (hk : Rows.uptoSmall H (ds ++ gs) = true)
    (hsz0 : (DataW.weightsEach Try.prog (Try.f3.params.toList ++ vt) (ds ++ gs)).all (· ≤ reachBytes) = true) :
    Calls Try.prog 3 args W fun e W' => ∃ v, e = .returned v ∧ Rows.shaSumsSpec.post enc Try.prog Try.f3 false true false false W args v W' := by
  refine law_contract (by kernel_rfl) (of_decide_eq_true (by kernel_rfl)) (tb := 4) (by kernel_rfl) Try.underlying4 rfl (fun ds h => by match ds, h with | [d0], _ => exact ⟨rfl, rfl, rfl⟩) hW hsz0 ?_
  intro p hA0 hlt hszz
  have hval := hval0
  have hA : DataW.TrodAll enc Try.prog W 0 (fun _ => true) true Try.f3.params.toList args.toList ds p := hA0
  have hsz : (DataW.weightsEach Try.prog Try.f3.params.toList ds).all (· ≤ reachBytes) = true := hszz
  clear hval0 hA0 hszz hsz0 hW
  rw [Try.params3] at hA hval hsz
  obtain ⟨v0, vs0, d0, ds0, p0, q0, hargs, rfl, rfl, h0, r0⟩ := trodAll_cons hA
  obtain ⟨rfl, rfl, rfl⟩ := trodAll_nil r0
  obtain rfl : args = #[v0] := by cases args; simp_all
  have hbk : Rows.uptoBulkAll ([d0] ++ gs) ≤ 1048576 := of_decide_eq_true hk
  simp only [List.cons_append, List.nil_append, Rows.uptoBulkAll] at hbk
  obtain ⟨a0, g0, z0, y0⟩ := open_parts Try.underlying22 Try.underlying23 Try.underlying5 (by kernel_rfl) (by kernel_rfl) (hval 0 22 v0 rfl rfl) h0
  exact shaSums_any (w := W) v0 a0 g0 (by omega) (by omega)

set_option maxRecDepth 100000 in
theorem shaSums_lifted (os : Os) (started : os.Started) (H : Type) (enc : TypeId × Value → H) (F : Stop.Interp) :
    ReturnsInHanded {} Try.checked os 3 .any ((Rows.OpenSpec.upto Rows.shaSumsSpec).pre6 enc Try.prog Try.f3 Rows.shaSumsUptoRow.domain false) (((Rows.OpenSpec.upto Rows.shaSumsSpec).at F).post enc Try.prog Try.f3 false true false false) := by
  refine returnsInHanded_of_cond_sized (C := Try.checked) (s := Rows.OpenSpec.upto Rows.shaSumsSpec) (k := Rows.uptoSmall) rfl shaSums_own started (by kernel_rfl) Try.func3
    (OpenSpec.witness (enc := enc) (C := Try.checked) (s := Rows.OpenSpec.upto Rows.shaSumsSpec) (k := Rows.uptoSmall) rfl false ⟨#[], #[.slice none 0 0], []⟩ 8 (by kernel_rfl) (by kernel_rfl) (by kernel_rfl)
      (x := ([.nil], [], [])) (by kernel_rfl) rfl (by kernel_rfl)) ?_
  intro W base args ds gs before hval hW _ hk hsz _
  exact shaSums_contract H enc W base args ds gs before hval hW hk hsz

theorem shaSums_proved : Rows.ShaSumsUptoSaid :=
  OpenClaim.holds_of_cond 3 Try.f3 rfl rfl rfl rfl rfl rfl rfl ⟨rfl, rfl, rfl, rfl, rfl⟩ rfl rfl rfl rfl rfl (by kernel_rfl) Try.func3 (by kernel_rfl)
    (of_decide_eq_true (by kernel_rfl)) (by unfold Func.isWrapper; first | (rw [if_pos (by decide +kernel)]; kernel_rfl) | (rw [if_neg (by decide +kernel)]; exact ⟨rfl, rfl⟩))
    (fun os started H enc _ F => shaSums_lifted os started H enc F)
#print axioms shaSums_proved

end Go.Proofs.Ytcpioladmcidcaa
