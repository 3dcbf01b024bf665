/-
  CspBack: what was read and is written is read as it was; the law returns true for every text, and what was there has not turned. No condition.
-/
import Derived.Test.YtceajdpjablfiaaProg
import Derived.Test.YtceajdpjablfiaaKit
import Derived.Test.YtceajdpjablfiaaLaw
import Derived.Test.YtceajdpjablfiaaRow
import Derived.Test.YtceajdpjablfiaaCsp0
import Derived.Test.YtceajdpjablfiaaCsp1
import Derived.Test.YtceajdpjablfiaaCsp4
import Derived.Test.YtceajdpjablfiaaCsp5
import Derived.Test.YtceajdpjablfiaaCsp7
namespace Go.Proofs.Ytceajdpjablfiaa
open Go.ChangeShapes Go.WideShapes Go.ChangeAt Go.RowKit Go.Proofs
open Go.ChangeMaps (open_string shut_string)

set_option maxRecDepth 100000 in
theorem cspBack_any (s : ByteArray) (hs : s.size ≤ 140737488351232) (w : World) : Calls Try.prog 5 #[.string s] w fun e w' => e = .returned (.bool true) ∧ Below w.heap.size w w' := by
  have HAW := Lib.hid (fun W => cawake_any W)
  by_cases hlong : 3000 < s.size
  · have hl : (3000 : Int) < (s.size : Int) := by omega
    clear hlong hs
    go_enter Try.func5, Try.ntmps5
    go_wp2_with fail
    refine (HAW.out _).mono ?_
    rintro e w1 ⟨rfl, hb1⟩
    go_wp2_with fail
    go_ret
    exact ⟨rfl, hb1⟩
  · have hl : ¬ (3000 : Int) < (s.size : Int) := by omega
    obtain ⟨ds, hds⟩ : ∃ ds, ds = cspL s.data.toList := ⟨_, rfl⟩
    have HP := Lib.hid (fun W => cparse_any s (by omega) W)
    have hT : dirsN ds ≤ 3001 := by rw [hds]; have := csp_tot s.data.toList; rw [size_data] at this; omega
    have hgood := csp_good s.data.toList
    rw [← hds] at HP hgood
    have hback := csp_back hgood.1 hgood.2
    obtain ⟨Y, hY⟩ : ∃ Y : ByteArray, Y = ⟨(cspT ds).toArray⟩ := ⟨_, rfl⟩
    have hYd : Y.data.toList = cspT ds := by rw [hY]
    have hYs : Y.size ≤ 6002 := by have h1 := cspT_len ds; rw [← size_data, hYd]; omega
    have HTX : Hid (∀ (W : World) (v : Value), DirsAt W v ds → Calls Try.prog 17 #[v] W fun e w' => e = .returned (.string Y) ∧ Below W.heap.size W w') := Lib.hid (fun W v h => by
      rw [hY]
      exact ctext_any ds v W h (by omega))
    have HP2 : Hid (∀ W, Calls Try.prog 10 #[.string Y] W fun e w' => CspV W w' e ds) := Lib.hid (fun W => by
      have h := cparse_any Y (by omega) W
      rw [hYd, hback] at h
      exact h)
    have HT : Hid (dirsN ds ≤ 5001) := Lib.hid (by omega)
    clear hlong hs hds hT hgood hback hY hYd hYs
    go_enter Try.func5, Try.ntmps5
    go_wp2_with fail
    refine (HP.out _).mono ?_
    rintro e w1 ⟨⟨v1, rfl, o1⟩, hb1⟩
    have B1 := Lib.hid hb1
    have O1 := Lib.hid o1
    clear hb1 o1
    go_wp2_with fail
    refine (HTX.out _ _ (ownD_at O1.out)).mono ?_
    rintro e w2 ⟨rfl, hb2⟩
    have B2 := Lib.hid (below_then B1.out hb2)
    have O2 := Lib.hid (ownD_below O1.out hb2)
    clear hb2
    go_wp2_with fail
    refine (HP2.out _).mono ?_
    rintro e w3 ⟨⟨v3, rfl, o3⟩, hb3⟩
    have B3 := Lib.hid (below_then B2.out hb3)
    have HS := Lib.hid (csame_yes ds v3 v1 w3 (ownD_at o3) (ownD_at (ownD_below O2.out hb3)) HT.out)
    clear hb3 o3
    go_wp2_with fail
    refine HS.out.mono ?_
    rintro e w4 ⟨rfl, hb4⟩
    have B4 := Lib.hid (below_then B3.out hb4)
    clear hb4
    go_wp2_with fail
    refine (HAW.out _).mono ?_
    rintro e w6 ⟨rfl, hb6⟩
    have B6 := Lib.hid (below_then B4.out hb6)
    clear hb6
    go_wp2_with fail
    go_ret
    exact ⟨rfl, B6.out⟩

theorem cspBack_own : ownKnob Try.prog.godebug = none := by kernel_rfl

set_option maxRecDepth 100000 in
theorem cspBack_lifted (os : Os) (started : os.Started) (H : Type) (enc : TypeId × Value → H) :
    ReturnsInHanded {} Try.checked os 5 .any (Rows.cspBackSpec.pre6 enc Try.prog Try.f5 Rows.cspBackRow.domain false) (Rows.cspBackSpec.post enc Try.prog Try.f5 false true false false) := by
  refine law_lifted (C := Try.checked) cspBack_own started (by kernel_rfl) Try.func5
    (ChangeSpec.witness6 (enc := enc) (C := Try.checked) false ⟨#[], #[.string ByteArray.empty], []⟩ 8 (by kernel_rfl) (by kernel_rfl) (by kernel_rfl) (by kernel_rfl))
    (by kernel_rfl) (of_decide_eq_true (by kernel_rfl)) (tb := 4) (by kernel_rfl) Try.underlying4 rfl (fun ds h => by match ds, h with | [d0], _ => exact ⟨rfl, rfl, rfl⟩) ?_
  intro W base args ds p hval0 hA0 hlt hsz0
  have hval : ∀ (j : Nat) t v, Try.f5.params[j]? = some t → args[j]? = some v → Value.okWide Try.prog W .any base t v := hval0
  have hA : DataW.TrodAll enc Try.prog W 0 (fun _ => true) true Try.f5.params.toList args.toList ds p := hA0
  have hsz : (DataW.weightsEach Try.prog Try.f5.params.toList ds).all (· ≤ reachBytes) = true := hsz0
  rw [Try.params5] at hA hval hsz
  obtain ⟨v0, vs0, d0, ds0, p0, q0, hargs, rfl, rfl, h0, r0⟩ := trodAll_cons hA
  obtain ⟨rfl, rfl, rfl⟩ := trodAll_nil r0
  obtain rfl : args = #[v0] := by cases args; simp_all
  obtain ⟨a0, rfl, rfl, rfl, w0⟩ := open_string Try.underlying9 (hval 0 9 v0 rfl rfl) h0
  have z0 := sized_string hsz (j := 0) rfl rfl
  rw [size_data] at z0
  exact cspBack_any (w := W) a0 z0

theorem cspBack_over : Rows.cspBackRow.holds Try.pinned (OpenSpec.ofChange Rows.cspBackSpec) :=
  OpenClaim.holds_of_wide 5 Try.f5 rfl rfl rfl rfl rfl rfl rfl ⟨rfl, rfl, rfl, rfl, rfl⟩ rfl rfl rfl rfl rfl (by kernel_rfl) Try.func5 (by kernel_rfl)
    (of_decide_eq_true (by kernel_rfl)) (by unfold Func.isWrapper; first | (rw [if_pos (by decide +kernel)]; kernel_rfl) | (rw [if_neg (by decide +kernel)]; exact ⟨rfl, rfl⟩))
    (fun os started H enc _ => cspBack_lifted os started H enc)

theorem cspBack_proved : Rows.CspBackSaid := cspBack_over
#print axioms cspBack_proved

end Go.Proofs.Ytceajdpjablfiaa
