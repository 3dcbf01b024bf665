/-
  CspParses: any text is read as the directives that it has; the law returns true for every text, and what was there has not turned. No condition.
-/
import Derived.Test.YtceajdpjablfiaaProg
import Derived.Test.YtceajdpjablfiaaKit
import Derived.Test.YtceajdpjablfiaaLaw
import Derived.Test.YtceajdpjablfiaaRow
import Derived.Test.YtceajdpjablfiaaCsp0
import Derived.Test.YtceajdpjablfiaaCsp1
import Derived.Test.YtceajdpjablfiaaCsp4
import Derived.Test.YtceajdpjablfiaaCsp7
namespace Go.Proofs.Ytceajdpjablfiaa
open Go.ChangeShapes Go.WideShapes Go.ChangeAt Go.RowKit Go.Proofs
open Go.ChangeMaps (open_string shut_string)

set_option maxRecDepth 100000 in
theorem cspParses_any (s : ByteArray) (hs : s.size ≤ 140737488351232) (w : World) : Calls Try.prog 3 #[.string s] w fun e w' => e = .returned (.bool true) ∧ Below w.heap.size w w' := by
  have HAW := Lib.hid (fun W => cawake_any W)
  by_cases hlong : 3000 < s.size
  · have hl : (3000 : Int) < (s.size : Int) := by omega
    clear hlong hs
    go_enter Try.func3, Try.ntmps3
    go_wp2_with fail
    refine (HAW.out _).mono ?_
    rintro e w1 ⟨rfl, hb1⟩
    go_wp2_with fail
    go_ret
    exact ⟨rfl, hb1⟩
  · have hl : ¬ (3000 : Int) < (s.size : Int) := by omega
    obtain ⟨ds, hds⟩ : ∃ ds, ds = cspL s.data.toList := ⟨_, rfl⟩
    have HP := Lib.hid (fun W => cparse_any s (by omega) W)
    have HR := Lib.hid (fun W => rcsp_any s (by omega) W)
    have HA1 := Lib.hid (fun W => casc_any s (by omega) W)
    have HA2 := Lib.hid (fun W => casc_ref s (by omega) W)
    have HT : Hid (dirsN ds ≤ 5001) := Lib.hid (by rw [hds]; have := csp_tot s.data.toList; rw [size_data] at this; omega)
    rw [← hds] at HP HR
    obtain ⟨b, hb⟩ : ∃ b, b = ascB s.data.toList := ⟨_, rfl⟩
    rw [← hb] at HA1 HA2
    clear hlong hs hds hb
    go_enter Try.func3, Try.ntmps3
    go_wp2_with fail
    refine (HP.out _).mono ?_
    rintro e w1 ⟨⟨v1, rfl, o1⟩, hb1⟩
    have B1 := Lib.hid hb1
    have O1 := Lib.hid o1
    clear hb1 o1
    go_wp2_with fail
    refine (HR.out _).mono ?_
    rintro e w2 ⟨⟨v2, rfl, o2⟩, hb2⟩
    have B2 := Lib.hid (below_then B1.out hb2)
    have HS := Lib.hid (csame_yes ds v1 v2 w2 (ownD_at (ownD_below O1.out hb2)) (ownD_at o2) HT.out)
    clear hb2 o2
    go_wp2_with fail
    refine HS.out.mono ?_
    rintro e w3 ⟨rfl, hb3⟩
    have B3 := Lib.hid (below_then B2.out hb3)
    clear hb3
    go_wp2_with fail
    refine (HA1.out _).mono ?_
    rintro e w4 ⟨rfl, rfl⟩
    go_wp2_with fail
    refine (HA2.out _).mono ?_
    rintro e w5 ⟨rfl, rfl⟩
    go_wp2_with fail
    refine (HAW.out _).mono ?_
    rintro e w6 ⟨rfl, hb6⟩
    have B6 := Lib.hid (below_then B3.out hb6)
    clear hb6
    go_wp2_with fail
    go_ret
    exact ⟨rfl, B6.out⟩

theorem cspParses_own : ownKnob Try.prog.godebug = none := by kernel_rfl

set_option maxRecDepth 100000 in
theorem cspParses_lifted (os : Os) (started : os.Started) (H : Type) (enc : TypeId × Value → H) :
    ReturnsInHanded {} Try.checked os 3 .any (Rows.cspParsesSpec.pre6 enc Try.prog Try.f3 Rows.cspParsesRow.domain false) (Rows.cspParsesSpec.post enc Try.prog Try.f3 false true false false) := by
  refine law_lifted (C := Try.checked) cspParses_own started (by kernel_rfl) Try.func3
    (ChangeSpec.witness6 (enc := enc) (C := Try.checked) false ⟨#[], #[.string ByteArray.empty], []⟩ 8 (by kernel_rfl) (by kernel_rfl) (by kernel_rfl) (by kernel_rfl))
    (by kernel_rfl) (of_decide_eq_true (by kernel_rfl)) (tb := 4) (by kernel_rfl) Try.underlying4 rfl (fun ds h => by match ds, h with | [d0], _ => exact ⟨rfl, rfl, rfl⟩) ?_
  intro W base args ds p hval0 hA0 hlt hsz0
  have hval : ∀ (j : Nat) t v, Try.f3.params[j]? = some t → args[j]? = some v → Value.okWide Try.prog W .any base t v := hval0
  have hA : DataW.TrodAll enc Try.prog W 0 (fun _ => true) true Try.f3.params.toList args.toList ds p := hA0
  have hsz : (DataW.weightsEach Try.prog Try.f3.params.toList ds).all (· ≤ reachBytes) = true := hsz0
  rw [Try.params3] at hA hval hsz
  obtain ⟨v0, vs0, d0, ds0, p0, q0, hargs, rfl, rfl, h0, r0⟩ := trodAll_cons hA
  obtain ⟨rfl, rfl, rfl⟩ := trodAll_nil r0
  obtain rfl : args = #[v0] := by cases args; simp_all
  obtain ⟨a0, rfl, rfl, rfl, w0⟩ := open_string Try.underlying9 (hval 0 9 v0 rfl rfl) h0
  have z0 := sized_string hsz (j := 0) rfl rfl
  rw [size_data] at z0
  exact cspParses_any (w := W) a0 z0

theorem cspParses_over : Rows.cspParsesRow.holds Try.pinned (OpenSpec.ofChange Rows.cspParsesSpec) :=
  OpenClaim.holds_of_wide 3 Try.f3 rfl rfl rfl rfl rfl rfl rfl ⟨rfl, rfl, rfl, rfl, rfl⟩ rfl rfl rfl rfl rfl (by kernel_rfl) Try.func3 (by kernel_rfl)
    (of_decide_eq_true (by kernel_rfl)) (by unfold Func.isWrapper; first | (rw [if_pos (by decide +kernel)]; kernel_rfl) | (rw [if_neg (by decide +kernel)]; exact ⟨rfl, rfl⟩))
    (fun os started H enc _ => cspParses_lifted os started H enc)

theorem cspParses_proved : Rows.CspParsesSaid := cspParses_over
#print axioms cspParses_proved

end Go.Proofs.Ytceajdpjablfiaa
