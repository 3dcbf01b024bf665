/-
  HeaderUnsafe: which of any fields need leave, the code tells as the document does; the law returns true for every list of fields, and what was there has not turned. No condition.
-/
import Derived.Test.YtfgpcajjnpmoeaaProg
import Derived.Test.YtfgpcajjnpmoeaaKit
import Derived.Test.YtfgpcajjnpmoeaaLaw
import Derived.Test.YtfgpcajjnpmoeaaAsc4
import Derived.Test.YtfgpcajjnpmoeaaRow
import Derived.Test.YtfgpcajjnpmoeaaHdr0
import Derived.Test.YtfgpcajjnpmoeaaHdr9
import Derived.Test.YtfgpcajjnpmoeaaHdr14
import Derived.Test.YtfgpcajjnpmoeaaHdr15
import Derived.Test.YtfgpcajjnpmoeaaHdr16
namespace Go.Proofs.Ytfgpcajjnpmoeaa
open Go.ChangeShapes Go.WideShapes Go.ChangeAt Go.RowKit Go.Proofs
open Go.ChangeMaps (open_string shut_string)

theorem headerUnsafe_any {w : World} (ls : List FldM) (v : Value) (hv : FldsAt w v ls) (hok : FldOk ls) :
    Calls Try.prog 5 #[v] w fun e w' => e = .returned (.bool true) ∧ Below w.heap.size w w' := by
  have HF := Lib.hid (fields_any ls v w hv hok)
  have HV := Lib.hid hv
  have HA := Lib.hid (fun W => hawake_any W)
  obtain ⟨va, vc, rfl⟩ := flds_len hv
  clear hv hok
  go_enter Try.func5, Try.ntmps5
  go_wp2_with fail
  refine HF.out.mono ?_
  rintro e w1 ⟨⟨b, rfl, hb⟩, hm1⟩
  have B1 := Lib.hid (below_draws (Below.refl w.heap.size w) hm1)
  have HB := Lib.hid hb
  clear hm1 hb
  cases b with
  | false =>
    go_wp2_with fail
    refine (HA.out _).mono ?_
    rintro e w2 ⟨rfl, hb2⟩
    have B2 := Lib.hid (below_then B1.out hb2)
    clear hb2
    go_wp2_with fail
    go_ret
    exact ⟨rfl, B2.out⟩
  | true =>
    have HU := Lib.hid (unsafe_any ls _ w1 (flds_below HV.out B1.out) (HB.out (by trivial)))
    have HR : Hid (∀ W, Below w.heap.size w W → Calls Try.prog 25 #[.slice va ls.length vc] W fun e w' => UnsV w' ls e ∧ Below W.heap.size W w') := Lib.hid (fun W hW => rUnsafe_any ls _ W (flds_below HV.out hW) (HB.out (by trivial)))
    go_wp2_with fail
    refine HU.out.mono ?_
    rintro e w2 ⟨⟨u2, R2, rfl, s2, a2, m2, l2⟩, hb2⟩
    have B2 := Lib.hid (below_then B1.out hb2)
    have S2 := Lib.hid s2
    have T2 := Lib.hid (show AscL R2 ∧ (∀ x, x ∈ R2 ↔ x ∈ leaveL ls) ∧ R2.length ≤ 12000 from ⟨a2, m2, l2⟩)
    clear hb2 a2 m2 l2 s2
    go_wp2_with fail
    refine (HR.out _ B2.out).mono ?_
    rintro e w3 ⟨⟨u3, R3, rfl, s3, a3, m3, l3⟩, hb3⟩
    have B3 := Lib.hid (below_then B2.out hb3)
    have hR : R3 = R2 := asc_eq a3 T2.out.1 (fun x => by rw [m3, T2.out.2.1])
    subst hR
    have HT : Hid (Calls Try.prog 15 #[u2, u3] w3 fun e w' => e = .returned (.bool true) ∧ ∃ m, w' = w3.drewN m) := Lib.hid (by
      have h := texts_any u2 u3 R3 R3 w3 (SliceAt.below S2.out hb3) s3 (by omega) (by omega)
      rw [eqLL_yes rfl] at h
      exact h)
    clear hb3 a3 m3 l3 s3
    go_wp2_with fail
    refine HT.out.mono ?_
    rintro e w4 ⟨rfl, hm4⟩
    have B4 := Lib.hid (below_draws B3.out hm4)
    clear hm4
    go_wp2_with fail
    refine (HA.out _).mono ?_
    rintro e w5 ⟨rfl, hb5⟩
    have B5 := Lib.hid (below_then B4.out hb5)
    clear hb5
    go_wp2_with fail
    go_ret
    exact ⟨rfl, B5.out⟩

theorem headerUnsafe_own : ownKnob Try.prog.godebug = none := by kernel_rfl

set_option maxRecDepth 100000 in
theorem headerUnsafe_lifted (os : Os) (started : os.Started) (H : Type) (enc : TypeId × Value → H) :
    ReturnsInHanded {} Try.checked os 5 .any (Rows.headerUnsafeSpec.pre6 enc Try.prog Try.f5 Rows.headerUnsafeRow.domain false) (Rows.headerUnsafeSpec.post enc Try.prog Try.f5 false true false false) := by
  refine law_lifted (C := Try.checked) headerUnsafe_own started (by kernel_rfl) Try.func5
    (ChangeSpec.witness6 (enc := enc) (C := Try.checked) false ⟨#[], #[.slice none 0 0], []⟩ 8 (by kernel_rfl) (by kernel_rfl) (by kernel_rfl) (by kernel_rfl))
    (by kernel_rfl) (of_decide_eq_true (by kernel_rfl)) (tb := 4) (by kernel_rfl) Try.underlying4 rfl (fun ds h => by match ds, h with | [d0], _ => exact ⟨rfl, rfl, rfl⟩) ?_
  intro W base args ds p hval0 hA0 hlt hsz0
  have hval : ∀ (j : Nat) t v, Try.f5.params[j]? = some t → args[j]? = some v → Value.okWide Try.prog W .any base t v := hval0
  have hA : DataW.TrodAll enc Try.prog W 0 (fun _ => true) true Try.f5.params.toList args.toList ds p := hA0
  have hsz : (DataW.weightsEach Try.prog Try.f5.params.toList ds).all (· ≤ reachBytes) = true := hsz0
  rw [Try.params5] at hA hval hsz
  obtain ⟨v0, vs0, d0, ds0, p0, q0, hargs, rfl, rfl, h0, r0⟩ := trodAll_cons hA
  obtain ⟨rfl, rfl, rfl⟩ := trodAll_nil r0
  obtain rfl : args = #[v0] := by cases args; simp_all
  have s0 := sized_at hsz (j := 0) (t := 22) (d := d0) rfl rfl
  obtain ⟨m0_0, m0_1, t0⟩ := Try.fldTys
  obtain ⟨a0, g0, k0⟩ := open_flds t0 (hval 0 22 v0 rfl rfl) h0 s0
  exact headerUnsafe_any (w := W) a0 v0 g0 k0

theorem headerUnsafe_over : Rows.headerUnsafeRow.holds Try.pinned (OpenSpec.ofChange Rows.headerUnsafeSpec) :=
  OpenClaim.holds_of_wide 5 Try.f5 rfl rfl rfl rfl rfl rfl rfl ⟨rfl, rfl, rfl, rfl, rfl⟩ rfl rfl rfl rfl rfl (by kernel_rfl) Try.func5 (by kernel_rfl)
    (of_decide_eq_true (by kernel_rfl)) (by unfold Func.isWrapper; first | (rw [if_pos (by decide +kernel)]; kernel_rfl) | (rw [if_neg (by decide +kernel)]; exact ⟨rfl, rfl⟩))
    (fun os started H enc _ => headerUnsafe_lifted os started H enc)

theorem headerUnsafe_proved : Rows.HeaderUnsafeSaid := headerUnsafe_over
#print axioms headerUnsafe_proved

end Go.Proofs.Ytfgpcajjnpmoeaa
