/-
  HeaderKinds: any field is told to be one, and to need leave or not, and any value has its media type, as the document says; the law returns true for every field, and what was there has not turned. No condition.
-/
import Derived.BigQuiet
import Derived.Deep.RegionHeld3
import Derived.Test.YtfgpcajjnpmoeaaProg
import Derived.Test.YtfgpcajjnpmoeaaKit
import Derived.Test.YtfgpcajjnpmoeaaLaw
import Derived.Test.YtfgpcajjnpmoeaaRow
import Derived.Test.YtfgpcajjnpmoeaaRow2
import Derived.Test.YtfgpcajjnpmoeaaHdr0
import Derived.Test.YtfgpcajjnpmoeaaHdr2
import Derived.Test.YtfgpcajjnpmoeaaHdr3
import Derived.Test.YtfgpcajjnpmoeaaHdr4
import Derived.Test.YtfgpcajjnpmoeaaHdr5
import Derived.Test.YtfgpcajjnpmoeaaHdr6
import Derived.Test.YtfgpcajjnpmoeaaHdr7
import Derived.Test.YtfgpcajjnpmoeaaHdr15
import Derived.Test.YtfgpcajjnpmoeaaHdr16
namespace Go.Proofs.Ytfgpcajjnpmoeaa
open Go.ChangeShapes Go.WideShapes Go.ChangeAt Go.RowKit Go.Proofs
open Go.ChangeMaps (open_string shut_string)

theorem headerKinds_any {w : World} (n v : ByteArray) (hn : n.size ≤ 140737488351232) (hv : v.size ≤ 140737488351232) :
    Calls Try.prog 4 #[.agg #[.string n, .string v]] w fun e w' => e = .returned (.bool true) ∧ Below w.heap.size w w' := by
  have HA := Lib.hid (fun W => hawake_any W)
  have hbox := box_two w n v 34
  by_cases hlong : 3000 < n.size + v.size
  · have hli : 3000 < (n.size : Int) + (v.size : Int) := by omega
    have HB0 := Lib.hid hbox.1
    clear hbox hlong
    go_enter Try.func4, Try.ntmps4
    go_wp2_with fail
    refine (HA.out _).mono ?_
    rintro e w1 ⟨rfl, hb1⟩
    have B1 := Lib.hid (below_then HB0.out hb1)
    clear hb1
    go_wp2_with fail
    go_ret
    exact ⟨rfl, B1.out⟩
  · have hli : ¬ 3000 < (n.size : Int) + (v.size : Int) := by omega
    have hns : n.size ≤ 3000 := by omega
    have hvs : v.size ≤ 3000 := by omega
    obtain ⟨E, hE⟩ : ∃ E : ByteArray, E = ⟨(essL v.data.toList).toArray⟩ := ⟨_, rfl⟩
    obtain ⟨b, hb⟩ : ∃ b, b = essB v.data.toList := ⟨_, rfl⟩
    obtain ⟨q, hq⟩ : ∃ q, q = valB n.data.toList v.data.toList := ⟨_, rfl⟩
    obtain ⟨s, hs⟩ : ∃ s, s = simB n.data.toList v.data.toList := ⟨_, rfl⟩
    have HE1 : Hid (∀ W, Calls Try.prog 18 #[.string v] W fun e w' => e = .returned (.tuple #[.string E, .bool b]) ∧ Below W.heap.size W w') := Lib.hid (fun W => by rw [hb, hE]; exact ess_any v (by omega) W)
    have HE2 : Hid (∀ W, Calls Try.prog 19 #[.string v] W fun e w' => e = .returned (.tuple #[.string E, .bool b]) ∧ Below W.heap.size W w') := Lib.hid (fun W => by rw [hb, hE]; exact ress_any v (by omega) W)
    have HV1 : Hid (∀ W, Calls Try.prog 20 #[.agg #[.string n, .string v]] W fun e w' => e = .returned (.bool q) ∧ Below W.heap.size W w') := Lib.hid (fun W => by rw [hq]; exact valid_any n v (by omega) (by omega) W)
    have HV2 : Hid (∀ W, Calls Try.prog 21 #[.agg #[.string n, .string v]] W fun e w' => e = .returned (.bool q) ∧ Below W.heap.size W w') := Lib.hid (fun W => by rw [hq]; exact rvalid_any n v (by omega) (by omega) W)
    have HS1 : Hid (∀ W, Calls Try.prog 22 #[.agg #[.string n, .string v]] W fun e w' => e = .returned (.bool s) ∧ Below W.heap.size W w') := Lib.hid (fun W => by rw [hs]; exact simple_any n v (by omega) (by omega) W)
    have HS2 : Hid (∀ W, Calls Try.prog 23 #[.agg #[.string n, .string v]] W fun e w' => e = .returned (.bool s) ∧ Below W.heap.size W w') := Lib.hid (fun W => by rw [hs]; exact rsimple_any n v (by omega) (by omega) W)
    have HST : Hid (∀ W W', (Below w.heap.size w W ∧ W.cell? ⟨w.heap.size, 0, none⟩ = some (.string n) ∧ W.cell? ⟨w.heap.size, 1, none⟩ = some (.string v)) → Below W.heap.size W W' → (Below w.heap.size w W' ∧ W'.cell? ⟨w.heap.size, 0, none⟩ = some (.string n) ∧ W'.cell? ⟨w.heap.size, 1, none⟩ = some (.string v))) := Lib.hid (fun W W' h hb => boxS_below (w := w) h hb)
    have hee : (E.toList == E.toList) = true := beq_iff_eq.2 rfl
    have hbb : (b == b) = true := beq_iff_eq.2 rfl
    clear hE hb hq hs hn hv hlong
    go_enter Try.func4, Try.ntmps4
    go_wp2_with fail
    refine (HE1.out _).mono ?_
    rintro e w1 ⟨rfl, hb1⟩
    have H1 := Lib.hid (HST.out _ w1 hbox hb1)
    obtain ⟨_, c0, c1⟩ := HST.out _ w1 hbox hb1
    clear hbox hb1
    go_wp2_with fail
    refine (HE2.out _).mono ?_
    rintro e w2 ⟨rfl, hb2⟩
    have H2 := Lib.hid (HST.out _ w2 H1.out hb2)
    have H2d := Lib.hid (HST.out _ w2.drew H2.out (below_draws (Below.refl _ _) ⟨1, rfl⟩))
    clear c0 c1 hb2
    go_wp2_with fail
    go_region_held3 (fun W => Below w.heap.size w W ∧ W.cell? ⟨w.heap.size, 0, none⟩ = some (.string n) ∧ W.cell? ⟨w.heap.size, 1, none⟩ = some (.string v))
      (first | exact H2d.out | assumption)
      (first
        | (go_at_call 20; refine (HV1.out _).mono ?_; rintro e w7 ⟨rfl, hb7⟩; have hS7 := HST.out _ w7 (by assumption) hb7; clear hb7)
        | (go_at_call 21; refine (HV2.out _).mono ?_; rintro e w8 ⟨rfl, hb8⟩; have hS8 := HST.out _ w8 (by assumption) hb8; clear hb8)
        | (go_at_call 22; refine (HS1.out _).mono ?_; rintro e w9 ⟨rfl, hb9⟩; have hS9 := HST.out _ w9 (by assumption) hb9; clear hb9)
        | (go_at_call 23; refine (HS2.out _).mono ?_; rintro e w10 ⟨rfl, hb10⟩; have hS10 := HST.out _ w10 (by assumption) hb10; clear hb10)
        | (go_at_call 12; refine (HA.out _).mono ?_; rintro e w11 ⟨rfl, hb11⟩; have hS11 := HST.out _ w11 (by assumption) hb11; clear hb11))
    go_wp2_with fail
    go_ret
    exact ⟨by simp, hS11.1⟩

theorem headerKinds_own : ownKnob Try.prog.godebug = none := by kernel_rfl

set_option maxRecDepth 100000 in
theorem headerKinds_lifted (os : Os) (started : os.Started) (H : Type) (enc : TypeId × Value → H) :
    ReturnsInHanded {} Try.checked os 4 .any (Rows.headerKindsSpec.pre6 enc Try.prog Try.f4 Rows.headerKindsRow.domain false) (Rows.headerKindsSpec.post enc Try.prog Try.f4 false true false false) := by
  refine law_lifted (C := Try.checked) headerKinds_own started (by kernel_rfl) Try.func4
    (ChangeSpec.witness6 (enc := enc) (C := Try.checked) false ⟨#[], #[.agg #[.string ByteArray.empty, .string ByteArray.empty]], []⟩ 8 (by kernel_rfl) (by kernel_rfl) (by kernel_rfl) (by kernel_rfl))
    (by kernel_rfl) (of_decide_eq_true (by kernel_rfl)) (tb := 4) (by kernel_rfl) Try.underlying4 rfl (fun ds h => by match ds, h with | [d0], _ => exact ⟨rfl, rfl, rfl⟩) ?_
  intro W base args ds p hval0 hA0 hlt hsz0
  have hval : ∀ (j : Nat) t v, Try.f4.params[j]? = some t → args[j]? = some v → Value.okWide Try.prog W .any base t v := hval0
  have hA : DataW.TrodAll enc Try.prog W 0 (fun _ => true) true Try.f4.params.toList args.toList ds p := hA0
  have hsz : (DataW.weightsEach Try.prog Try.f4.params.toList ds).all (· ≤ reachBytes) = true := hsz0
  rw [Try.params4] at hA hval hsz
  obtain ⟨v0, vs0, d0, ds0, p0, q0, hargs, rfl, rfl, h0, r0⟩ := trodAll_cons hA
  obtain ⟨rfl, rfl, rfl⟩ := trodAll_nil r0
  obtain rfl : args = #[v0] := by cases args; simp_all
  have s0 := sized_at hsz (j := 0) (t := 34) (d := d0) rfl rfl
  obtain ⟨m0_0, m0_1, t0⟩ := Try.fldTys
  obtain ⟨a0, b0, rfl, x0, y0⟩ := open_fld t0 (hval 0 34 v0 rfl rfl) h0 s0
  exact headerKinds_any (w := W) a0 b0 x0 y0

theorem headerKinds_over : Rows.headerKindsRow.holds Try.pinned (OpenSpec.ofChange Rows.headerKindsSpec) :=
  OpenClaim.holds_of_wide 4 Try.f4 rfl rfl rfl rfl rfl rfl rfl ⟨rfl, rfl, rfl, rfl, rfl⟩ rfl rfl rfl rfl rfl (by kernel_rfl) Try.func4 (by kernel_rfl)
    (of_decide_eq_true (by kernel_rfl)) (by unfold Func.isWrapper; first | (rw [if_pos (by decide +kernel)]; kernel_rfl) | (rw [if_neg (by decide +kernel)]; exact ⟨rfl, rfl⟩))
    (fun os started H enc _ => headerKinds_lifted os started H enc)

theorem headerKinds_proved : Rows.HeaderKindsSaid := headerKinds_over
#print axioms headerKinds_proved

end Go.Proofs.Ytfgpcajjnpmoeaa
